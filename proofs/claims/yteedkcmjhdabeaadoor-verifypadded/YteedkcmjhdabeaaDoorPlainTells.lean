/-
  PLAIN: blanks and comments; what tokens tell of a text (no model in this text).
-/
import Derived.Test.YteedkcmjhdabeaaDoorPlainLex2
namespace Go.Proofs.YteedkcmjhdabeaaDoor
namespace Lx
set_option linter.unusedVariables false
set_option linter.unusedSimpArgs false

/-- Of blanks and comments? none: no; else whether a comment stands open. -/
def looseF (o : Bool) : L → Option Bool
  | [] => some o
  | c :: r => if c.toNat = 10 then looseF false r else if c.toNat = 35 then looseF true r else if o = false ∧ c.toNat ≠ 32 ∧ c.toNat ≠ 9 ∧ c.toNat ≠ 13 then none else looseF o r
theorem loose_app : ∀ (x y : L) (o : Bool), looseF o (x ++ y) = (looseF o x).bind (fun o' => looseF o' y)
  | [], y, o => rfl
  | c :: x, y, o => by
    simp only [List.cons_append, looseF]
    split
    · exact loose_app x y false
    · split
      · exact loose_app x y true
      · split
        · rfl
        · exact loose_app x y o
theorem loose_com : ∀ (x : L), (∀ c ∈ x, c.toNat ≠ 10) → looseF true x = some true
  | [], _ => rfl
  | c :: x, h => by
    have h1 := h c List.mem_cons_self
    have ih := loose_com x (fun d hd => h d (List.mem_cons_of_mem _ hd))
    simp only [looseF]
    rw [if_neg h1]
    split
    · exact ih
    · rw [if_neg (by simp)]; exact ih
/-- The tokens rise, each stands at its place, and between them are blanks and ended comments alone. -/
def Tell (l : L) : Nat → List Tok → Nat → Prop
  | at_, [], en => at_ ≤ en ∧ en ≤ l.length ∧ ∃ o, looseF false ((l.take en).drop at_) = some o
  | at_, t :: ts, en => ∃ a : Nat, t.a = (a : Int) ∧ at_ ≤ a ∧ 0 < t.t.length ∧ a + t.t.length ≤ l.length ∧ (l.take (a + t.t.length)).drop a = t.t ∧ looseF false ((l.take a).drop at_) = some false ∧ Tell l (a + t.t.length) ts en
theorem take_more (l : L) (at0 at_ n : Nat) (h0 : at0 ≤ at_) (h1 : at_ + n ≤ l.length) : (l.take (at_ + n)).drop at0 = (l.take at_).drop at0 ++ (l.drop at_).take n := by
  have : l.take (at_ + n) = l.take at_ ++ (l.drop at_).take n := by rw [← List.take_add]
  rw [this, List.drop_append_of_le_length (by rw [List.length_take]; omega)]
theorem step_bl {r : L} {n : Nat} (hr : r ≠ []) (h : step r = .skip n) : (∃ c q, r = c :: q ∧ blN c.toNat = true ∧ n = 1) ∨ (∃ c q, r = c :: q ∧ c.toNat = 35 ∧ n = com r) := by
  cases r with
  | nil => exact absurd rfl hr
  | cons c q =>
    unfold step at h
    rw [List.headD_cons] at h
    split at h
    · rename_i hb; injection h with h; exact .inl ⟨c, q, rfl, hb, h.symm⟩
    · split at h
      · rename_i hc; injection h with h; exact .inr ⟨c, q, rfl, hc, h.symm⟩
      · exfalso
        split at h
        · unfold datT at h; split at h <;> cases h
        · split at h
          · unfold digT at h
            split at h
            · cases h
            · split at h
              · cases h
              · split at h <;> cases h
          · split at h
            · unfold namT at h; split at h <;> cases h
            · split at h
              · unfold namT at h; split at h <;> cases h
              · unfold marT at h
                split at h
                · cases h
                · split at h <;> cases h
theorem com_take (r : L) : ∀ c ∈ r.take (com r), c.toNat ≠ 10 := by
  unfold com
  rw [← take_eq]
  intro c hc
  have : ∀ (p : UInt8 → Bool) (l : L) (x : UInt8), x ∈ l.takeWhile p → p x = true := by
    intro p l
    induction l with
    | nil => intro x hx; simp at hx
    | cons d l ih =>
      intro x hx
      rw [List.takeWhile_cons] at hx
      split at hx
      · rcases List.mem_cons.1 hx with rfl | hx
        · assumption
        · exact ih x hx
      · simp at hx
  have := this _ _ _ hc
  simpa using this
theorem com_end : ∀ (r : L) (c : UInt8) (q : L), r.drop (com r) = c :: q → c.toNat = 10
  | [], c, q, h => by simp [com] at h
  | d :: r, c, q, h => by
    unfold com at h
    by_cases hd : d.toNat = 10
    · simp [List.takeWhile_cons, hd] at h
      rw [← h.1]; exact hd
    · simp only [List.takeWhile_cons, hd, decide_false, Bool.not_false, if_true, List.length_cons, List.drop_succ_cons] at h
      exact com_end r c q h
theorem Sc.tell (l : L) {r : L} {at_ : Nat} {ts : List Tok} {p : Nat} {e : Int} (h : Sc r at_ ts p e) :
    ∀ (at0 : Nat) (o : Bool), r = l.drop at_ → at_ ≤ l.length → at0 ≤ at_ → looseF false ((l.take at_).drop at0) = some o → (o = true → ∀ c q, r = c :: q → c.toNat = 10) → Tell l at0 ts (if e = 0 then l.length else endOf at0 ts) := by
  induction h with
  | done a =>
    intro at0 o hr hl h0 hg ho
    have : l.length ≤ a := by
      rcases Nat.lt_or_ge a l.length with q | q
      · have := congrArg List.length hr; simp at this; omega
      · exact q
    obtain rfl : a = l.length := by omega
    rw [if_pos rfl]
    exact ⟨h0, Nat.le_refl _, o, hg⟩
  | @skip r at_ n ts p e hr h k ih =>
    intro at0 o hl hlen h0 hg ho
    have g := step_good hr
    rw [h] at g
    have hn := g.2
    rw [hl, List.length_drop] at hn
    have hpos := g.1
    have hm := take_more l at0 at_ n h0 (by omega)
    rcases step_bl hr h with ⟨c, q, hc, hb, rfl⟩ | ⟨c, q, hc, hb, hcom⟩
    · refine ih at0 false (by rw [hl, List.drop_drop]) (by omega) (by omega) ?_ (fun h => by cases h)
      rw [hm, loose_app, hg]
      rw [← hl, hc]
      show looseF o [c] = some false
      simp only [blN, Bool.or_eq_true, decide_eq_true_eq] at hb
      simp only [looseF]
      by_cases h10 : c.toNat = 10
      · rw [if_pos h10]
      · have hof : o = false := by
          cases o with
          | false => rfl
          | true => exact absurd (ho rfl c q hc) h10
        subst hof
        rw [if_neg h10, if_neg (by omega), if_neg (by omega)]
    · have hof : o = false := by
        cases o with
        | false => rfl
        | true => have := ho rfl c q hc; omega
      subst hof
      refine ih at0 true (by rw [hl, List.drop_drop]) (by omega) (by omega) ?_ (fun _ c' q' hq => com_end r c' q' (by rw [← hcom]; exact hq))
      rw [hm, loose_app, hg, ← hl, hcom]
      show looseF false (r.take (com r)) = some true
      have hall := com_take r
      have hpos' : 0 < com r := by rw [← hcom]; exact hpos
      rw [hc] at hall hpos' ⊢
      obtain ⟨m, hmm⟩ : ∃ m, com (c :: q) = m + 1 := ⟨com (c :: q) - 1, by omega⟩
      rw [hmm] at hall ⊢
      rw [List.take_succ_cons] at hall ⊢
      simp only [looseF]
      rw [if_neg (by omega), if_pos hb]
      exact loose_com _ (fun d hd => hall d (List.mem_cons_of_mem _ hd))
  | @tok r at_ t ts p e hr h k ih =>
    intro at0 o hl hlen h0 hg ho
    have g := step_good hr
    rw [h] at g
    have hlt : t.t.length ≤ r.length := by have := congrArg List.length g.2.1; simp at this; omega
    have hlr : r.length = l.length - at_ := by rw [hl, List.length_drop]
    have hof : o = false := by
      cases o with
      | false => rfl
      | true =>
        cases hrc : r with
        | nil => exact absurd hrc hr
        | cons c q =>
          have h10 := ho rfl c q hrc
          rw [hrc] at h
          have hs : step (c :: q) = .skip 1 := by
            unfold step; rw [List.headD_cons, if_pos (by rw [h10]; rfl)]
          rw [hs] at h; cases h
    subst hof
    have htx : (l.take (at_ + t.t.length)).drop at_ = t.t := by
      rw [List.drop_take, show at_ + t.t.length - at_ = t.t.length by omega, ← hl]; exact g.2.1.symm
    have hI := ih (at_ + t.t.length) false (by rw [hl, List.drop_drop]) (by omega) (Nat.le_refl _) (by rw [List.drop_take, Nat.sub_self]; rfl) (fun h => by cases h)
    refine ⟨at_, rfl, h0, g.1, by show at_ + t.t.length ≤ l.length; omega, htx, hg, ?_⟩
    have e1 : endOf at0 ({ t with a := (at_ : Int) } :: ts) = endOf (at_ + t.t.length) ts := by show endOf ((at_ : Int).toNat + t.t.length) ts = _; rw [Int.toNat_natCast]
    rw [e1]
    exact hI
  | @err r at_ s e hr h =>
    intro at0 o hl hlen h0 hg ho
    have g := step_good hr
    rw [h] at g
    rw [if_neg g.2.1]
    exact ⟨Nat.le_refl _, Nat.le_trans h0 hlen, false, by show looseF false ((l.take at0).drop at0) = _; rw [List.drop_take, Nat.sub_self]; rfl⟩
theorem Sc.tells {l : L} {ts : List Tok} {p : Nat} {e : Int} (h : Sc l 0 ts p e) : Tell l 0 ts (if e = 0 then l.length else endOf 0 ts) :=
  h.tell l 0 false rfl (Nat.zero_le _) (Nat.le_refl _) rfl (fun h => by cases h)
theorem Tell.ends {l : L} : ∀ {ts : List Tok} {at_ en : Nat}, Tell l at_ ts en → ∀ t, ts.getLast? = some t → ∃ a : Nat, t.a = (a : Int) ∧ a + t.t.length ≤ l.length ∧ endOf at_ ts = a + t.t.length
  | [], at_, en, h, t, ht => by simp at ht
  | [t], at_, en, h, u, ht => by
    simp at ht; subst ht
    obtain ⟨a, h1, h2, h3, h4, h5, h6, h7⟩ := h
    exact ⟨a, h1, h4, by show t.a.toNat + t.t.length = _; rw [h1, Int.toNat_natCast]⟩
  | t :: v :: ts, at_, en, h, u, ht => by
    obtain ⟨a, h1, h2, h3, h4, h5, h6, h7⟩ := h
    obtain ⟨b, k1, k2, k3⟩ := Tell.ends h7 u (by simpa using ht)
    exact ⟨b, k1, k2, k3⟩
end Lx
end Go.Proofs.YteedkcmjhdabeaaDoor
