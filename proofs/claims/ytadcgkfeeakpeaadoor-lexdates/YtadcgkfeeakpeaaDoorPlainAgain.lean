/-
  PLAIN: tokens written with gaps are cut into the same tokens (no model in this text).
-/
import Derived.Test.YtadcgkfeeakpeaaDoorPlainTells
namespace Go.Proofs.YtadcgkfeeakpeaaDoor
namespace Lx
set_option linter.unusedVariables false
set_option linter.unusedSimpArgs false

theorem loose_open : ∀ (g : L), looseF true g = some false → ∃ x y, g = x ++ 10 :: y ∧ (∀ c ∈ x, c.toNat ≠ 10) ∧ looseF false y = some false
  | [], h => by simp [looseF] at h
  | c :: g, h => by
    by_cases hc : c.toNat = 10
    · have : c = 10 := UInt8.toNat_inj.1 hc
      subst this
      exact ⟨[], g, rfl, by simp, by simpa [looseF] using h⟩
    · have h' : looseF true g = some false := by
        simp only [looseF] at h
        rw [if_neg hc] at h
        split at h
        · exact h
        · rw [if_neg (by simp)] at h; exact h
      obtain ⟨x, y, rfl, h1, h2⟩ := loose_open g h'
      exact ⟨c :: x, y, rfl, fun d hd => by rcases List.mem_cons.1 hd with rfl | hd; exact hc; exact h1 d hd, h2⟩
theorem com_at (x q : L) (h : ∀ c ∈ x, c.toNat ≠ 10) : com (x ++ 10 :: q) = x.length := by
  induction x with
  | nil => simp [com]
  | cons c x ih =>
    have hc := h c List.mem_cons_self
    have := ih (fun d hd => h d (List.mem_cons_of_mem _ hd))
    unfold com at this ⊢
    simp only [List.cons_append, List.takeWhile_cons, hc, decide_false, Bool.not_false, if_true, List.length_cons]
    omega
theorem gap_sc : ∀ (n : Nat) (g q : L) (at_ : Nat) (ts : List Tok) (p : Nat) (e : Int), g.length ≤ n → looseF false g = some false → Sc q (at_ + g.length) ts p e → Sc (g ++ q) at_ ts p e
  | _, [], q, at_, ts, p, e, _, _, h => by simpa using h
  | 0, c :: g, q, at_, ts, p, e, hn, _, _ => by simp at hn
  | n + 1, c :: g, q, at_, ts, p, e, hn, hl, h => by
    have hn' : g.length ≤ n := by simpa using hn
    by_cases h35 : c.toNat = 35
    · have h' : looseF true g = some false := by
        simp only [looseF] at hl
        rw [if_neg (by omega), if_pos h35] at hl
        exact hl
      obtain ⟨x, y, rfl, h1, h2⟩ := loose_open g h'
      have hs : step ((c :: (x ++ 10 :: y)) ++ q) = .skip (x.length + 1) := by
        have e1 : (c :: (x ++ 10 :: y)) ++ q = (c :: x) ++ 10 :: (y ++ q) := by simp
        rw [e1]
        unfold step
        rw [show ((c :: x) ++ 10 :: (y ++ q)).headD 0 = c from rfl, if_neg (by rw [h35]; decide), if_pos h35, com_at (c :: x) _ (fun d hd => by rcases List.mem_cons.1 hd with rfl | hd; omega; exact h1 d hd)]
        rfl
      refine .skip (by simp) hs ?_
      have e2 : ((c :: (x ++ 10 :: y)) ++ q).drop (x.length + 1) = (10 :: y) ++ q := by simp
      rw [e2]
      refine gap_sc n (10 :: y) q _ ts p e (by simp at hn' ⊢; omega) (by simpa [looseF] using h2) ?_
      have e3 : at_ + (x.length + 1) + (10 :: y : L).length = at_ + (c :: (x ++ 10 :: y)).length := by simp; omega
      rw [e3]
      exact h
    · have hb : blN c.toNat = true ∧ looseF false g = some false := by
        simp only [looseF] at hl
        by_cases h10 : c.toNat = 10
        · rw [if_pos h10] at hl; exact ⟨by unfold blN; rw [h10]; rfl, hl⟩
        · rw [if_neg h10, if_neg h35] at hl
          split at hl
          · cases hl
          · rename_i hq
            refine ⟨?_, hl⟩
            unfold blN
            simp only [Bool.or_eq_true, decide_eq_true_eq]
            by_cases a : c.toNat = 32
            · exact .inl (.inl (.inl a))
            · by_cases b : c.toNat = 9
              · exact .inl (.inl (.inr b))
              · by_cases d : c.toNat = 13
                · exact .inr d
                · exact absurd ⟨trivial, a, b, d⟩ hq
      have hs : step ((c :: g) ++ q) = .skip 1 := by
        unfold step
        rw [show ((c :: g) ++ q).headD 0 = c from rfl, if_pos hb.1]
      refine .skip (by simp) hs ?_
      have e2 : ((c :: g) ++ q).drop 1 = g ++ q := rfl
      rw [e2]
      refine gap_sc n g q _ ts p e hn' hb.2 ?_
      have e3 : at_ + 1 + g.length = at_ + (c :: g).length := by simp; omega
      rw [e3]
      exact h
/-- The tokens' texts, a blank and the gap behind each. -/
def body (g : L) : List Tok → L
  | [] => []
  | t :: ts => t.t ++ 32 :: (g ++ body g ts)
theorem body_snoc (g : L) : ∀ (xs : List Tok) (t : Tok), body g (xs ++ [t]) = body g xs ++ (t.t ++ 32 :: g)
  | [], t => by simp [body]
  | x :: xs, t => by
    simp only [List.cons_append, body]
    rw [body_snoc g xs t]
    simp
def z0 (t : Tok) : Tok := { t with a := 0 }
/-- Each token comes about by a step. -/
theorem Sc.each {r : L} {at_ : Nat} {ts : List Tok} {p : Nat} {e : Int} (h : Sc r at_ ts p e) : ∀ t ∈ ts, ∃ q, q ≠ [] ∧ step q = .tok (z0 t) ∧ t.t.length ≤ r.length := by
  induction h with
  | done a => intro t ht; simp at ht
  | skip hr h k ih =>
    intro t ht
    obtain ⟨q, h1, h2, h3⟩ := ih t ht
    rw [List.length_drop] at h3
    exact ⟨q, h1, h2, by omega⟩
  | @tok r at_ t0 ts p e hr h k ih =>
    intro t ht
    rcases List.mem_cons.1 ht with rfl | ht
    · have g := step_good hr
      rw [h] at g
      refine ⟨r, hr, ?_, by have := congrArg List.length g.2.1; simp at this; show t0.t.length ≤ r.length; omega⟩
      rw [h]
      have : t0.a = 0 := g.2.2
      cases t0
      simp only at this
      subst this
      rfl
    · obtain ⟨q, h1, h2, h3⟩ := ih t ht
      rw [List.length_drop] at h3
      exact ⟨q, h1, h2, by omega⟩
  | err hr h => intro t ht; simp at ht
theorem body_sc (g : L) (hg : looseF false g = some false) : ∀ (ts : List Tok) (at_ : Nat), (∀ t ∈ ts, ∃ q, q ≠ [] ∧ step q = .tok (z0 t)) → ∃ us, Sc (body g ts) at_ us 0 0 ∧ us.map z0 = ts.map z0
  | [], at_, _ => ⟨[], .done _, rfl⟩
  | t :: ts, at_, h => by
    obtain ⟨q, h1, h2⟩ := h t List.mem_cons_self
    have hs : step (body g (t :: ts)) = .tok (z0 t) := step_gap h1 h2 (g ++ body g ts)
    obtain ⟨us, h3, h4⟩ := body_sc g hg ts (at_ + t.t.length + 1 + g.length) (fun u hu => h u (List.mem_cons_of_mem _ hu))
    have h5 := gap_sc g.length g (body g ts) (at_ + t.t.length + 1) us 0 0 (Nat.le_refl _) hg h3
    have h6 : Sc (32 :: (g ++ body g ts)) (at_ + t.t.length) us 0 0 := .skip (n := 1) (by simp) rfl (by simpa using h5)
    refine ⟨{ z0 t with a := at_ } :: us, .tok (t := z0 t) ?_ hs ?_, ?_⟩
    · intro e
      have := congrArg List.length e
      simp [body] at this
    · have e1 : (body g (t :: ts)).drop (z0 t).t.length = 32 :: (g ++ body g ts) := by
        show (t.t ++ 32 :: (g ++ body g ts)).drop t.t.length = _
        simp
      rw [e1]
      exact h6
    · simp only [List.map_cons, h4]
      rfl
theorem Sc.again {l : L} {ts : List Tok} {p : Nat} {e : Int} (h : Sc l 0 ts p e) (g : L) (hg : looseF false g = some false) : ∃ us, Sc (g ++ body g ts) 0 us 0 0 ∧ us.map z0 = ts.map z0 := by
  obtain ⟨us, h1, h2⟩ := body_sc g hg ts (0 + g.length) (fun t ht => by obtain ⟨q, a, b, _⟩ := h.each t ht; exact ⟨q, a, b⟩)
  exact ⟨us, gap_sc g.length g _ 0 us 0 0 (Nat.le_refl _) hg h1, h2⟩
theorem z0_at {us ts : List Tok} (h : us.map z0 = ts.map z0) (i : Nat) (hi : i < ts.length) : us.length = ts.length ∧ ∃ a, us.getD i ⟨0, [], 0, 0, 0, 0, 0, 0, 0⟩ = { ts.getD i ⟨0, [], 0, 0, 0, 0, 0, 0, 0⟩ with a := a } := by
  have hl : us.length = ts.length := by have := congrArg List.length h; simpa using this
  refine ⟨hl, ?_⟩
  have h1 : (us.map z0)[i]? = (ts.map z0)[i]? := by rw [h]
  rw [List.getElem?_map, List.getElem?_map, List.getElem?_eq_getElem (by omega), List.getElem?_eq_getElem hi] at h1
  simp only [Option.map_some, Option.some.injEq] at h1
  rw [show us.getD i _ = us[i]'(by omega) by simp [List.getD, show i < us.length by omega], show ts.getD i _ = ts[i] by simp [List.getD, hi]]
  refine ⟨(us[i]'(by omega)).a, ?_⟩
  generalize us[i]'(by omega) = u at h1 ⊢
  generalize ts[i] = t at h1 ⊢
  cases u; cases t
  simp only [z0, Tok.mk.injEq] at h1
  simp only [Tok.mk.injEq]
  simp_all
end Lx
end Go.Proofs.YtadcgkfeeakpeaaDoor
