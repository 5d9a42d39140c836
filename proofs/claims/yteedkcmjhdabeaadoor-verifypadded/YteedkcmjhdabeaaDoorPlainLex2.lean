/-
  PLAIN: cutting a text short, gaps (no model in this text).
-/
import Derived.Test.YteedkcmjhdabeaaDoorPlainLex
namespace Go.Proofs.YteedkcmjhdabeaaDoor
namespace Lx
set_option linter.unusedVariables false
set_option linter.unusedSimpArgs false

def nthN (r : L) (i : Nat) : Nat := (r.getD i 0).toNat
/-- A run does not go on over the place k. -/
def Bd (r : L) (k : Nat) : Prop := k < r.length → 0 < k → rnN (nthN r (k - 1)) = true → rnN (nthN r k) = false
theorem Bd.drop {r : L} {n k : Nat} (h : Bd (r.drop n) k) (hk : 0 < k) : Bd r (n + k) := by
  intro h1 h2 h3
  have e : ∀ i, nthN (r.drop n) i = nthN r (n + i) := fun i => by simp [nthN, List.getD]
  have := h (by rw [List.length_drop]; omega) hk (by rw [e, show n + (k - 1) = n + k - 1 by omega]; exact h3)
  rwa [e] at this
theorem run_stop : ∀ r : L, (run r).length < r.length → rnN (nthN r (run r).length) = false
  | [], h => by simp [run] at h
  | c :: r, h => by
    unfold run at h ⊢
    by_cases hc : rnN c.toNat = true
    · simp only [List.takeWhile_cons, hc, if_true, List.length_cons] at h ⊢
      have := run_stop r (by unfold run; omega)
      unfold run at this
      simpa [nthN, List.getD] using this
    · have hc' : rnN c.toNat = false := by simpa using hc
      simp [List.takeWhile_cons, hc', nthN]
theorem bd_run (r : L) : Bd r (run r).length := fun h _ _ => run_stop r h
theorem fits_stop : ∀ {fs : List Nat} {r : L}, fits fs r = true → fs.length < r.length → rnN (nthN r fs.length) = false
  | [], [], h, hl => by simp at hl
  | [], c :: r, h, hl => by simpa [fits, nthN] using h
  | f :: fs, [], h, hl => by simp at hl
  | f :: fs, c :: r, h, hl => by
    simp only [fits, Bool.and_eq_true] at h
    have := fits_stop h.2 (by simpa using hl)
    simpa [nthN, List.getD] using this
theorem mk_rn {c : Nat} (h : mkN c = true) : rnN c = false := by
  unfold mkN mkL at h
  have := of_decide_eq_true h
  simp only [List.mem_cons, List.not_mem_nil, or_false] at this
  rcases this with rfl|rfl|rfl|rfl|rfl|rfl|rfl|rfl|rfl|rfl|rfl|rfl|rfl|rfl|rfl|rfl|rfl|rfl|rfl <;> rfl
theorem pair_rn {a b : Nat} (h : pairN a b = true) : rnN b = false := by
  unfold pairN prL at h
  have := of_decide_eq_true h
  simp only [List.mem_cons, List.not_mem_nil, or_false, Prod.mk.injEq] at this
  rcases this with ⟨rfl, rfl⟩|⟨rfl, rfl⟩|⟨rfl, rfl⟩|⟨rfl, rfl⟩|⟨rfl, rfl⟩|⟨rfl, rfl⟩|⟨rfl, rfl⟩ <;> rfl
theorem datT_text {r : L} {t : Tok} (h : datT r = .tok t) : t.t = r.take 10 := by
  unfold datT at h
  split at h
  · injection h with h; rw [← h]
  · cases h
theorem digT_text {d : L} {t : Tok} (h : digT d = .tok t) : t.t = d := by
  unfold digT at h
  split at h
  · cases h
  · split at h
    · injection h with h; rw [← h]
    · split at h
      · cases h
      · injection h with h; rw [← h]
theorem namT_text {p : Nat → Bool} {k : Int} {d : L} {t : Tok} (h : namT p k d = .tok t) : t.t = d := by
  unfold namT at h
  split at h
  · injection h with h; rw [← h]
  · cases h
/-- How a token comes about. -/
theorem step_tok {r : L} {t : Tok} (h : step r = .tok t) :
    blN (r.headD 0).toNat = false ∧ (r.headD 0).toNat ≠ 35 ∧
    ((fits form r = true ∧ datT (r.take 10) = .tok t) ∨
     (fits form r = false ∧ ((dgN (r.headD 0).toNat = true ∧ digT (run r) = .tok t) ∨
       (dgN (r.headD 0).toNat = false ∧ smN (r.headD 0).toNat = true ∧ namT smN 1 (run r) = .tok t) ∨
       (dgN (r.headD 0).toNat = false ∧ smN (r.headD 0).toNat = false ∧ cpN (r.headD 0).toNat = true ∧ namT cpN 2 (run r) = .tok t) ∨
       (dgN (r.headD 0).toNat = false ∧ smN (r.headD 0).toNat = false ∧ cpN (r.headD 0).toNat = false ∧ marT r = .tok t)))) := by
  unfold step at h
  split at h
  · cases h
  · rename_i h1
    split at h
    · cases h
    · rename_i h2
      refine ⟨by simpa using h1, h2, ?_⟩
      split at h
      · rename_i h3; exact .inl ⟨h3, h⟩
      · rename_i h3
        refine .inr ⟨by simpa using h3, ?_⟩
        split at h
        · rename_i h4; exact .inl ⟨h4, h⟩
        · rename_i h4
          split at h
          · rename_i h5; exact .inr (.inl ⟨by simpa using h4, h5, h⟩)
          · rename_i h5
            split at h
            · rename_i h6; exact .inr (.inr (.inl ⟨by simpa using h4, by simpa using h5, h6, h⟩))
            · rename_i h6; exact .inr (.inr (.inr ⟨by simpa using h4, by simpa using h5, by simpa using h6, h⟩))
theorem tok_bd {r : L} {t : Tok} (h : step r = .tok t) : Bd r t.t.length := by
  obtain ⟨_, _, ⟨h1, h2⟩ | ⟨h1, h2⟩⟩ := step_tok h
  · have hl := fits_len h1
    simp only [form, List.length_cons, List.length_nil] at hl
    have e : t.t.length = 10 := by rw [datT_text h2, List.length_take, List.length_take]; omega
    rw [e]
    intro h3 _ _
    exact fits_stop (fs := form) h1 h3
  · rcases h2 with ⟨_, h2⟩ | ⟨_, _, h2⟩ | ⟨_, _, _, h2⟩ | ⟨_, _, _, h2⟩
    · rw [digT_text h2]; exact bd_run r
    · rw [namT_text h2]; exact bd_run r
    · rw [namT_text h2]; exact bd_run r
    · unfold marT at h2
      intro h3 h4 h5
      split at h2
      · rename_i hp
        injection h2 with h2
        match r, hp with
        | a :: b :: q, hp =>
          subst h2
          simp only [isPair] at hp
          simp [nthN, pair_rn hp] at h5
      · split at h2
        · rename_i _ hm
          injection h2 with h2
          subst h2
          cases r with
          | nil => simp at h3
          | cons c q => simp only [List.headD_cons] at hm; simp [nthN, mk_rn hm] at h5
        · cases h2
theorem takeW_take (p : UInt8 → Bool) : ∀ (r : L) (k : Nat), (r.take k).takeWhile p = (r.takeWhile p).take k
  | [], k => by simp
  | c :: r, 0 => by simp
  | c :: r, k + 1 => by
    simp only [List.take_succ_cons, List.takeWhile_cons]
    by_cases hc : p c = true
    · simp [hc, takeW_take p r k]
    · simp [hc]
theorem run_take {r : L} {k : Nat} (h : (run r).length ≤ k) : run (r.take k) = run r := by
  unfold run at h ⊢
  rw [takeW_take, List.take_of_length_le h]
theorem run_cut {r : L} {k : Nat} (hk : 0 < k) (hb : Bd r k) (hl : k < (run r).length → False) : run (r.take k) = run r := run_take (by rcases Nat.lt_or_ge k (run r).length with q | q; exact (hl q).elim; exact q)
theorem run_in {r : L} {i : Nat} (h : i < (run r).length) : rnN (nthN r i) = true := by
  have hl := run_len r
  have hm : (run r)[i] ∈ run r := List.getElem_mem h
  have h1 : rnN ((run r)[i]).toNat = true := by
    have : ∀ (p : UInt8 → Bool) (l : L) (x : UInt8), x ∈ l.takeWhile p → p x = true := by
      intro p l
      induction l with
      | nil => intro x hx; simp at hx
      | cons c l ih =>
        intro x hx
        rw [List.takeWhile_cons] at hx
        split at hx
        · rcases List.mem_cons.1 hx with rfl | hx
          · assumption
          · exact ih x hx
        · simp at hx
    exact this (fun c => rnN c.toNat) r _ hm
  have e : (run r)[i] = r[i]'(by omega) := by
    have := run_eq r
    have h2 : (run r)[i]? = (r.take (run r).length)[i]? := congrArg (fun l : L => l[i]?) this
    rw [List.getElem?_take_of_lt h, List.getElem?_eq_getElem h, List.getElem?_eq_getElem (show i < r.length by omega)] at h2
    injection h2
  rw [e] at h1
  simpa [nthN, List.getD, show i < r.length by omega] using h1
theorem run_short {r : L} {k : Nat} (hk : 0 < k) (hb : Bd r k) (h : k < (run r).length) : False := by
  have hl := run_len r
  have := hb (by omega) hk (run_in (by omega))
  rw [run_in h] at this
  cases this
theorem run_bd {r : L} {k : Nat} (hk : 0 < k) (hb : Bd r k) : run (r.take k) = run r := run_cut hk hb (run_short hk hb)
theorem fits_take : ∀ (fs : List Nat) (r : L) (k : Nat), fs.length ≤ k → fits fs r = true → fits fs (r.take k) = true
  | [], [], k, _, h => by simp [fits]
  | [], c :: r, 0, _, h => by simp [fits]
  | [], c :: r, k + 1, _, h => by simpa [fits] using h
  | f :: fs, [], k, _, h => by simp [fits] at h
  | f :: fs, c :: r, 0, hk, h => by simp at hk
  | f :: fs, c :: r, k + 1, hk, h => by
    simp only [fits, Bool.and_eq_true] at h
    simp only [List.take_succ_cons, fits, Bool.and_eq_true]
    exact ⟨h.1, fits_take fs r k (by simpa using hk) h.2⟩
theorem fits_untake : ∀ (fs : List Nat) (r : L) (k : Nat), (k < r.length → k = fs.length → rnN (nthN r k) = false) → fits fs (r.take k) = true → fits fs r = true
  | [], [], k, _, h => rfl
  | [], c :: r, 0, hk, h => by have := hk (by simp) rfl; simpa [fits, nthN] using this
  | [], c :: r, k + 1, hk, h => by simpa [fits] using h
  | f :: fs, [], k, _, h => by simp [fits] at h
  | f :: fs, c :: r, 0, hk, h => by simp [fits] at h
  | f :: fs, c :: r, k + 1, hk, h => by
    simp only [List.take_succ_cons, fits, Bool.and_eq_true] at h
    simp only [fits, Bool.and_eq_true]
    exact ⟨h.1, fits_untake fs r k (fun a b => by have := hk (by simpa using a) (by simpa using b); simpa [nthN, List.getD] using this) h.2⟩
theorem fits_last {r : L} (h : fits form r = true) : rnN (nthN r 9) = true := by
  have hl : 10 ≤ r.length := fits_len h
  match r, hl, h with
  | c0 :: c1 :: c2 :: c3 :: c4 :: c5 :: c6 :: c7 :: c8 :: c9 :: q, _, h =>
    simp only [form, fits, Bool.and_eq_true] at h
    obtain ⟨_, _, _, _, _, _, _, _, _, h9, _⟩ := h
    have : dgN c9.toNat = true := by simpa [fitN] using h9
    simpa [nthN] using rn_dg this
theorem head_take {r : L} {k : Nat} (hk : 0 < k) : (r.take k).headD 0 = r.headD 0 := by
  cases r with
  | nil => simp
  | cons c r => cases k with
    | zero => omega
    | succ k => simp
theorem step_cut {r : L} {k : Nat} {t : Tok} (hr : r ≠ []) (h : step r = .tok t) (hl : t.t.length ≤ k) (hb : Bd r k) : step (r.take k) = .tok t := by
  have g := step_good hr
  rw [h] at g
  have hk : 0 < k := by have := g.1; omega
  obtain ⟨h1, h2, h3⟩ := step_tok h
  have hrun := run_bd hk hb
  have hh : (r.take k).headD 0 = r.headD 0 := head_take hk
  unfold step
  rw [hh, if_neg (by rw [h1]; simp), if_neg h2]
  rcases h3 with ⟨h3, h4⟩ | ⟨h3, h4⟩
  · have hle := fits_len h3
    simp only [form, List.length_cons, List.length_nil] at hle
    have e : t.t.length = 10 := by rw [datT_text h4, List.length_take, List.length_take]; omega
    rw [if_pos (fits_take form r k (by show 10 ≤ k; omega) h3), List.take_take, Nat.min_eq_left (by omega)]
    exact h4
  · have hf : fits form (r.take k) = false := by
      cases hx : fits form (r.take k) with
      | false => rfl
      | true =>
        have := fits_untake form r k (fun a b => by
          have b' : k = 10 := b
          have h9 := fits_last hx
          refine hb a hk ?_
          rw [b'] at h9 ⊢
          simpa [nthN, List.getD, List.getElem?_take_of_lt] using h9) hx
        rw [this] at h3; cases h3
    rw [if_neg (by rw [hf]; simp), hrun]
    rcases h4 with ⟨a, h4⟩ | ⟨a, b, h4⟩ | ⟨a, b, c, h4⟩ | ⟨a, b, c, h4⟩
    · rw [if_pos a]; exact h4
    · rw [if_neg (by rw [a]; simp), if_pos b]; exact h4
    · rw [if_neg (by rw [a]; simp), if_neg (by rw [b]; simp), if_pos c]; exact h4
    · rw [if_neg (by rw [a]; simp), if_neg (by rw [b]; simp), if_neg (by rw [c]; simp)]
      unfold marT at h4 ⊢
      rw [hh]
      split at h4
      · rename_i hp
        injection h4 with h4
        match r, hp with
        | x :: y :: q, hp =>
          have e : t.t.length = 2 := by rw [← h4]; simp
          have hk2 : 2 ≤ k := by omega
          match k, hk2 with
          | k + 2, _ =>
            rw [if_pos (by simpa [isPair] using hp)]
            rw [← h4]; simp
      · rename_i hp
        have hp' : isPair (r.take k) = false := by
          match r, k, hp with
          | [], k, hp => simp [isPair]
          | [x], 0, hp => simp [isPair]
          | [x], k + 1, hp => simp [isPair]
          | x :: y :: q, 0, hp => simp [isPair]
          | x :: y :: q, 1, hp => simp [isPair]
          | x :: y :: q, k + 2, hp => simpa [isPair] using hp
        rw [if_neg (by rw [hp']; simp)]
        split at h4
        · rename_i hm
          rw [if_pos hm, List.take_take, Nat.min_eq_left hk]
          exact h4
        · cases h4
/-- A token's own text is cut into it. -/
theorem step_self {r : L} {t : Tok} (hr : r ≠ []) (h : step r = .tok t) : step t.t = .tok t := by
  have g := step_good hr
  rw [h] at g
  have := step_cut hr h (Nat.le_refl _) (tok_bd h)
  rwa [← g.2.1] at this
theorem step_gap {r : L} {t : Tok} (hr : r ≠ []) (h : step r = .tok t) (q : L) : step (t.t ++ 32 :: q) = .tok t := by
  have g := step_good hr
  rw [h] at g
  have hs := step_self hr h
  rw [step_sep 32 q rfl (by intro e; have := g.1; rw [e] at this; simp at this) (.inr fun n => by rw [hs]; simp), hs]
/-- Where the tokens end. -/
def endOf (at_ : Nat) : List Tok → Nat
  | [] => at_
  | t :: ts => endOf (t.a.toNat + t.t.length) ts
theorem endOf_any (x y : Nat) (t : Tok) (ts : List Tok) : endOf x (t :: ts) = endOf y (t :: ts) := rfl
/-- The text up to where the tokens end is cut into just these. -/
theorem Sc.cut {r : L} {at_ : Nat} {ts : List Tok} {p : Nat} {e : Int} (h : Sc r at_ ts p e) :
    ∃ k, k ≤ r.length ∧ (ts ≠ [] → 0 < k ∧ Bd r k) ∧ endOf at_ ts = at_ + (if ts = [] then 0 else k) ∧ Sc (r.take (if ts = [] then 0 else k)) at_ ts 0 0 ∧ (e ≠ 0 → at_ + (if ts = [] then 0 else k) ≤ p ∧ p < at_ + r.length) := by
  induction h with
  | done a => exact ⟨0, by simp, fun h => absurd rfl h, by simp [endOf], by simpa using Sc.done a, fun h => absurd rfl h⟩
  | @skip r at_ n ts p e hr h k ih =>
    have g := step_good hr
    rw [h] at g
    obtain ⟨j, h1, h2, h3, h4, h5⟩ := ih
    rw [List.length_drop] at h1 h5
    by_cases ht : ts = []
    · subst ht
      refine ⟨0, by simp, fun h => absurd rfl h, by simp [endOf], by simpa using Sc.done at_, fun he => ?_⟩
      obtain ⟨q1, q2⟩ := h5 he
      simp only [if_true] at q1 ⊢
      have := g.2
      omega
    · obtain ⟨q1, q2⟩ := h2 ht
      rw [if_neg ht] at h3 h4 h5
      have hn := g.2
      have hn0 := g.1
      refine ⟨n + j, by omega, fun _ => ⟨by omega, q2.drop q1⟩, ?_, ?_, fun he => by have := h5 he; rw [if_neg ht]; omega⟩
      · rw [if_neg ht]
        cases ts with
        | nil => exact absurd rfl ht
        | cons t ts => rw [endOf_any at_ (at_ + n), h3]; omega
      · rw [if_neg ht]
        have hs : step (r.take (n + j)) = .skip n := by
          unfold step at h ⊢
          rw [head_take (by omega)]
          split at h
          · rename_i hb; rw [if_pos hb]; exact h
          · rename_i hb
            rw [if_neg hb]
            split at h
            · rename_i hc
              rw [if_pos hc]
              injection h with h
              unfold com at h ⊢
              rw [takeW_take, List.length_take, h, Nat.min_eq_right (by omega)]
            · exfalso
              rename_i hc
              have : step r = .skip n := by unfold step; rw [if_neg hb, if_neg hc]; exact h
              split at h
              · unfold datT at h; split at h <;> cases h
              · split at h
                · unfold digT at h
                  split at h
                  · cases h
                  · split at h
                    · cases h
                    · split at h <;> cases h
                · split at h
                  · unfold namT at h; split at h <;> cases h
                  · split at h
                    · unfold namT at h; split at h <;> cases h
                    · unfold marT at h
                      split at h
                      · cases h
                      · split at h <;> cases h
        refine Sc.skip (by intro e; have := congrArg List.length e; simp at this; rcases this with q | q; omega; exact hr q) hs ?_
        rw [List.drop_take, show n + j - n = j by omega]
        exact h4
  | @tok r at_ t ts p e hr h k ih =>
    have g := step_good hr
    rw [h] at g
    have hl : t.t.length ≤ r.length := by have := congrArg List.length g.2.1; simp at this; omega
    have h0 := g.1
    obtain ⟨j, h1, h2, h3, h4, h5⟩ := ih
    rw [List.length_drop] at h1 h5
    by_cases ht : ts = []
    · subst ht
      simp only [if_true] at h3 h4 h5
      refine ⟨t.t.length, hl, fun _ => ⟨h0, tok_bd h⟩, by simp [endOf], ?_, fun he => by have := h5 he; rw [if_neg (by simp)]; omega⟩
      rw [if_neg (by simp), ← g.2.1]
      refine Sc.tok (by intro e; rw [e] at h0; simp at h0) (step_self hr h) ?_
      simpa using Sc.done _
    · obtain ⟨q1, q2⟩ := h2 ht
      rw [if_neg ht] at h3 h4 h5
      have hb := q2.drop q1
      refine ⟨t.t.length + j, by omega, fun _ => ⟨by omega, hb⟩, ?_, ?_, fun he => by have := h5 he; rw [if_neg (by simp)]; omega⟩
      · rw [if_neg (by simp)]
        show endOf ((at_ : Int).toNat + t.t.length) ts = _
        rw [Int.toNat_natCast, h3]; omega
      · rw [if_neg (by simp)]
        refine Sc.tok (by intro e; have := congrArg List.length e; simp at this; rcases this with q | q; omega; exact hr q) (step_cut hr h (by omega) hb) ?_
        rw [List.drop_take, show t.t.length + j - t.t.length = j by omega]
        exact h4
  | @err r at_ s e hr h =>
    have g := step_good hr
    rw [h] at g
    exact ⟨0, by simp, fun h => absurd rfl h, by simp [endOf], by simpa using Sc.done at_, fun _ => by simp; exact g.1⟩
end Lx
end Go.Proofs.YteedkcmjhdabeaaDoor
