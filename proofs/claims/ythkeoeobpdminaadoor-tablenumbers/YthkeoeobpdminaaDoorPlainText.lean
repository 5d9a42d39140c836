/-
  PLAIN: the two texts of a number are one.
-/
import Derived.Test.YthkeoeobpdminaaDoorWRefText
namespace Go.Proofs.YthkeoeobpdminaaDoor
open Go.RowKit
set_option linter.unusedVariables false

/-- The digit at place i of u. -/
def dgN (u i : Nat) : UInt8 := UInt8.ofNat (48 + u / 10 ^ i % 10)
/-- The k lowest digits of u, the highest first. -/
def digsN (u : Nat) : Nat → List UInt8
  | 0 => []
  | k + 1 => dgN u k :: digsN u k
theorem digsN_len (u k : Nat) : (digsN u k).length = k := by
  induction k with
  | zero => rfl
  | succ k ih => simp [digsN, ih]
theorem digsN_drop (u p q : Nat) : (digsN u (q + p)).drop q = digsN u p := by
  induction q with
  | zero => simp
  | succ q ih => rw [show q + 1 + p = (q + p) + 1 by omega, digsN, List.drop_succ_cons, ih]

theorem dval_pos {ds : List Int} (h : Digs ds) : 0 ≤ dval ds := by
  induction ds with
  | nil => simp [dval]
  | cons d r ih =>
    have h0 := h 0
    have := ih (fun i => by simpa using h (i + 1))
    simp at h0
    rw [dval]; omega
theorem dval_digit (ds : List Int) : ∀ (_ : Digs ds) (u : Nat) (_ : dval ds = u) (i : Nat), ds.getD i 0 = ((u / 10 ^ i % 10 : Nat) : Int) := by
  induction ds with
  | nil =>
    intro _ u hu i
    have : u = 0 := by simp [dval] at hu; omega
    subst this
    simp
  | cons d r ih =>
    intro h u hu i
    have h0 := h 0
    simp at h0
    have hr : Digs r := fun i => by simpa using h (i + 1)
    have hp := dval_pos hr
    obtain ⟨q, hq⟩ : ∃ q : Nat, dval r = q := ⟨(dval r).toNat, by omega⟩
    rw [dval, hq] at hu
    have huq : u / 10 = q := by omega
    cases i with
    | zero => simp; omega
    | succ i =>
      have := ih hr q hq i
      rw [Nat.pow_succ, Nat.mul_comm, ← Nat.div_div_eq_div_mul, huq]
      simpa using this
theorem refS_eq {ds : List Int} (h : Digs ds) {u : Nat} (hu : dval ds = u) (p k : Nat) : refS p ds k = if k ≤ p ∨ p = 0 then digsN u k else (digsN u k).take (k - p) ++ 46 :: digsN u p := by
  induction k with
  | zero => simp [refS, digsN]
  | succ k ih =>
    have hd : UInt8.ofNat (48 + (ds.getD k 0).toNat) = dgN u k := by rw [dval_digit ds h u hu k]; rfl
    rw [refS, ih, hd]
    by_cases h1 : k + 1 ≤ p ∨ p = 0
    · rw [if_pos h1, if_neg (show ¬ (k = p ∧ 0 < p) by omega), if_pos (show k ≤ p ∨ p = 0 by omega)]; rfl
    · rw [if_neg h1]
      by_cases h2 : k = p
      · subst h2
        rw [if_pos ⟨rfl, by omega⟩, if_pos (by omega), show k + 1 - k = 1 by omega]; rfl
      · rw [if_neg (by omega), if_neg (by omega), show k + 1 - p = (k - p) + 1 by omega, digsN, List.take_succ_cons]; rfl
theorem digsN_pad (u n c : Nat) (h : u < 10 ^ n) : digsN u (n + c) = List.replicate c 48 ++ digsN u n := by
  induction c with
  | zero => simp
  | succ c ih =>
    have : dgN u (n + c) = 48 := by
      unfold dgN
      rw [Nat.div_eq_of_lt (Nat.lt_of_lt_of_le h (Nat.pow_le_pow_right (by omega) (by omega)))]
      rfl
    rw [← Nat.add_assoc, digsN, this, ih, List.replicate_succ]; rfl
theorem dec_digsN (u : Nat) : Lib.decDigits u = digsN u (Lib.nDigits u) := by
  rw [Lib.decDigits_eq]
  generalize Lib.nDigits u = n
  induction n with
  | zero => rfl
  | succ n ih =>
    rw [List.range_succ_eq_map, List.map_cons, List.map_map, digsN, ← ih]
    congr 1
    refine List.map_congr_left fun t ht => ?_
    show Lib.dg u (n + 1 - 1 - (t + 1)) = Lib.dg u (n - 1 - t)
    rw [show n + 1 - 1 - (t + 1) = n - 1 - t by omega]
theorem pad_digsN (p u : Nat) : padTo p (Lib.decDigits u) = digsN u (max (Lib.nDigits u) (p + 1)) := by
  unfold padTo
  rw [Lib.decDigits_length, dec_digsN, ← digsN_pad u _ _ (Lib.lt_pow_nDigits u)]
  congr 1
  omega
theorem len_nDigits {ds : List Int} (h : Digs ds) (hn : Norm ds) {u : Nat} (hu : dval ds = u) (p : Nat) : max (Lib.nDigits u) (p + 1) = max ds.length (p + 1) := by
  by_cases h0 : ds.length = 0
  · have : ds = [] := List.eq_nil_of_length_eq_zero h0
    subst this
    have : u = 0 := by simp [dval] at hu; omega
    subst this
    rw [Lib.nDigits_small (by omega), h0]
    omega
  · have l1 := norm_le h hn (by omega)
    have l2 := (dval_bd ds h).2
    obtain ⟨n, hl⟩ : ∃ n, ds.length = n + 1 := ⟨ds.length - 1, by omega⟩
    rw [hl, show n + 1 - 1 = n by omega, hu] at l1
    rw [hl, hu] at l2
    unfold ten at l1 l2
    rw [Lib.nDigits_unique n u (by exact_mod_cast l1) (by exact_mod_cast l2), hl]
theorem texts_one {ds : List Int} (h : Digs ds) (hn : Norm ds) {u : Nat} (hu : dval ds = u) (neg : Bool) (p : Nat) :
    decS neg p (Lib.decDigits u) = if neg then 45 :: refS p ds (max ds.length (p + 1)) else refS p ds (max ds.length (p + 1)) := by
  have e : pointed p (padTo p (Lib.decDigits u)) = refS p ds (max ds.length (p + 1)) := by
    rw [pad_digsN, len_nDigits h hn hu p, refS_eq h hu]
    obtain ⟨q, hq⟩ : ∃ q, max ds.length (p + 1) = q + p := ⟨max ds.length (p + 1) - p, by omega⟩
    rw [hq]
    unfold pointed
    by_cases h0 : p = 0
    · rw [if_pos h0, if_pos (Or.inr h0)]
    · rw [if_neg h0, if_neg (by omega), digsN_len, show q + p - p = q by omega, digsN_drop]
  unfold decS
  rw [e]

theorem refText_out (v : Int) (p : Int) (hp : ¬ (0 ≤ p ∧ p ≤ 18)) (w : World) :
    Calls Tryd.prog 32 #[.int .i64 v, .int .i64 p] w fun e w' => e = .returned (.tuple #[.string ⟨#[]⟩, .int .i64 1]) ∧ w' = w := by
  by_cases h : p < 0
  · have q1 : decide (p < 0) = true := by simp; omega
    go_enter Tryd.func32, Tryd.ntmps32
    go_wp2
    go_ret2
    exact ⟨rfl, rfl⟩
  · have q1 : decide (p < 0) = false := by simp; omega
    have q2 : decide (18 < p) = true := by simp; omega
    go_enter Tryd.func32, Tryd.ntmps32
    go_wp2
    go_ret2
    exact ⟨rfl, rfl⟩

end Go.Proofs.YthkeoeobpdminaaDoor
