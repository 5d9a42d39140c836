/-
  PLAIN ARITHMETIC: numbers as lists of decimal digits, the lowest first. No Go in sight.
-/
import Derived.Test.YtjlnbhmiahegmaaPlainMul
namespace Go.Proofs.Ytjlnbhmiahegmaa
open Go.RowKit

/-- The number that a list of digits means. -/
def dval : List Int → Int
  | [] => 0
  | d :: ds => d + 10 * dval ds
def Digs (ds : List Int) : Prop := ∀ i, 0 ≤ ds.getD i 0 ∧ ds.getD i 0 ≤ 9
/-- No 0 at the end. -/
def Norm (ds : List Int) : Prop := ds.length = 0 ∨ ¬ ds.getD (ds.length - 1) 0 = 0

/-- The powers of ten, behind a name. -/
def ten (k : Nat) : Int := 10 ^ k
theorem ten_zero : ten 0 = 1 := rfl
theorem ten_succ (k : Nat) : ten (k + 1) = 10 * ten k := by unfold ten; rw [Int.pow_succ, Int.mul_comm]
theorem ten_pos (k : Nat) : 0 < ten k := Int.pow_pos (by decide)
theorem ten_add (a b : Nat) : ten (a + b) = ten a * ten b := Int.pow_add _ _ _
theorem ten_le {a b : Nat} (h : a ≤ b) : ten a ≤ ten b := by
  obtain ⟨c, rfl⟩ := Nat.exists_eq_add_of_le h
  have h1 := ten_pos c
  have h2 := ten_pos a
  rw [ten_add]
  have := Int.mul_le_mul_of_nonneg_left (show 1 ≤ ten c by omega) (show 0 ≤ ten a by omega)
  omega

theorem dval_append (a b : List Int) : dval (a ++ b) = dval a + ten a.length * dval b := by
  induction a with
  | nil => simp [dval, ten_zero]
  | cons d a ih =>
    rw [List.cons_append, dval, dval, ih, List.length_cons, ten_succ, Int.mul_add, ← Int.mul_assoc, Int.add_assoc]
theorem dval_snoc (a : List Int) (d : Int) : dval (a ++ [d]) = dval a + ten a.length * d := by
  rw [dval_append]; simp [dval]
theorem dval_take_succ (a : List Int) (k : Nat) : dval (a.take (k + 1)) = dval (a.take k) + ten k * a.getD k 0 := by
  by_cases h : k < a.length
  · rw [List.take_succ_eq_append_getElem h, dval_snoc, List.length_take, Nat.min_eq_left (by omega)]
    simp [h]
  · rw [List.take_of_length_le (by omega), List.take_of_length_le (by omega)]
    have : a.getD k 0 = 0 := by simp [List.getElem?_eq_none (Nat.le_of_not_lt h)]
    rw [this]; simp
theorem dval_take_all (a : List Int) (k : Nat) (h : a.length ≤ k) : dval (a.take k) = dval a := by rw [List.take_of_length_le h]
theorem dval_split (a : List Int) (k : Nat) (h : k ≤ a.length) : dval a = dval (a.take k) + ten k * dval (a.drop k) := by
  have := dval_append (a.take k) (a.drop k)
  rw [List.take_append_drop, List.length_take, Nat.min_eq_left h] at this
  exact this

theorem digs_nil : Digs [] := fun i => by simp
theorem digs_take {a : List Int} (h : Digs a) (k : Nat) : Digs (a.take k) := fun i => by
  by_cases hi : i < k
  · have := h i
    simp only [List.getD_eq_getElem?_getD, List.getElem?_take, if_pos hi] at *
    exact this
  · simp [List.getElem?_take, hi]
theorem digs_snoc {a : List Int} (h : Digs a) {d : Int} (h0 : 0 ≤ d) (h1 : d ≤ 9) : Digs (a ++ [d]) := fun i => by
  have := h i
  by_cases hi : i < a.length
  · simp only [List.getD_eq_getElem?_getD, List.getElem?_append_left hi] at *; exact this
  · by_cases hj : i = a.length
    · subst hj; simp [h0, h1]
    · have : (a ++ [d])[i]? = none := List.getElem?_eq_none (by simp; omega)
      simp [this]
theorem digs_cons {a : List Int} (h : Digs a) {d : Int} (h0 : 0 ≤ d) (h1 : d ≤ 9) : Digs (d :: a) := fun i => by
  cases i with
  | zero => simp [h0, h1]
  | succ i => simpa using h i
theorem digs_tail {a : List Int} {d : Int} (h : Digs (d :: a)) : Digs a := fun i => by simpa using h (i + 1)
theorem digs_set {a : List Int} (h : Digs a) (k : Nat) {d : Int} (h0 : 0 ≤ d) (h1 : d ≤ 9) : Digs (a.set k d) := fun i => by
  have := h i
  simp only [List.getD_eq_getElem?_getD, List.getElem?_set] at *
  split
  · split
    · simp [h0, h1]
    · simp
  · exact this
theorem digs_replicate (n : Nat) : Digs (List.replicate n 0) := fun i => by
  simp only [List.getD_eq_getElem?_getD, List.getElem?_replicate]; split <;> simp

theorem dval_bd : ∀ (a : List Int), Digs a → 0 ≤ dval a ∧ dval a < ten a.length
  | [], _ => by simp [dval, ten_zero]
  | d :: a, h => by
    obtain ⟨i1, i2⟩ := dval_bd a (digs_tail h)
    have h0 := h 0
    simp at h0
    rw [dval, List.length_cons, ten_succ]
    omega
theorem dval_replicate (n : Nat) : dval (List.replicate n 0) = 0 := by
  induction n with
  | zero => rfl
  | succ n ih => rw [List.replicate_succ, dval, ih]; rfl
theorem dval_set : ∀ (a : List Int) (k : Nat) (d : Int), k < a.length → dval (a.set k d) = dval a + ten k * (d - a.getD k 0)
  | [], k, d, h => by simp at h
  | x :: a, 0, d, h => by simp [dval, ten_zero]; omega
  | x :: a, k + 1, d, h => by
    rw [List.set_cons_succ, dval, dval, dval_set a k d (by simpa using h), ten_succ]
    have e : (x :: a).getD (k + 1) 0 = a.getD k 0 := by simp
    rw [e, Int.mul_add, Int.mul_assoc]; omega

/-- A number without a 0 at the end is at least as great as its first power. -/
theorem norm_le {a : List Int} (h : Digs a) (hn : Norm a) (h0 : 0 < a.length) : ten (a.length - 1) ≤ dval a := by
  have hl : ¬ a.getD (a.length - 1) 0 = 0 := hn.resolve_left (by omega)
  have hd := h (a.length - 1)
  have e := dval_split a (a.length - 1) (by omega)
  have e2 : a.drop (a.length - 1) = [a.getD (a.length - 1) 0] := by
    have hlt : a.length - 1 < a.length := by omega
    rw [List.drop_eq_getElem_cons hlt, List.drop_of_length_le (by omega)]
    simp [hlt]
  have h3 := dval_bd _ (digs_take h (a.length - 1))
  have h4 := ten_pos (a.length - 1)
  have h5 := Int.mul_le_mul_of_nonneg_left (show 1 ≤ a.getD (a.length - 1) 0 by omega) (show 0 ≤ ten (a.length - 1) by omega)
  rw [e, e2]; simp only [dval, Int.mul_zero, Int.add_zero]; omega
theorem norm_zero {a : List Int} (h : Digs a) (hn : Norm a) : dval a = 0 ↔ a.length = 0 := by
  constructor
  · intro hz
    by_cases h0 : 0 < a.length
    · have := norm_le h hn h0
      have := ten_pos (a.length - 1)
      omega
    · omega
  · intro hz; rw [List.eq_nil_of_length_eq_zero hz]; rfl
/-- More digits: the greater number. -/
theorem norm_longer {a b : List Int} (ha : Digs a) (hna : Norm a) (hb : Digs b) (h : b.length < a.length) : dval b < dval a := by
  have h1 := norm_le ha hna (by omega)
  have h2 := (dval_bd b hb).2
  have h3 := ten_le (show b.length ≤ a.length - 1 by omega)
  omega
/-- How many digits at most. -/
theorem norm_len {a : List Int} (h : Digs a) (hn : Norm a) {k : Nat} (hk : dval a < ten k) : a.length ≤ k := by
  refine Nat.le_of_not_lt fun hc => ?_
  have h1 := norm_le h hn (by omega)
  have h2 := ten_le (show k ≤ a.length - 1 by omega)
  omega
/-- Digits that are one above a place: the place decides. -/
theorem dig_decides {a b : List Int} (ha : Digs a) (hb : Digs b) (k : Nat) (hka : k < a.length) (hkb : k < b.length) (he : a.drop (k + 1) = b.drop (k + 1)) (hlt : b.getD k 0 < a.getD k 0) : dval b < dval a := by
  rw [dval_split a (k + 1) (by omega), dval_split b (k + 1) (by omega), he, dval_take_succ, dval_take_succ]
  have h1 := dval_bd _ (digs_take ha k)
  have h2 := dval_bd _ (digs_take hb k)
  rw [List.length_take, Nat.min_eq_left (by omega)] at h1 h2
  have h3 := Int.mul_le_mul_of_nonneg_left (show b.getD k 0 + 1 ≤ a.getD k 0 by omega) (show 0 ≤ ten k by have := ten_pos k; omega)
  rw [Int.mul_add] at h3
  omega

end Go.Proofs.Ytjlnbhmiahegmaa
