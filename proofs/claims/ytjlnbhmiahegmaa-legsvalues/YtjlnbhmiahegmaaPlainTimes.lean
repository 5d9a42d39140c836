/-
  PLAIN ARITHMETIC: the school's product of two lists of digits. No Go in sight.
-/
import Derived.Test.YtjlnbhmiahegmaaPlainDig
namespace Go.Proofs.Ytjlnbhmiahegmaa
open Go.RowKit

theorem dval_ge {os : List Int} (h : Digs os) (k : Nat) : ten k * os.getD k 0 ≤ dval os := by
  by_cases hk : k < os.length
  · have e := dval_split os (k + 1) (by omega)
    rw [dval_take_succ] at e
    have h1 := (dval_bd _ (digs_take h k)).1
    have h3 : Digs (os.drop (k + 1)) := fun i => by
      have := h (k + 1 + i)
      simp only [List.getD_eq_getElem?_getD, List.getElem?_drop] at *
      exact this
    have h2 := Int.mul_nonneg (show 0 ≤ ten (k + 1) by have := ten_pos (k + 1); omega) (dval_bd _ h3).1
    omega
  · have e : os.getD k 0 = 0 := by simp [List.getElem?_eq_none (Nat.le_of_not_lt hk)]
    rw [e]
    have := (dval_bd os h).1
    simp; exact this

/-- One place of a product's row. -/
theorem times_step {os b : List Int} {i j : Nat} {c ai bj d P s : Int} (hl : i + j < os.length) (h : dval os + ten (i + j) * c = P + ten i * (ai * dval (b.take j))) (ed : os.getD (i + j) 0 = d) (eb : b.getD j 0 = bj) (hs : d + ai * bj + c = s) :
    dval (os.set (i + j) (s % 10)) + ten (i + (j + 1)) * (s / 10) = P + ten i * (ai * dval (b.take (j + 1))) := by
  rw [dval_set _ _ _ hl, ed, dval_take_succ, eb, ← Nat.add_assoc, ten_succ]
  have e1 : 10 * ten (i + j) * (s / 10) = ten (i + j) * (10 * (s / 10)) := by rw [Int.mul_comm 10, Int.mul_assoc]
  have e2 : ten (i + j) * (s % 10 - d) + ten (i + j) * (10 * (s / 10)) = ten (i + j) * (s - d) := by rw [← Int.mul_add]; congr 1; omega
  have e3 : ten (i + j) * (s - d) = ten (i + j) * (ai * bj) + ten (i + j) * c := by rw [← Int.mul_add]; congr 1; omega
  have e4 : ten i * (ai * (dval (b.take j) + ten j * bj)) = ten i * (ai * dval (b.take j)) + ten (i + j) * (ai * bj) := by
    rw [Int.mul_add, Int.mul_add, ten_add]
    have : ten i * (ai * (ten j * bj)) = ten i * ten j * (ai * bj) := by
      rw [Int.mul_assoc (ten i) (ten j), ← Int.mul_assoc ai (ten j), Int.mul_comm ai (ten j), Int.mul_assoc (ten j) ai]
    rw [this]
  omega
/-- Behind the last digit what is carried fits one place. -/
theorem times_top {os a b : List Int} {i : Nat} {c ai : Int} (ha : Digs a) (hb : Digs b) (ho : Digs os) (hi : i < a.length) (ea : a.getD i 0 = ai)
    (h : dval os + ten (i + b.length) * c = dval (a.take i) * dval b + ten i * (ai * dval (b.take b.length))) : os.getD (i + b.length) 0 + c ≤ 9 := by
  rw [dval_take_all b _ (Nat.le_refl _)] at h
  have e : dval (a.take i) * dval b + ten i * (ai * dval b) = dval (a.take (i + 1)) * dval b := by
    rw [dval_take_succ, ea, Int.add_mul, Int.mul_assoc]
  rw [e] at h
  have h1 := dval_bd _ (digs_take ha (i + 1))
  rw [List.length_take, Nat.min_eq_left (by omega)] at h1
  have h2 := dval_bd b hb
  have h3 := dval_ge ho (i + b.length)
  have hp := ten_pos (i + b.length)
  have hp1 := ten_pos (i + 1)
  have h4 : dval (a.take (i + 1)) * dval b < ten (i + 1) * ten b.length := by
    have m1 := Int.mul_le_mul_of_nonneg_right (show dval (a.take (i + 1)) ≤ ten (i + 1) by omega) h2.1
    have m2 := Int.mul_lt_mul_of_pos_left h2.2 hp1
    omega
  rw [← ten_add, show i + 1 + b.length = i + b.length + 1 by omega, ten_succ] at h4
  refine Int.not_lt.1 fun hc => ?_
  have h5 := Int.mul_le_mul_of_nonneg_left (show 10 ≤ os.getD (i + b.length) 0 + c by omega) (show 0 ≤ ten (i + b.length) by omega)
  rw [Int.mul_add] at h5
  omega
/-- A row of the product is done. -/
theorem times_row {os a b : List Int} {i j : Nat} {ai : Int} (ea : a.getD i 0 = ai) (hj : b.length ≤ j) (h : dval os + ten (i + j) * 0 = dval (a.take i) * dval b + ten i * (ai * dval (b.take j))) : dval os = dval (a.take (i + 1)) * dval b := by
  rw [dval_take_all b _ hj] at h
  rw [dval_take_succ, ea, Int.add_mul, Int.mul_assoc]
  simpa using h

end Go.Proofs.Ytjlnbhmiahegmaa
