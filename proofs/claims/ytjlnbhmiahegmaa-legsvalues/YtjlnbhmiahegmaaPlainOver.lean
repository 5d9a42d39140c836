/-
  PLAIN ARITHMETIC: the school's division of lists of digits. No Go in sight.
-/
import Derived.Test.YtjlnbhmiahegmaaPlainTimes
namespace Go.Proofs.Ytjlnbhmiahegmaa
open Go.RowKit

theorem dval_drop (a : List Int) (m : Nat) (h : m < a.length) : dval (a.drop m) = a.getD m 0 + 10 * dval (a.drop (m + 1)) := by
  rw [List.drop_eq_getElem_cons h, dval]
  simp [h]
theorem drop_set (q : List Int) (m : Nat) (c : Int) : (q.set m c).drop (m + 1) = q.drop (m + 1) := by
  rw [List.drop_set]; simp
/-- One digit of a quotient is done. -/
theorem over_digit {a q : List Int} {m : Nat} {B R c R' x : Int} (ha : m < a.length) (hq : m < q.length) (ex : a.getD m 0 = x) (h : dval (a.drop (m + 1)) = dval (q.drop (m + 1)) * B + R) (hc : x + 10 * R = c * B + R') :
    dval (a.drop m) = dval ((q.set m c).drop m) * B + R' := by
  rw [dval_drop a m ha, ex, h, dval_drop (q.set m c) m (by simpa using hq), drop_set]
  have e : (q.set m c).getD m 0 = c := by simp [hq]
  rw [e, Int.add_mul, Int.mul_add, Int.mul_assoc]
  omega
/-- .. and not more than nine times. -/
theorem over_nine {B R c R' x : Int} (hB : 0 < B) (hR : R < B) (hx : x ≤ 9) (h : x + 10 * R = c * B + R') (h0 : B ≤ R') : c ≤ 8 := by
  refine Int.not_lt.1 fun hc => ?_
  have m1 := Int.mul_le_mul_of_nonneg_right (show 9 ≤ c by omega) (show 0 ≤ B by omega)
  omega

end Go.Proofs.Ytjlnbhmiahegmaa
