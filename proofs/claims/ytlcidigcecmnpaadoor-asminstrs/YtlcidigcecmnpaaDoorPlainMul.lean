/-
  PLAIN ARITHMETIC of layer 1: sizes and signs; products.
-/
import Derived.Test.YtlcidigcecmnpaaDoorPlain
namespace Go.Proofs.YtlcidigcecmnpaaDoor
open Go.RowKit

/-- A number without its sign. -/
def absI (a : Int) : Int := if a < 0 then -a else a
theorem absI_neg {a : Int} (h : a < 0) : absI a = -a := by unfold absI; rw [if_pos h]
theorem absI_pos {a : Int} (h : ¬ a < 0) : absI a = a := by unfold absI; rw [if_neg h]
theorem absI_bd (a : Int) (h : inR a) : 0 ≤ absI a ∧ absI a ≤ 9223372036854775808 := by
  unfold inR at h; unfold absI; split <;> omega
theorem absI_nonneg (a : Int) : 0 ≤ absI a := by unfold absI; split <;> omega
/-- The number of that size and sign. -/
def sgn (neg : Bool) (n : Int) : Int := if neg then -n else n
/-- Do the signs of two differ? -/
def dif (a b : Int) : Bool := decide (a < 0) != decide (b < 0)

theorem sgn_mul (a b : Int) : sgn (dif a b) (absI a * absI b) = a * b := by
  unfold sgn dif absI
  by_cases h1 : a < 0 <;> by_cases h2 : b < 0 <;> simp [h1, h2, Int.neg_mul, Int.mul_neg]
theorem dif_comm (a b : Int) : dif a b = dif b a := by
  unfold dif; by_cases h1 : a < 0 <;> by_cases h2 : b < 0 <;> simp [h1, h2]

/-- A product whose upper half is not 0 fits nowhere. -/
theorem mul_high (a b : Int) (h : 18446744073709551616 ≤ absI a * absI b) : ¬ inR (a * b) := by
  rw [← sgn_mul a b]; unfold sgn inR; split <;> omega
theorem sgn_in {neg : Bool} {n : Int} (h0 : 0 ≤ n) : inR (sgn neg n) ↔ (if neg then n ≤ 9223372036854775808 else n < 9223372036854775808) := by
  cases neg <;> simp [sgn, inR] <;> omega

end Go.Proofs.YtlcidigcecmnpaaDoor
