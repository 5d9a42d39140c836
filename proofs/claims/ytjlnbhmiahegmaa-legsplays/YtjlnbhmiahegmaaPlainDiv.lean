/-
  PLAIN ARITHMETIC: the school division of two digits by one, in halves of 32 bits: the guess of a digit, put right downwards. No Go in sight.
-/
import Derived.Test.YtjlnbhmiahegmaaPlainMul
namespace Go.Proofs.Ytjlnbhmiahegmaa
open Go.RowKit

/-- What holds of the divisor's halves, of the rest so far and of the next half. -/
structure Kn (y y1 y0 u d : Int) : Prop where
  hy : y = y1 * 4294967296 + y0
  a1 : 2147483648 ≤ y1
  a2 : y1 < 4294967296
  b1 : 0 ≤ y0
  b2 : y0 < 4294967296
  u1 : 0 ≤ u
  u2 : u < y
  d1 : 0 ≤ d
  d2 : d < 4294967296

theorem kn_mul {y y1 y0 u d : Int} (K : Kn y y1 y0 u d) (q : Int) : q * y = q * y1 * 4294967296 + q * y0 := by
  rw [K.hy, Int.mul_add, Int.mul_assoc]
/-- The true digit. -/
theorem kn_small {y y1 y0 u d Q : Int} (K : Kn y y1 y0 u d) (hQ : Q * y ≤ u * 4294967296 + d) : Q < 4294967296 := by
  obtain ⟨hy, a1, a2, b1, b2, u1, u2, d1, d2⟩ := K
  refine Int.lt_of_not_ge fun h => ?_
  have h1 : 4294967296 * y ≤ Q * y := Int.mul_le_mul_of_nonneg_right h (by omega)
  omega
theorem kn_lt {y y1 y0 u d Q q r : Int} (K : Kn y y1 y0 u d) (hQ : Q * y ≤ u * 4294967296 + d) (hqr : q * y1 + r = u) (h : 4294967296 * r + d < q * y0) : Q + 1 ≤ q := by
  have hm := kn_mul K q
  obtain ⟨hy, a1, a2, b1, b2, u1, u2, d1, d2⟩ := K
  refine Int.not_lt.1 fun hc => ?_
  have h1 : q * y ≤ Q * y := Int.mul_le_mul_of_nonneg_right (by omega) (by omega)
  omega
theorem kn_le {y y1 y0 u d Q q r : Int} (K : Kn y y1 y0 u d) (hQ : u * 4294967296 + d < (Q + 1) * y) (hqr : q * y1 + r = u) (h : q * y0 ≤ 4294967296 * r + d) : q ≤ Q := by
  have hm := kn_mul K q
  obtain ⟨hy, a1, a2, b1, b2, u1, u2, d1, d2⟩ := K
  refine Int.not_lt.1 fun hc => ?_
  have h1 : (Q + 1) * y ≤ q * y := Int.mul_le_mul_of_nonneg_right (by omega) (by omega)
  omega
theorem kn_break {y y1 y0 u d q r : Int} (K : Kn y y1 y0 u d) (q0 : 0 ≤ q) (hq : q ≤ 4294967296) (hr : 4294967296 ≤ r) : q * y0 ≤ 4294967296 * r + d := by
  obtain ⟨hy, a1, a2, b1, b2, u1, u2, d1, d2⟩ := K
  have h1 : q * y0 ≤ q * 4294967295 := Int.mul_le_mul_of_nonneg_left (by omega) q0
  omega
theorem kn_guess {y y1 y0 u d Q : Int} (K : Kn y y1 y0 u d) (hQ : Q * y ≤ u * 4294967296 + d) :
    Q ≤ u / y1 ∧ u / y1 ≤ 4294967297 ∧ 0 ≤ u / y1 ∧ u / y1 * y1 ≤ u ∧ 0 ≤ u / y1 * y1 ∧ u - u / y1 * y1 < 4294967296 ∧ 0 ≤ u - u / y1 * y1 := by
  have hm := kn_mul K (u / y1 + 1)
  obtain ⟨hy, a1, a2, b1, b2, u1, u2, d1, d2⟩ := K
  have e1 : u / y1 * y1 ≤ u := Int.ediv_mul_le u (by omega)
  have e2 : u < (u / y1 + 1) * y1 := Int.lt_ediv_add_one_mul_self u (by omega)
  have e3 : 0 ≤ u / y1 := Int.ediv_nonneg u1 (by omega)
  generalize u / y1 = q at *
  have e4 : (q + 1) * y1 = q * y1 + y1 := by rw [Int.add_mul, Int.one_mul]
  have e5 : 0 ≤ q * y1 := Int.mul_nonneg e3 (by omega)
  have e6 : 0 ≤ (q + 1) * y0 := Int.mul_nonneg (by omega) b1
  refine ⟨?_, ?_, e3, e1, e5, by omega, by omega⟩
  · refine Int.not_lt.1 fun hc => ?_
    have h1 : (q + 1) * y ≤ Q * y := Int.mul_le_mul_of_nonneg_right (by omega) (by omega)
    omega
  · refine Int.not_lt.1 fun hc => ?_
    have h1 : 4294967298 * y1 ≤ q * y1 := Int.mul_le_mul_of_nonneg_right (by omega) (by omega)
    omega
/-- A guess that holds in the loop. -/
def Guess (y1 u Q q r : Int) : Prop := q * y1 + r = u ∧ 0 ≤ r ∧ r < 4294967296 ∧ Q ≤ q ∧ q ≤ 4294967297
theorem kn_next {y1 u q r : Int} (h : q * y1 + r = u) : (q - 1) * y1 + (r + y1) = u := by
  rw [Int.sub_mul, Int.one_mul]; omega
theorem kn_prod {y y1 y0 u d q : Int} (K : Kn y y1 y0 u d) (q0 : 0 ≤ q) (h : q < 4294967296) : 0 ≤ q * y0 ∧ q * y0 < 18446744073709551616 := by
  obtain ⟨hy, a1, a2, b1, b2, u1, u2, d1, d2⟩ := K
  refine ⟨Int.mul_nonneg q0 b1, ?_⟩
  have h1 : q * y0 ≤ q * 4294967295 := Int.mul_le_mul_of_nonneg_left (by omega) q0
  omega

/-- The digit and what is left. -/
theorem kn_digit {y y1 y0 u d : Int} (K : Kn y y1 y0 u d) :
    (u * 4294967296 + d) / y * y ≤ u * 4294967296 + d ∧ u * 4294967296 + d < ((u * 4294967296 + d) / y + 1) * y ∧ 0 ≤ (u * 4294967296 + d) / y ∧
    (u * 4294967296 + d) / y < 4294967296 ∧ u * 4294967296 + d - (u * 4294967296 + d) / y * y = (u * 4294967296 + d) % y ∧ 0 ≤ (u * 4294967296 + d) % y ∧ (u * 4294967296 + d) % y < y := by
  have K' := K
  obtain ⟨hy, a1, a2, b1, b2, u1, u2, d1, d2⟩ := K
  have e1 : (u * 4294967296 + d) / y * y ≤ u * 4294967296 + d := Int.ediv_mul_le _ (by omega)
  have e2 := Int.lt_ediv_add_one_mul_self (u * 4294967296 + d) (show 0 < y by omega)
  have e3 := Int.emod_add_mul_ediv (u * 4294967296 + d) y
  have e4 : y * ((u * 4294967296 + d) / y) = (u * 4294967296 + d) / y * y := Int.mul_comm _ _
  exact ⟨e1, e2, Int.ediv_nonneg (by omega) (by omega), kn_small K' e1, by omega, Int.emod_nonneg _ (by omega), Int.emod_lt_of_pos _ (by omega)⟩

/-- Two digits one behind the other are the whole quotient. -/
theorem kn_whole {y u d1 d0 : Int} (hy : 0 < y) :
    ((u * 4294967296 + d1) / y * 4294967296 + ((u * 4294967296 + d1) % y * 4294967296 + d0) / y) = (u * 18446744073709551616 + (d1 * 4294967296 + d0)) / y ∧
    ((u * 4294967296 + d1) % y * 4294967296 + d0) % y = (u * 18446744073709551616 + (d1 * 4294967296 + d0)) % y := by
  have e1 := Int.emod_add_mul_ediv (u * 4294967296 + d1) y
  generalize (u * 4294967296 + d1) / y = q1 at *
  generalize (u * 4294967296 + d1) % y = r1 at *
  have e2 : u * 18446744073709551616 + (d1 * 4294967296 + d0) = (r1 * 4294967296 + d0) + y * (q1 * 4294967296) := by
    have : y * (q1 * 4294967296) = y * q1 * 4294967296 := (Int.mul_assoc _ _ _).symm
    omega
  rw [e2, Int.add_mul_ediv_left _ _ (by omega), Int.add_mul_emod_self_left]
  exact ⟨by omega, rfl⟩

/-- A fraction of two numbers that were shifted alike. -/
theorem kn_shift {n y s : Int} (hs : 0 < s) : n * s / (y * s) = n / y ∧ n * s % (y * s) / s = n % y := by
  refine ⟨Int.mul_ediv_mul_of_pos_left n y hs, ?_⟩
  rw [Int.mul_comm n s, Int.mul_comm y s, Int.mul_emod_mul_of_pos n y hs, Int.mul_ediv_cancel_left _ (by omega)]

/-- The numbers shifted: S and T are 2 to the s and 2 to the 64 - s. -/
theorem kn_up {hi lo y S T : Int} (hS : 0 < S) (hT : 0 < T) (hST : S * T = 18446744073709551616) (h0 : 0 ≤ hi) (h1 : hi < y) (l0 : 0 ≤ lo) (l1 : lo < 18446744073709551616) (y2 : y * S < 18446744073709551616) :
    0 ≤ hi * S ∧ hi * S + S ≤ y * S ∧ 0 ≤ lo / T ∧ lo / T < S ∧ lo * S % 18446744073709551616 = lo % T * S ∧ 0 ≤ lo % T * S ∧ lo % T * S < 18446744073709551616 ∧
    (hi * S + lo / T) * 18446744073709551616 + lo % T * S = (hi * 18446744073709551616 + lo) * S := by
  have e1 : (hi + 1) * S ≤ y * S := Int.mul_le_mul_of_nonneg_right (by omega) (by omega)
  have e2 : (hi + 1) * S = hi * S + S := by rw [Int.add_mul, Int.one_mul]
  have e3 : lo / T < S := Int.ediv_lt_of_lt_mul hT (by omega)
  have e4 : 0 ≤ lo / T := Int.ediv_nonneg l0 (by omega)
  have e5 := Int.emod_add_mul_ediv lo T
  have e6 : 0 ≤ lo % T := Int.emod_nonneg _ (by omega)
  have e7 : lo % T < T := Int.emod_lt_of_pos _ hT
  have e8 : 0 ≤ hi * S := Int.mul_nonneg h0 (by omega)
  generalize lo / T = a at *
  generalize lo % T = b at *
  have e9 : 0 ≤ b * S := Int.mul_nonneg e6 (by omega)
  have e10 : (b + 1) * S ≤ T * S := Int.mul_le_mul_of_nonneg_right (by omega) (by omega)
  have e11 : (b + 1) * S = b * S + S := by rw [Int.add_mul, Int.one_mul]
  have e12 : T * S = 18446744073709551616 := by rw [Int.mul_comm]; exact hST
  have e13 : lo * S = a * 18446744073709551616 + b * S := by
    rw [← e5, Int.add_mul, ← e12, Int.mul_comm T a, Int.mul_assoc]; omega
  refine ⟨e8, by omega, e4, e3, by omega, e9, by omega, ?_⟩
  have e14 : (hi * 18446744073709551616 + lo) * S = hi * S * 18446744073709551616 + lo * S := by
    rw [Int.add_mul, Int.mul_assoc, Int.mul_assoc, Int.mul_comm 18446744073709551616 S]
  omega

theorem pow_split (s : Nat) (h : s ≤ 64) : (2 : Int) ^ s * 2 ^ (64 - s) = 18446744073709551616 := by
  rw [← Int.pow_add, show s + (64 - s) = 64 by omega]; decide
theorem pow_pos2 (s : Nat) : (0 : Int) < 2 ^ s := Int.pow_pos (by decide)

end Go.Proofs.Ytjlnbhmiahegmaa
