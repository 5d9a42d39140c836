/-
  PLAIN: a word without its k lowest bits; without its lowest bit, as the program reckons it; a word of no bits.
-/
import Derived.Test.YtpeglcnenagkbaaDoorPlainLow
namespace Go.Proofs.YtpeglcnenagkbaaDoor
open Go.RowKit
set_option linter.unusedVariables false
set_option linter.unusedSimpArgs false

theorem andNot_low (v k : Nat) (hv : v < 18446744073709551616) (hk : k < 64) : ∃ u : Nat, bits .andNot .u64 (v : Int) ((2 ^ k - 1 : Nat) : Int) = (u : Int) ∧ u < 18446744073709551616 ∧ ∀ i, i < 64 → u.testBit i = (v.testBit i && decide (k ≤ i)) := by
  have hp := pow_lt64 hk
  rw [u64_andNot_nat v (2 ^ k - 1) hv (by omega)]
  refine ⟨_, rfl, Nat.lt_of_le_of_lt Nat.and_le_left hv, fun i hi => ?_⟩
  rw [Nat.testBit_and]
  congr 1
  have := Nat.testBit_two_pow_sub_succ (n := 64) (x := 2 ^ k - 1) (by have : (18446744073709551616 : Nat) = 2 ^ 64 := rfl; omega) i
  rw [show (18446744073709551615 : Nat) - (2 ^ k - 1) = 2 ^ 64 - (2 ^ k - 1 + 1) by omega, this, decide_eq_true hi, Nat.testBit_two_pow_sub_one]
  by_cases e : k ≤ i
  · simp [e]
  · simp [e]; omega
theorem and_less (x t0 : Nat) (hx : x < 18446744073709551616) (h : x.testBit t0 = true) (h0 : ∀ t, t < t0 → x.testBit t = false) :
    ∃ u : Nat, bits .and .u64 (x : Int) ((x : Int) - 1) = (u : Int) ∧ u < x ∧ ∀ t, u.testBit t = (x.testBit t && decide (t ≠ t0)) := by
  have hx0 : x ≠ 0 := by rintro rfl; rw [Nat.zero_testBit] at h; cases h
  rw [show (x : Int) - 1 = ((x - 1 : Nat) : Int) by omega, u64_and_nat x (x - 1) hx (by omega)]
  exact ⟨_, rfl, Nat.lt_of_le_of_lt Nat.and_le_right (by omega), low_clear x t0 h h0⟩
theorem no_bits {x : Nat} (hx : x < 18446744073709551616) (h : ∀ i, i < 64 → x.testBit i = false) : x = 0 := by
  apply Nat.eq_of_testBit_eq
  intro i
  rw [Nat.zero_testBit]
  by_cases e : i < 64
  · exact h i e
  · exact Nat.testBit_lt_two_pow (Nat.lt_of_lt_of_le hx (by have : (18446744073709551616 : Nat) = 2 ^ 64 := rfl; rw [this]; exact Nat.pow_le_pow_right (by omega) (by omega)))
theorem bit_at (ws : List Nat) (i t : Nat) (ht : t < 64) : Bit ws (64 * i + t) = (ws.getD i 0).testBit t := by
  unfold Bit; rw [show (64 * i + t) / 64 = i by omega, show (64 * i + t) % 64 = t by omega]
end Go.Proofs.YtpeglcnenagkbaaDoor
