/-
  WALKS: num.sizeOf, num.signed, math/bits.Mul64, num.Mul: each by its contract.
-/
import Derived.Test.YtjlnbhmiahegmaaWAdd
import Derived.Lib.Mul64
import Derived.Laws.BitsAllLaws
namespace Go.Proofs.Ytjlnbhmiahegmaa
open Go.RowKit

theorem ret_i {k : IntKind} {a b : Int} (h : a = b) : Ending.returned (.int k a) = .returned (.int k b) := by rw [h]
theorem ret_b {a b : Bool} (h : a = b) : Ending.returned (.bool a) = .returned (.bool b) := by rw [h]
theorem ret_ii {k l : IntKind} {a b c d : Int} (h : a = b) (g : c = d) : Ending.returned (.tuple #[.int k a, .int l c]) = .returned (.tuple #[.int k b, .int l d]) := by rw [h, g]
theorem neg_u64 (a : Int) (h : a < 0) (h1 : -9223372036854775808 ≤ a) : IntKind.u64.wrap (-IntKind.u64.wrap a) = -a := by
  rw [IntKind.wrap_u64, IntKind.wrap_u64]; omega
theorem neg_i64 (n : Int) (h0 : 0 ≤ n) (h : n ≤ 9223372036854775808) : wrap64 (IntKind.u64.wrap (-n)) = -n := by
  rw [IntKind.wrap_u64]; unfold wrap64; omega

theorem sizeOf_any (a : Int) (ha : inR a) (w : World) :
    Calls Try.prog 87 #[.int .i64 a] w fun e w' => e = .returned (.int .u64 (absI a)) ∧ w' = w := by
  unfold inR at ha
  obtain ⟨h1, h2⟩ := ha
  by_cases h : a < 0
  · rw [absI_neg h]
    go_enter Try.func87, Try.ntmps87
    go_wp2
    go_ret
    exact ⟨ret_i (neg_u64 a h h1), rfl⟩
  · rw [absI_pos h]
    go_enter Try.func87, Try.ntmps87
    go_wp2
    go_ret
    exact ⟨rfl, rfl⟩

theorem signed_any (n : Int) (neg : Bool) (h0 : 0 ≤ n) (h1 : n < 18446744073709551616) (w : World) :
    Calls Try.prog 88 #[.int .u64 n, .bool neg] w fun e w' => e = .returned (.tuple #[.int .i64 (fitV (sgn neg n)), .int .i64 (fitF (sgn neg n))]) ∧ w' = w := by
  have hs := sgn_in (neg := neg) h0
  cases neg
  · by_cases h : n < 9223372036854775808
    · have hi : inR (sgn false n) := hs.2 (by simpa using h)
      rw [fitV_in hi, fitF_in hi]
      show Calls Try.prog 88 #[.int .u64 n, .bool false] w fun e w' => e = .returned (.tuple #[.int .i64 n, .int .i64 0]) ∧ w' = w
      clear hs hi
      go_enter Try.func88, Try.ntmps88
      go_wp2
      go_ret2
      exact ⟨rfl, rfl⟩
    · have hi : ¬ inR (sgn false n) := fun c => h (by simpa using hs.1 c)
      rw [fitV_out hi, fitF_out hi]
      clear hs hi
      go_enter Try.func88, Try.ntmps88
      go_wp2
      go_ret2
      exact ⟨rfl, rfl⟩
  · by_cases h : n ≤ 9223372036854775808
    · have hi : inR (sgn true n) := hs.2 (by simpa using h)
      rw [fitV_in hi, fitF_in hi]
      show Calls Try.prog 88 #[.int .u64 n, .bool true] w fun e w' => e = .returned (.tuple #[.int .i64 (-n), .int .i64 0]) ∧ w' = w
      clear hs hi
      go_enter Try.func88, Try.ntmps88
      go_wp2
      go_ret2
      exact ⟨ret_ii (neg_i64 n h0 h) rfl, rfl⟩
    · have hi : ¬ inR (sgn true n) := fun c => h (by simpa using hs.1 c)
      rw [fitV_out hi, fitF_out hi]
      clear hs hi
      go_enter Try.func88, Try.ntmps88
      go_wp2
      go_ret2
      exact ⟨rfl, rfl⟩

/-- The two halves of a product. -/
def mulHi (x y : Int) : Int := x * y / 18446744073709551616
def mulLo (x y : Int) : Int := x * y % 18446744073709551616

theorem mask32 (a : Nat) (ha : a < 18446744073709551616) : bits .and .u64 (a : Int) 4294967295 = ((a % 4294967296 : Nat) : Int) := by
  have h := u64_and_nat a 4294967295 ha (by omega)
  rw [show a &&& 4294967295 = a % 4294967296 from Nat.and_two_pow_sub_one_eq_mod a 32] at h
  exact h
theorem keep64 (a : Nat) (ha : a < 18446744073709551616) : IntKind.u64.wrap (a : Int) = (a : Int) := by rw [IntKind.wrap_u64]; omega
theorem cut64 (a : Nat) : IntKind.u64.wrap (a : Int) = ((a % 18446744073709551616 : Nat) : Int) := by rw [IntKind.wrap_u64]; omega
theorem half (a : Nat) : (a : Int) / 4294967296 = ((a / 4294967296 : Nat) : Int) := by omega

set_option maxHeartbeats 1000000 in
theorem mul64_nat (x y : Nat) (hx : x < 18446744073709551616) (hy : y < 18446744073709551616) (w : World) :
    Calls Try.prog 86 #[.int .u64 x, .int .u64 y] w fun e w' => e = .returned (.tuple #[.int .u64 ((x * y / 18446744073709551616 : Nat) : Int), .int .u64 ((x * y % 18446744073709551616 : Nat) : Int)]) ∧ w' = w := by
  obtain ⟨k1, k2, k3, hhi⟩ := Lib.mul64_hi x y hx hy
  have m1 := Lib.half_mul_le (a := x / 4294967296) (b := y / 4294967296) (by omega) (by omega)
  have m2 := Lib.half_mul_le (a := x / 4294967296) (b := y % 4294967296) (by omega) (by omega)
  have m3 := Lib.half_mul_le (a := x % 4294967296) (b := y / 4294967296) (by omega) (by omega)
  have n1 := Nat.lt_of_le_of_lt m1 (show 18446744065119617025 < 18446744073709551616 by decide)
  have n2 := Nat.lt_of_le_of_lt m2 (show 18446744065119617025 < 18446744073709551616 by decide)
  have n3 := Nat.lt_of_le_of_lt m3 (show 18446744065119617025 < 18446744073709551616 by decide)
  have n4 : x / 4294967296 * (y / 4294967296) + (x / 4294967296 * (y % 4294967296) + x % 4294967296 * (y % 4294967296) / 4294967296) / 4294967296 < 18446744073709551616 := by omega
  have n5 : x / 4294967296 * (y / 4294967296) + (x / 4294967296 * (y % 4294967296) + x % 4294967296 * (y % 4294967296) / 4294967296) / 4294967296 + ((x / 4294967296 * (y % 4294967296) + x % 4294967296 * (y % 4294967296) / 4294967296) % 4294967296 + x % 4294967296 * (y / 4294967296)) / 4294967296 < 18446744073709551616 := by omega
  go_enter Try.func86, Try.ntmps86
  go_wp2
  simp only [mask32 x hx, mask32 y hy, half, ← Int.natCast_mul, ← Int.natCast_add, keep64 _ k1, keep64 _ n2, keep64 _ k2, mask32 _ k2, keep64 _ n3, keep64 _ k3, keep64 _ n1, keep64 _ n4, keep64 _ n5, cut64 (x * y)]
  rw [hhi]
  go_ret2
  exact ⟨rfl, rfl⟩

theorem mul64_any (x y : Int) (hx : 0 ≤ x) (hx' : x < 18446744073709551616) (hy : 0 ≤ y) (hy' : y < 18446744073709551616) (w : World) :
    Calls Try.prog 86 #[.int .u64 x, .int .u64 y] w fun e w' => e = .returned (.tuple #[.int .u64 (mulHi x y), .int .u64 (mulLo x y)]) ∧ w' = w := by
  obtain ⟨x, rfl⟩ := Int.eq_ofNat_of_zero_le hx
  obtain ⟨y, rfl⟩ := Int.eq_ofNat_of_zero_le hy
  refine (mul64_nat x y (by omega) (by omega) w).mono ?_
  rintro e w' ⟨rfl, rfl⟩
  exact ⟨ret_ii (by unfold mulHi; simp) (by unfold mulLo; simp), rfl⟩

/-! ### num.Mul -/
theorem mulHi_zero (x y : Int) (hx : 0 ≤ x) (hy : 0 ≤ y) : mulHi x y = 0 ↔ x * y < 18446744073709551616 := by
  have := Int.mul_nonneg hx hy
  unfold mulHi; omega
theorem mulLo_of {x y : Int} (h0 : 0 ≤ x * y) (h : x * y < 18446744073709551616) : mulLo x y = x * y := by unfold mulLo; omega

theorem mul_any (a b : Int) (ha : inR a) (hb : inR b) (w : World) :
    Calls Try.prog 74 #[.int .i64 a, .int .i64 b] w fun e w' => e = .returned (.tuple #[.int .i64 (fitV (a * b)), .int .i64 (fitF (a * b))]) ∧ w' = w := by
  have ba := absI_bd a ha
  have bb := absI_bd b hb
  have hz := mulHi_zero (absI a) (absI b) ba.1 bb.1
  have hnn := Int.mul_nonneg ba.1 bb.1
  by_cases h : absI a * absI b < 18446744073709551616
  · have h0 : (mulHi (absI a) (absI b) != 0) = false := by simp [hz.2 h]
    have hlo := mulLo_of hnn h
    have hs := fun w => signed_any (mulLo (absI a) (absI b)) (dif a b) (by omega) (by omega) w
    have hfin : fitV (sgn (dif a b) (mulLo (absI a) (absI b))) = fitV (a * b) ∧ fitF (sgn (dif a b) (mulLo (absI a) (absI b))) = fitF (a * b) := by rw [hlo, sgn_mul]; exact ⟨rfl, rfl⟩
    have H := veil hfin
    have S := veil hs
    clear hfin hlo hz h hnn hs
    go_enter Try.func74, Try.ntmps74
    go_wp2_with fail
    refine (sizeOf_any a ha _).mono ?_
    rintro e w' ⟨rfl, rfl⟩
    go_wp2_with fail
    refine (sizeOf_any b hb _).mono ?_
    rintro e w' ⟨rfl, rfl⟩
    go_wp2_with fail
    refine (mul64_any _ _ ba.1 (by omega) bb.1 (by omega) _).mono ?_
    rintro e w' ⟨rfl, rfl⟩
    go_wp2_with fail
    refine (unveil S _).mono ?_
    rintro e w' ⟨rfl, rfl⟩
    go_wp2_with fail
    go_ret2
    exact ⟨ret_ii (unveil H).1 (unveil H).2, rfl⟩
  · have h0 : (mulHi (absI a) (absI b) != 0) = true := by simp [hz, h]
    have hn := mul_high a b (by omega)
    rw [fitV_out hn, fitF_out hn]
    clear hz hn hnn h
    go_enter Try.func74, Try.ntmps74
    go_wp2_with fail
    refine (sizeOf_any a ha _).mono ?_
    rintro e w' ⟨rfl, rfl⟩
    go_wp2_with fail
    refine (sizeOf_any b hb _).mono ?_
    rintro e w' ⟨rfl, rfl⟩
    go_wp2_with fail
    refine (mul64_any _ _ ba.1 (by omega) bb.1 (by omega) _).mono ?_
    rintro e w' ⟨rfl, rfl⟩
    go_wp2_with fail
    go_ret2
    exact ⟨rfl, rfl⟩

end Go.Proofs.Ytjlnbhmiahegmaa
