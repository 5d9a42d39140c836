/-
  PLAIN ARITHMETIC of layer 1: no Go in sight. What fits 64 bits, and the sign tests by bits.
-/
import Derived.WalkKit
import Derived.Laws.BitsAllLaws
import Derived.Test.YtlcidigcecmnpaaGreatDoorRows
import Derived.WalkSpells
import Derived.Lib.Mul64
import Derived.Below
import Derived.BigCall
import Derived.BigGuard
import Derived.Lib.ItoaMem
import Derived.Lib.AppendIntMem
import Derived.Test.YtlcidigcecmnpaaGreatDoorShelf
import Derived.Deep.RegionHeld3
namespace Go.Proofs.YtlcidigcecmnpaaGreatDoor
open Go.RowKit

/-- A fact, kept out of the walk's sight. -/
theorem veil {p : Prop} (h : p) : Hid p := h
theorem unveil {p : Prop} (h : Hid p) : p := h

/-- A number of 64 bits. -/
def inR (n : Int) : Prop := -9223372036854775808 ≤ n ∧ n ≤ 9223372036854775807
/-- The number that a checked call tells, and its fault. -/
def fitV (n : Int) : Int := if -9223372036854775808 ≤ n ∧ n ≤ 9223372036854775807 then n else 0
def fitF (n : Int) : Int := if -9223372036854775808 ≤ n ∧ n ≤ 9223372036854775807 then 0 else 1

theorem fitV_in {n : Int} (h : inR n) : fitV n = n := by unfold inR at h; unfold fitV; rw [if_pos h]
theorem fitF_in {n : Int} (h : inR n) : fitF n = 0 := by unfold inR at h; unfold fitF; rw [if_pos h]
theorem fitV_out {n : Int} (h : ¬ inR n) : fitV n = 0 := by unfold inR at h; unfold fitV; rw [if_neg h]
theorem fitF_out {n : Int} (h : ¬ inR n) : fitF n = 1 := by unfold inR at h; unfold fitF; rw [if_neg h]
theorem fitV_bd (n : Int) : inR (fitV n) := by unfold fitV inR; split <;> omega
theorem fitF_bd (n : Int) : 0 ≤ fitF n ∧ fitF n ≤ 1 := by unfold fitF; split <;> omega
theorem wf_inR {n : Int} (h : (Lit.int .i64 n).wf = true) : inR n := by
  simp [Lit.wf, IntKind.min, IntKind.max, IntKind.bits, IntKind.signed] at h
  unfold inR; omega

/-! ### the sign, by bits -/
theorem msb_ofInt (n : Int) (h : inR n) : (BitVec.ofInt 64 n).msb = decide (n < 0) := by
  unfold inR at h
  rw [BitVec.msb_eq_decide, BitVec.toNat_ofInt]
  by_cases hn : n < 0
  · rw [decide_eq_true hn, decide_eq_true]; omega
  · rw [decide_eq_false hn, decide_eq_false]; omega
theorem wrap_neg (x : BitVec 64) : (IntKind.i64.wrap (x.toNat : Int) < 0) ↔ x.msb = true := by
  have hx := x.isLt
  rw [IntKind.wrap_i64, BitVec.msb_eq_decide]
  simp only [decide_eq_true_eq]
  omega
theorem wrap_inR (n : Int) : inR (IntKind.i64.wrap n) := by
  rw [IntKind.wrap_i64]; unfold inR; omega
theorem wrap64_inR (n : Int) : inR (wrap64 n) := by unfold wrap64 inR; omega
theorem wrap64_id {n : Int} (h : inR n) : wrap64 n = n := by unfold wrap64; unfold inR at h; omega
theorem xor_inR (a b : Int) : inR (bits .xor .i64 a b) := wrap_inR _
theorem and_inR (a b : Int) : inR (bits .and .i64 a b) := wrap_inR _
theorem xor_neg (a b : Int) (ha : inR a) (hb : inR b) : (bits .xor .i64 a b < 0) ↔ (a < 0 ∧ 0 ≤ b ∨ 0 ≤ a ∧ b < 0) := by
  refine (wrap_neg (BitVec.ofInt 64 a ^^^ BitVec.ofInt 64 b)).trans ?_
  rw [BitVec.msb_xor, msb_ofInt a ha, msb_ofInt b hb]
  by_cases h1 : a < 0 <;> by_cases h2 : b < 0 <;> simp [h1, h2] <;> omega
theorem and_neg (a b : Int) (ha : inR a) (hb : inR b) : (bits .and .i64 a b < 0) ↔ (a < 0 ∧ b < 0) := by
  refine (wrap_neg (BitVec.ofInt 64 a &&& BitVec.ofInt 64 b)).trans ?_
  rw [BitVec.msb_and, msb_ofInt a ha, msb_ofInt b hb]
  by_cases h1 : a < 0 <;> by_cases h2 : b < 0 <;> simp [h1, h2]

/-- Add's test. -/
theorem add_test (a b : Int) (ha : inR a) (hb : inR b) :
    (bits .and .i64 (bits .xor .i64 a (wrap64 (a + b))) (bits .xor .i64 b (wrap64 (a + b))) < 0) ↔ ¬ inR (a + b) := by
  rw [and_neg _ _ (xor_inR _ _) (xor_inR _ _), xor_neg a _ ha (wrap64_inR _), xor_neg b _ hb (wrap64_inR _)]
  unfold inR at *; unfold wrap64; omega
/-- Sub's test. -/
theorem sub_test (a b : Int) (ha : inR a) (hb : inR b) :
    (bits .and .i64 (bits .xor .i64 a b) (bits .xor .i64 a (wrap64 (a - b))) < 0) ↔ ¬ inR (a - b) := by
  rw [and_neg _ _ (xor_inR _ _) (xor_inR _ _), xor_neg a _ ha hb, xor_neg a _ ha (wrap64_inR _)]
  unfold inR at *; unfold wrap64; omega

end Go.Proofs.YtlcidigcecmnpaaGreatDoor

namespace Go.Proofs.YtlcidigcecmnpaaGreatDoor
open Go.RowKit

/-- A number without its sign. -/
def absI (a : Int) : Int := if a < 0 then -a else a
theorem absI_neg {a : Int} (h : a < 0) : absI a = -a := by unfold absI; rw [if_pos h]
theorem absI_pos {a : Int} (h : ¬ a < 0) : absI a = a := by unfold absI; rw [if_neg h]
theorem absI_bd (a : Int) (h : inR a) : 0 ≤ absI a ∧ absI a ≤ 9223372036854775808 := by
  unfold inR at h; unfold absI; split <;> omega
theorem absI_nonneg (a : Int) : 0 ≤ absI a := by unfold absI; split <;> omega
/-- The number of that size and sign. -/
def sgn (neg : Bool) (n : Int) : Int := if neg then -n else n
/-- Do the signs of two differ? -/
def dif (a b : Int) : Bool := decide (a < 0) != decide (b < 0)

theorem sgn_mul (a b : Int) : sgn (dif a b) (absI a * absI b) = a * b := by
  unfold sgn dif absI
  by_cases h1 : a < 0 <;> by_cases h2 : b < 0 <;> simp [h1, h2, Int.neg_mul, Int.mul_neg]
theorem dif_comm (a b : Int) : dif a b = dif b a := by
  unfold dif; by_cases h1 : a < 0 <;> by_cases h2 : b < 0 <;> simp [h1, h2]

/-- A product whose upper half is not 0 fits nowhere. -/
theorem mul_high (a b : Int) (h : 18446744073709551616 ≤ absI a * absI b) : ¬ inR (a * b) := by
  rw [← sgn_mul a b]; unfold sgn inR; split <;> omega
theorem sgn_in {neg : Bool} {n : Int} (h0 : 0 ≤ n) : inR (sgn neg n) ↔ (if neg then n ≤ 9223372036854775808 else n < 9223372036854775808) := by
  cases neg <;> simp [sgn, inR] <;> omega

end Go.Proofs.YtlcidigcecmnpaaGreatDoor

namespace Go.Proofs.YtlcidigcecmnpaaGreatDoor
open Go.RowKit

end Go.Proofs.YtlcidigcecmnpaaGreatDoor

namespace Go.Proofs.YtlcidigcecmnpaaGreatDoor
open Go.RowKit

theorem ret_i {k : IntKind} {a b : Int} (h : a = b) : Ending.returned (.int k a) = .returned (.int k b) := by rw [h]
theorem ret_b {a b : Bool} (h : a = b) : Ending.returned (.bool a) = .returned (.bool b) := by rw [h]
theorem ret_ii {k l : IntKind} {a b c d : Int} (h : a = b) (g : c = d) : Ending.returned (.tuple #[.int k a, .int l c]) = .returned (.tuple #[.int k b, .int l d]) := by rw [h, g]
theorem neg_u64 (a : Int) (h : a < 0) (h1 : -9223372036854775808 ≤ a) : IntKind.u64.wrap (-IntKind.u64.wrap a) = -a := by
  rw [IntKind.wrap_u64, IntKind.wrap_u64]; omega
theorem neg_i64 (n : Int) (h0 : 0 ≤ n) (h : n ≤ 9223372036854775808) : wrap64 (IntKind.u64.wrap (-n)) = -n := by
  rw [IntKind.wrap_u64]; unfold wrap64; omega

theorem sizeOf_any (a : Int) (ha : inR a) (w : World) :
    Calls Tryz.prog 88 #[.int .i64 a] w fun e w' => e = .returned (.int .u64 (absI a)) ∧ w' = w := by
  unfold inR at ha
  obtain ⟨h1, h2⟩ := ha
  by_cases h : a < 0
  · rw [absI_neg h]
    go_enter Tryz.func88, Tryz.ntmps88
    go_wp2
    go_ret
    exact ⟨ret_i (neg_u64 a h h1), rfl⟩
  · rw [absI_pos h]
    go_enter Tryz.func88, Tryz.ntmps88
    go_wp2
    go_ret
    exact ⟨rfl, rfl⟩

/-- The two halves of a product. -/
def mulHi (x y : Int) : Int := x * y / 18446744073709551616
def mulLo (x y : Int) : Int := x * y % 18446744073709551616

theorem mask32 (a : Nat) (ha : a < 18446744073709551616) : bits .and .u64 (a : Int) 4294967295 = ((a % 4294967296 : Nat) : Int) := by
  have h := u64_and_nat a 4294967295 ha (by omega)
  rw [show a &&& 4294967295 = a % 4294967296 from Nat.and_two_pow_sub_one_eq_mod a 32] at h
  exact h
theorem keep64 (a : Nat) (ha : a < 18446744073709551616) : IntKind.u64.wrap (a : Int) = (a : Int) := by rw [IntKind.wrap_u64]; omega
theorem cut64 (a : Nat) : IntKind.u64.wrap (a : Int) = ((a % 18446744073709551616 : Nat) : Int) := by rw [IntKind.wrap_u64]; omega
theorem half (a : Nat) : (a : Int) / 4294967296 = ((a / 4294967296 : Nat) : Int) := by omega

set_option maxHeartbeats 1000000 in
theorem mul64_nat (x y : Nat) (hx : x < 18446744073709551616) (hy : y < 18446744073709551616) (w : World) :
    Calls Tryz.prog 102 #[.int .u64 x, .int .u64 y] w fun e w' => e = .returned (.tuple #[.int .u64 ((x * y / 18446744073709551616 : Nat) : Int), .int .u64 ((x * y % 18446744073709551616 : Nat) : Int)]) ∧ w' = w := by
  obtain ⟨k1, k2, k3, hhi⟩ := Lib.mul64_hi x y hx hy
  have m1 := Lib.half_mul_le (a := x / 4294967296) (b := y / 4294967296) (by omega) (by omega)
  have m2 := Lib.half_mul_le (a := x / 4294967296) (b := y % 4294967296) (by omega) (by omega)
  have m3 := Lib.half_mul_le (a := x % 4294967296) (b := y / 4294967296) (by omega) (by omega)
  have n1 := Nat.lt_of_le_of_lt m1 (show 18446744065119617025 < 18446744073709551616 by decide)
  have n2 := Nat.lt_of_le_of_lt m2 (show 18446744065119617025 < 18446744073709551616 by decide)
  have n3 := Nat.lt_of_le_of_lt m3 (show 18446744065119617025 < 18446744073709551616 by decide)
  have n4 : x / 4294967296 * (y / 4294967296) + (x / 4294967296 * (y % 4294967296) + x % 4294967296 * (y % 4294967296) / 4294967296) / 4294967296 < 18446744073709551616 := by omega
  have n5 : x / 4294967296 * (y / 4294967296) + (x / 4294967296 * (y % 4294967296) + x % 4294967296 * (y % 4294967296) / 4294967296) / 4294967296 + ((x / 4294967296 * (y % 4294967296) + x % 4294967296 * (y % 4294967296) / 4294967296) % 4294967296 + x % 4294967296 * (y / 4294967296)) / 4294967296 < 18446744073709551616 := by omega
  go_enter Tryz.func102, Tryz.ntmps102
  go_wp2
  simp only [mask32 x hx, mask32 y hy, half, ← Int.natCast_mul, ← Int.natCast_add, keep64 _ k1, keep64 _ n2, keep64 _ k2, mask32 _ k2, keep64 _ n3, keep64 _ k3, keep64 _ n1, keep64 _ n4, keep64 _ n5, cut64 (x * y)]
  rw [hhi]
  go_ret2
  exact ⟨rfl, rfl⟩

theorem mul64_any (x y : Int) (hx : 0 ≤ x) (hx' : x < 18446744073709551616) (hy : 0 ≤ y) (hy' : y < 18446744073709551616) (w : World) :
    Calls Tryz.prog 102 #[.int .u64 x, .int .u64 y] w fun e w' => e = .returned (.tuple #[.int .u64 (mulHi x y), .int .u64 (mulLo x y)]) ∧ w' = w := by
  obtain ⟨x, rfl⟩ := Int.eq_ofNat_of_zero_le hx
  obtain ⟨y, rfl⟩ := Int.eq_ofNat_of_zero_le hy
  refine (mul64_nat x y (by omega) (by omega) w).mono ?_
  rintro e w' ⟨rfl, rfl⟩
  exact ⟨ret_ii (by unfold mulHi; simp) (by unfold mulLo; simp), rfl⟩

/-! ### num.Mul -/
theorem mulHi_zero (x y : Int) (hx : 0 ≤ x) (hy : 0 ≤ y) : mulHi x y = 0 ↔ x * y < 18446744073709551616 := by
  have := Int.mul_nonneg hx hy
  unfold mulHi; omega
theorem mulLo_of {x y : Int} (h0 : 0 ≤ x * y) (h : x * y < 18446744073709551616) : mulLo x y = x * y := by unfold mulLo; omega

end Go.Proofs.YtlcidigcecmnpaaGreatDoor

namespace Go.Proofs.YtlcidigcecmnpaaGreatDoor
open Go.RowKit
open Go.Sort
set_option linter.unusedVariables false

/-- The table of the powers of ten, as the row lists it. -/
def Pows (w : World) : Prop := Lib.TabIs Tryz.prog w "internal/strconv.uint64pow10" .u64 Lib.pow10Tab

theorem nDigits_le (u : Nat) (h1 : 1 ≤ u) (h2 : u < 18446744073709551616) : Lib.nDigits u ≤ 20 := by
  have := Lib.numDigits_eq u h1 h2
  split at this <;> omega

set_option maxHeartbeats 3200000 in
set_option maxRecDepth 100000 in
theorem fmtUint_inner (u : Nat) (hu : u < 18446744073709551616) (w : World) (ht : Pows w) :
    Calls Tryz.prog 93 #[.int .u64 u, .int .i64 10] w fun e w' => e = .returned (.string ⟨(Lib.decDigits u).toArray⟩) ∧ Below w.heap.size w w' := by
  by_cases hs : u < 100
  · have hw : IntKind.i64.wrap (u : Int) = (u : Int) := by simp [IntKind.wrap, IntKind.bits, IntKind.signed]; omega
    go_enter Tryz.func93, Tryz.ntmps93
    go_wp2_with (go_at_call 97; refine (Tryz.internal_strconv_small u hs _).mono ?_; rintro e w' ⟨rfl, rfl⟩)
    go_ret
    exact ⟨rfl, Below.refl _ _⟩
  · have hu1 : 1 ≤ u := by omega
    have hn := nDigits_le u hu1 hu
    have hal : Tryz.prog.arrayLen 140 = 24 := by kernel_rfl
    have hsl : ∀ W, (Instr.sliceAt 140 (.pointer (some ⟨w.heap.size, 0, none⟩)) none (some (.int .i64 (Lib.nDigits u : Int))) none).run Tryz.prog W = .ok (.slice (some ⟨w.heap.size, 0, none⟩) (Lib.nDigits u) 24) W := fun W => by
      rw [run_sliceAt_array_h W 140 ⟨w.heap.size, 0, none⟩ (by kernel_rfl) .i64 (Lib.nDigits u : Int) (by omega) (by rw [hal]; omega)]
      go_simp
    have z0 := Lib.holds_zero0 w 140 (Lib.nDigits u) (by omega)
    have hf := Tryz.internal_strconv_formatBase10 w.heap.size 0 24 u (Array.replicate (Lib.nDigits u) 0) (w.alloc (.cells Lib.zeros24 140)) z0 (by rw [Array.size_replicate]; exact Lib.lt_pow_nDigits u) hu (by rw [Array.size_replicate]; omega)
    rw [Array.size_replicate] at hf
    have Z0 := Lib.hid z0
    clear z0 hal
    go_enter Tryz.func93, Tryz.ntmps93
    go_wp2_with (go_at_call 98; refine (Tryz.internal_strconv_numDigits u hu1 hu _ (Lib.tabIs_alloc ht _)).mono ?_; rintro e w' ⟨rfl, rfl⟩)
    refine hf.mono ?_
    rintro e w' ⟨rfl, k, v', dk, rfl, hF⟩
    have hcv : (convert 40 9 (.slice (some ⟨w.heap.size, 0, none⟩) (Lib.nDigits u) 24)).run Tryz.prog ((putRow (fun (b : UInt8) => Value.int .u8 (b.toNat : Int)) (w.alloc (.cells Lib.zeros24 140)) w.heap.size 0 dk).drewN k) = .ok (.string ⟨(Lib.decDigits u).toArray⟩) ((putRow (fun (b : UInt8) => Value.int .u8 (b.toNat : Int)) (w.alloc (.cells Lib.zeros24 140)) w.heap.size 0 dk).drewN k) := by
      have h := run_convert_bytes_back (P := Tryz.prog) ((putRow (fun (b : UInt8) => Value.int .u8 (b.toNat : Int)) (w.alloc (.cells Lib.zeros24 140)) w.heap.size 0 dk).drewN k) 40 9 5 ⟨w.heap.size, 0, none⟩ 24 (Lib.decDigits u) (by kernel_rfl) (by kernel_rfl) (by kernel_rfl) (fun j hj => by
        rw [Lib.row_is_numeral hF j hj, Lib.add_plain, World.cell?_drewN]
        exact cell?_putRow (fun (b : UInt8) => Value.int .u8 (b.toNat : Int)) _ w.heap.size 0 _ dk Z0.out (by rw [hF.size, Array.size_replicate]) j (by rw [hF.size]; rw [Lib.decDigits_length] at hj; exact hj))
      rw [Lib.decDigits_length] at h
      exact h
    go_wp2
    go_ret
    obtain ⟨os, eo⟩ := Lib.fin_at w (.cells Lib.zeros24 140) dk k 0
    refine ⟨rfl, ?_⟩
    rw [eo]
    exact Lib.below_grow _ w (Nat.le_refl _) k os

theorem fmtUint (u : Nat) (hu : u < 18446744073709551616) (w : World) (ht : Pows w) :
    Calls Tryz.prog 87 #[.int .u64 u, .int .i64 10] w fun e w' => e = .returned (.string ⟨(Lib.decDigits u).toArray⟩) ∧ Below w.heap.size w w' := by
  go_enter Tryz.func87, Tryz.ntmps87
  go_wp2_with (go_at_call 93; refine (fmtUint_inner u hu _ ht).mono ?_; rintro e w' ⟨rfl, hb⟩)
  go_ret
  exact ⟨rfl, hb⟩

end Go.Proofs.YtlcidigcecmnpaaGreatDoor

namespace Go.Proofs.YtlcidigcecmnpaaGreatDoor
open Go.RowKit
set_option linter.unusedVariables false

/-- At least one digit ahead of the decimals. -/
def padTo (p : Nat) (ds : List UInt8) : List UInt8 := List.replicate (p + 1 - ds.length) 48 ++ ds
/-- The full stop ahead of the last p digits. -/
def pointed (p : Nat) (ls : List UInt8) : List UInt8 := if p = 0 then ls else ls.take (ls.length - p) ++ 46 :: ls.drop (ls.length - p)
/-- The text of a number with the digits ds. -/
def decS (neg : Bool) (p : Nat) (ds : List UInt8) : List UInt8 := if neg then 45 :: pointed p (padTo p ds) else pointed p (padTo p ds)

theorem ba_append (a b : List UInt8) : (⟨a.toArray⟩ : ByteArray) ++ ⟨b.toArray⟩ = ⟨(a ++ b).toArray⟩ := by
  apply ByteArray.ext
  rw [ByteArray.data_append]
  simp
theorem ba_take (l : List UInt8) (k : Nat) (hk : k ≤ l.length) : (⟨l.toArray⟩ : ByteArray).extract 0 k = ⟨(l.take k).toArray⟩ := by
  apply ByteArray.ext
  rw [ByteArray.data_extract]
  simp
theorem ba_drop (l : List UInt8) (k n : Nat) (hn : n = l.length) : (⟨l.toArray⟩ : ByteArray).extract k n = ⟨(l.drop k).toArray⟩ := by
  subst hn
  apply ByteArray.ext
  rw [ByteArray.data_extract]
  simp
  exact List.take_of_length_le (by simp)
theorem cutH (l : List UInt8) (k : Int) (h0 : 0 ≤ k) (hk : k ≤ l.length) (W : World) : (Instr.slice 9 (.string ⟨l.toArray⟩) none (some (.int .i64 k)) none).run Tryz.prog W = .ok (.string ⟨(l.take k.toNat).toArray⟩) W := by
  rw [run_slice_string_h W 9 _ (by kernel_rfl) .i64 k h0 (by simpa [ByteArray.size] using hk), ba_take _ _ (by omega)]
theorem cutL (l : List UInt8) (k : Int) (h0 : 0 ≤ k) (hk : k ≤ l.length) (W : World) : (Instr.slice 9 (.string ⟨l.toArray⟩) (some (.int .i64 k)) none none).run Tryz.prog W = .ok (.string ⟨(l.drop k.toNat).toArray⟩) W := by
  rw [run_slice_string_l W 9 _ (by kernel_rfl) .i64 k h0 (by simpa [ByteArray.size] using hk), ba_drop _ _ _ (by simp [ByteArray.size])]
theorem rep48 (c : Nat) (hc : c ≤ 100) (w : World) : Calls Tryz.prog 89 #[.string ⟨#[48]⟩, .int .i64 (c : Int)] w fun e w' => e = .returned (.string ⟨(List.replicate c (48 : UInt8)).toArray⟩) ∧ Below w.heap.size w w' := by
  refine (Tryz.strings_Repeat ⟨#[48]⟩ c w (by omega) (by simp [ByteArray.size]; omega)).mono ?_
  rintro e w' ⟨rfl, hb⟩
  refine ⟨?_, hb⟩
  have : ∀ c, Lib.repeatL [(48 : UInt8)] c = List.replicate c 48 := fun c => by
    induction c with
    | zero => rfl
    | succ c ih => rw [Lib.repeatL, ih]; rfl
  rw [show (⟨#[48]⟩ : ByteArray).data.toList = [48] from rfl, this]
theorem catS (a b : List UInt8) (h : a.length + b.length ≤ 1000) (W : World) : (Op.stringOp .add ⟨a.toArray⟩ ⟨b.toArray⟩).run Tryz.prog W = .ok (.string ⟨(a ++ b).toArray⟩) W := by
  rw [← ba_append]
  have h1 : ((⟨a.toArray⟩ : ByteArray).size : Int) ≤ 8388608 := by simp [ByteArray.size]; omega
  have h2 : ((⟨b.toArray⟩ : ByteArray).size : Int) ≤ 8388608 := by simp [ByteArray.size]; omega
  exact run_string_add W _ _ h1 h2
theorem below_nqD {B : Nat} {a w : World} (h : Below B a w) (n : Nat) : Below B a (w.drewN n) := ⟨h.os, h.tape, h.output, h.size, h.block⟩
theorem dd_len (u : Nat) (hu : u < 18446744073709551616) : (Lib.decDigits u).length ≤ 20 := by
  rw [Lib.decDigits_length]
  by_cases h1 : 1 ≤ u
  · exact nDigits_le u h1 hu
  · have : u = 0 := by omega
    subst this
    rw [Lib.nDigits_small (by omega)]
    omega


set_option maxHeartbeats 400000 in
set_option maxRecDepth 100000 in
theorem decimal_lzu (v : Int) (hv : inR v) (u : Nat) (hu : absI v = u) (p : Nat) (hp : p ≤ 18) (w : World) (ht : Pows w) (hs : ¬ (Lib.decDigits u).length < p + 1) (hp0 : p = 0) (hneg : ¬ v < 0) :
    Calls Tryz.prog 77 #[.int .i64 v, .int .i64 p] w fun e w' => e = .returned (.string ⟨(decS (decide (v < 0)) p (Lib.decDigits u)).toArray⟩) ∧ Below w.heap.size w w' := by
  have hb := absI_bd v hv
  have hu64 : u < 18446744073709551616 := by omega
  have SZ := veil (fun w => sizeOf_any v hv w)
  rw [hu] at SZ
  have FU := veil (fmtUint u hu64 w ht)
  have hl := dd_len u hu64
  generalize Lib.decDigits u = ds at FU hl hs ⊢
  clear hu hb hu64 ht
  have d1 : decide ((ds.length : Int) < (p : Int) + 1) = false := by simp; omega
  have d3 : decide (v < 0) = false := by simp; omega
  obtain ⟨ls, hls⟩ : ∃ ls, ds = ls := ⟨_, rfl⟩
  have hpad : padTo p ds = ls := by unfold padTo; rw [show p + 1 - ds.length = 0 by omega]; simpa using hls
  have hll : p + 1 ≤ ls.length := by rw [← hls]; omega
  have hl2 : ls.length ≤ 40 := by rw [← hls]; omega
  rw [show decS (decide (v < 0)) p ds = pointed p ls by unfold decS; rw [d3, hpad]; rfl]
  have hpt : pointed p ls = ls := by unfold pointed; rw [if_pos hp0]
  rw [hpt]
  subst hp0
  clear hpt hpad
  subst hls
  go_enter Tryz.func77, Tryz.ntmps77
  go_wp2_with (first | (go_at_call 88; refine (unveil SZ _).mono ?_; rintro e w' ⟨rfl, rfl⟩) | (go_at_call 87; refine (unveil FU).mono ?_; rintro e w1 ⟨rfl, hb1⟩) | (go_at_call 89; refine (unveil RP _).mono ?_; rintro e w2 ⟨rfl, hb2⟩))
  go_ret
  exact ⟨rfl, hb1⟩

set_option maxHeartbeats 400000 in
set_option maxRecDepth 100000 in
theorem decimal_lzn (v : Int) (hv : inR v) (u : Nat) (hu : absI v = u) (p : Nat) (hp : p ≤ 18) (w : World) (ht : Pows w) (hs : ¬ (Lib.decDigits u).length < p + 1) (hp0 : p = 0) (hneg : v < 0) :
    Calls Tryz.prog 77 #[.int .i64 v, .int .i64 p] w fun e w' => e = .returned (.string ⟨(decS (decide (v < 0)) p (Lib.decDigits u)).toArray⟩) ∧ Below w.heap.size w w' := by
  have hb := absI_bd v hv
  have hu64 : u < 18446744073709551616 := by omega
  have SZ := veil (fun w => sizeOf_any v hv w)
  rw [hu] at SZ
  have FU := veil (fmtUint u hu64 w ht)
  have hl := dd_len u hu64
  generalize Lib.decDigits u = ds at FU hl hs ⊢
  clear hu hb hu64 ht
  have d1 : decide ((ds.length : Int) < (p : Int) + 1) = false := by simp; omega
  have d3 : decide (v < 0) = true := by simp; omega
  obtain ⟨ls, hls⟩ : ∃ ls, ds = ls := ⟨_, rfl⟩
  have hpad : padTo p ds = ls := by unfold padTo; rw [show p + 1 - ds.length = 0 by omega]; simpa using hls
  have hll : p + 1 ≤ ls.length := by rw [← hls]; omega
  have hl2 : ls.length ≤ 40 := by rw [← hls]; omega
  rw [show decS (decide (v < 0)) p ds = 45 :: pointed p ls by unfold decS; rw [d3, hpad]; rfl]
  have hpt : pointed p ls = ls := by unfold pointed; rw [if_pos hp0]
  rw [hpt]
  subst hp0
  have r3 := catS [45] ls (by simp; omega)
  rw [show [45] ++ ls = 45 :: ls from rfl] at r3
  generalize 45 :: ls = l4 at r3 ⊢
  clear hpt hpad
  subst hls
  go_enter Tryz.func77, Tryz.ntmps77
  go_wp2_with (first | (go_at_call 88; refine (unveil SZ _).mono ?_; rintro e w' ⟨rfl, rfl⟩) | (go_at_call 87; refine (unveil FU).mono ?_; rintro e w1 ⟨rfl, hb1⟩) | (go_at_call 89; refine (unveil RP _).mono ?_; rintro e w2 ⟨rfl, hb2⟩))
  go_ret
  exact ⟨rfl, hb1⟩

set_option maxHeartbeats 400000 in
set_option maxRecDepth 100000 in
theorem decimal_lpu (v : Int) (hv : inR v) (u : Nat) (hu : absI v = u) (p : Nat) (hp : p ≤ 18) (w : World) (ht : Pows w) (hs : ¬ (Lib.decDigits u).length < p + 1) (hp0 : 0 < p) (hneg : ¬ v < 0) :
    Calls Tryz.prog 77 #[.int .i64 v, .int .i64 p] w fun e w' => e = .returned (.string ⟨(decS (decide (v < 0)) p (Lib.decDigits u)).toArray⟩) ∧ Below w.heap.size w w' := by
  have hb := absI_bd v hv
  have hu64 : u < 18446744073709551616 := by omega
  have SZ := veil (fun w => sizeOf_any v hv w)
  rw [hu] at SZ
  have FU := veil (fmtUint u hu64 w ht)
  have hl := dd_len u hu64
  generalize Lib.decDigits u = ds at FU hl hs ⊢
  clear hu hb hu64 ht
  have d1 : decide ((ds.length : Int) < (p : Int) + 1) = false := by simp; omega
  have d3 : decide (v < 0) = false := by simp; omega
  have d2 : decide (0 < p) = true := by simp; omega
  obtain ⟨ls, hls⟩ : ∃ ls, ds = ls := ⟨_, rfl⟩
  have hpad : padTo p ds = ls := by unfold padTo; rw [show p + 1 - ds.length = 0 by omega]; simpa using hls
  have hll : p + 1 ≤ ls.length := by rw [← hls]; omega
  have hl2 : ls.length ≤ 40 := by rw [← hls]; omega
  rw [show decS (decide (v < 0)) p ds = pointed p ls by unfold decS; rw [d3, hpad]; rfl]
  have hpt : pointed p ls = ls.take ((ls.length : Int) - p).toNat ++ (46 :: ls.drop ((ls.length : Int) - p).toNat) := by unfold pointed; rw [if_neg (by omega), show ((ls.length : Int) - p).toNat = ls.length - p by omega]
  rw [hpt]
  have s1 := cutH ls ((ls.length : Int) - p) (by omega) (by omega)
  have s2 := cutL ls ((ls.length : Int) - p) (by omega) (by omega)
  have n1 : (ls.take ((ls.length : Int) - p).toNat).length ≤ 40 := by simp; omega
  have n2 : (ls.drop ((ls.length : Int) - p).toNat).length ≤ 40 := by simp; omega
  generalize ls.take ((ls.length : Int) - p).toNat = l1 at s1 hpt n1 ⊢
  generalize ls.drop ((ls.length : Int) - p).toNat = l2 at s2 hpt n2 ⊢
  have r1 := catS l1 [46] (by simp; omega)
  have r2 := catS (l1 ++ [46]) l2 (by simp; omega)
  have n3 : (l1 ++ [46] ++ l2).length ≤ 90 := by simp; omega
  rw [show l1 ++ 46 :: l2 = l1 ++ [46] ++ l2 by simp]
  generalize l1 ++ [46] = l12 at r1 r2 n3 ⊢
  generalize l12 ++ l2 = l3 at r2 n3 ⊢
  clear hpt hpad
  subst hls
  go_enter Tryz.func77, Tryz.ntmps77
  go_wp2_with (first | (go_at_call 88; refine (unveil SZ _).mono ?_; rintro e w' ⟨rfl, rfl⟩) | (go_at_call 87; refine (unveil FU).mono ?_; rintro e w1 ⟨rfl, hb1⟩) | (go_at_call 89; refine (unveil RP _).mono ?_; rintro e w2 ⟨rfl, hb2⟩))
  go_region_held3 (fun _ => True) (exact trivial) (fail)
  all_goals go_wp2_with fail
  go_ret
  exact ⟨rfl, below_nqD hb1 _⟩

set_option maxHeartbeats 400000 in
set_option maxRecDepth 100000 in
theorem decimal_lpn (v : Int) (hv : inR v) (u : Nat) (hu : absI v = u) (p : Nat) (hp : p ≤ 18) (w : World) (ht : Pows w) (hs : ¬ (Lib.decDigits u).length < p + 1) (hp0 : 0 < p) (hneg : v < 0) :
    Calls Tryz.prog 77 #[.int .i64 v, .int .i64 p] w fun e w' => e = .returned (.string ⟨(decS (decide (v < 0)) p (Lib.decDigits u)).toArray⟩) ∧ Below w.heap.size w w' := by
  have hb := absI_bd v hv
  have hu64 : u < 18446744073709551616 := by omega
  have SZ := veil (fun w => sizeOf_any v hv w)
  rw [hu] at SZ
  have FU := veil (fmtUint u hu64 w ht)
  have hl := dd_len u hu64
  generalize Lib.decDigits u = ds at FU hl hs ⊢
  clear hu hb hu64 ht
  have d1 : decide ((ds.length : Int) < (p : Int) + 1) = false := by simp; omega
  have d3 : decide (v < 0) = true := by simp; omega
  have d2 : decide (0 < p) = true := by simp; omega
  obtain ⟨ls, hls⟩ : ∃ ls, ds = ls := ⟨_, rfl⟩
  have hpad : padTo p ds = ls := by unfold padTo; rw [show p + 1 - ds.length = 0 by omega]; simpa using hls
  have hll : p + 1 ≤ ls.length := by rw [← hls]; omega
  have hl2 : ls.length ≤ 40 := by rw [← hls]; omega
  rw [show decS (decide (v < 0)) p ds = 45 :: pointed p ls by unfold decS; rw [d3, hpad]; rfl]
  have hpt : pointed p ls = ls.take ((ls.length : Int) - p).toNat ++ (46 :: ls.drop ((ls.length : Int) - p).toNat) := by unfold pointed; rw [if_neg (by omega), show ((ls.length : Int) - p).toNat = ls.length - p by omega]
  rw [hpt]
  have s1 := cutH ls ((ls.length : Int) - p) (by omega) (by omega)
  have s2 := cutL ls ((ls.length : Int) - p) (by omega) (by omega)
  have n1 : (ls.take ((ls.length : Int) - p).toNat).length ≤ 40 := by simp; omega
  have n2 : (ls.drop ((ls.length : Int) - p).toNat).length ≤ 40 := by simp; omega
  generalize ls.take ((ls.length : Int) - p).toNat = l1 at s1 hpt n1 ⊢
  generalize ls.drop ((ls.length : Int) - p).toNat = l2 at s2 hpt n2 ⊢
  have r1 := catS l1 [46] (by simp; omega)
  have r2 := catS (l1 ++ [46]) l2 (by simp; omega)
  have n3 : (l1 ++ [46] ++ l2).length ≤ 90 := by simp; omega
  rw [show l1 ++ 46 :: l2 = l1 ++ [46] ++ l2 by simp]
  generalize l1 ++ [46] = l12 at r1 r2 n3 ⊢
  generalize l12 ++ l2 = l3 at r2 n3 ⊢
  have r3 := catS [45] l3 (by simp; omega)
  rw [show [45] ++ l3 = 45 :: l3 from rfl] at r3
  generalize 45 :: l3 = l4 at r3 ⊢
  clear hpt hpad
  subst hls
  go_enter Tryz.func77, Tryz.ntmps77
  go_wp2_with (first | (go_at_call 88; refine (unveil SZ _).mono ?_; rintro e w' ⟨rfl, rfl⟩) | (go_at_call 87; refine (unveil FU).mono ?_; rintro e w1 ⟨rfl, hb1⟩) | (go_at_call 89; refine (unveil RP _).mono ?_; rintro e w2 ⟨rfl, hb2⟩))
  go_region_held3 (fun _ => True) (exact trivial) (fail)
  all_goals go_wp2_with fail
  go_ret
  exact ⟨rfl, below_nqD hb1 _⟩

set_option maxHeartbeats 400000 in
set_option maxRecDepth 100000 in
theorem decimal_spu (v : Int) (hv : inR v) (u : Nat) (hu : absI v = u) (p : Nat) (hp : p ≤ 18) (w : World) (ht : Pows w) (hs : (Lib.decDigits u).length < p + 1) (hp0 : 0 < p) (hneg : ¬ v < 0) :
    Calls Tryz.prog 77 #[.int .i64 v, .int .i64 p] w fun e w' => e = .returned (.string ⟨(decS (decide (v < 0)) p (Lib.decDigits u)).toArray⟩) ∧ Below w.heap.size w w' := by
  have hb := absI_bd v hv
  have hu64 : u < 18446744073709551616 := by omega
  have SZ := veil (fun w => sizeOf_any v hv w)
  rw [hu] at SZ
  have FU := veil (fmtUint u hu64 w ht)
  have hl := dd_len u hu64
  generalize Lib.decDigits u = ds at FU hl hs ⊢
  clear hu hb hu64 ht
  have d1 : decide ((ds.length : Int) < (p : Int) + 1) = true := by simp; omega
  have d3 : decide (v < 0) = false := by simp; omega
  have d2 : decide (0 < p) = true := by simp; omega
  obtain ⟨c, hc⟩ : ∃ c : Nat, p + 1 - ds.length = c := ⟨_, rfl⟩
  have hci : (p : Int) + 1 - ds.length = (c : Int) := by omega
  have hc0 : decide (0 < (c : Int)) = true := by simp; omega
  have hc1 : decide (0 < c) = true := by simp; omega
  have RP := veil (fun w => rep48 c (by omega) w)
  obtain ⟨zs, hzs⟩ : ∃ zs, List.replicate c (48 : UInt8) = zs := ⟨_, rfl⟩
  have hzl : zs.length = c := by rw [← hzs]; simp
  rw [hzs] at RP
  have hcat := catS zs ds (by omega)
  obtain ⟨ls, hls⟩ : ∃ ls, zs ++ ds = ls := ⟨_, rfl⟩
  have hll : p + 1 ≤ ls.length := by rw [← hls]; simp; omega
  have hl2 : ls.length ≤ 40 := by rw [← hls]; simp; omega
  rw [hls] at hcat
  have hpad : padTo p ds = ls := by unfold padTo; rw [hc, hzs, hls]
  rw [show decS (decide (v < 0)) p ds = pointed p ls by unfold decS; rw [d3, hpad]; rfl]
  have hpt : pointed p ls = ls.take ((ls.length : Int) - p).toNat ++ (46 :: ls.drop ((ls.length : Int) - p).toNat) := by unfold pointed; rw [if_neg (by omega), show ((ls.length : Int) - p).toNat = ls.length - p by omega]
  rw [hpt]
  have s1 := cutH ls ((ls.length : Int) - p) (by omega) (by omega)
  have s2 := cutL ls ((ls.length : Int) - p) (by omega) (by omega)
  have n1 : (ls.take ((ls.length : Int) - p).toNat).length ≤ 40 := by simp; omega
  have n2 : (ls.drop ((ls.length : Int) - p).toNat).length ≤ 40 := by simp; omega
  generalize ls.take ((ls.length : Int) - p).toNat = l1 at s1 hpt n1 ⊢
  generalize ls.drop ((ls.length : Int) - p).toNat = l2 at s2 hpt n2 ⊢
  have r1 := catS l1 [46] (by simp; omega)
  have r2 := catS (l1 ++ [46]) l2 (by simp; omega)
  have n3 : (l1 ++ [46] ++ l2).length ≤ 90 := by simp; omega
  rw [show l1 ++ 46 :: l2 = l1 ++ [46] ++ l2 by simp]
  generalize l1 ++ [46] = l12 at r1 r2 n3 ⊢
  generalize l12 ++ l2 = l3 at r2 n3 ⊢
  clear hpt hpad
  clear hls hzs hzl hc
  go_enter Tryz.func77, Tryz.ntmps77
  go_wp2_with (first | (go_at_call 88; refine (unveil SZ _).mono ?_; rintro e w' ⟨rfl, rfl⟩) | (go_at_call 87; refine (unveil FU).mono ?_; rintro e w1 ⟨rfl, hb1⟩) | (go_at_call 89; refine (unveil RP _).mono ?_; rintro e w2 ⟨rfl, hb2⟩))
  go_region_held3 (fun _ => True) (exact trivial) (fail)
  all_goals go_wp2_with fail
  go_ret
  exact ⟨rfl, below_nqD (hb1.trans (hb2.mono hb1.size)) _⟩

set_option maxHeartbeats 400000 in
set_option maxRecDepth 100000 in
theorem decimal_spn (v : Int) (hv : inR v) (u : Nat) (hu : absI v = u) (p : Nat) (hp : p ≤ 18) (w : World) (ht : Pows w) (hs : (Lib.decDigits u).length < p + 1) (hp0 : 0 < p) (hneg : v < 0) :
    Calls Tryz.prog 77 #[.int .i64 v, .int .i64 p] w fun e w' => e = .returned (.string ⟨(decS (decide (v < 0)) p (Lib.decDigits u)).toArray⟩) ∧ Below w.heap.size w w' := by
  have hb := absI_bd v hv
  have hu64 : u < 18446744073709551616 := by omega
  have SZ := veil (fun w => sizeOf_any v hv w)
  rw [hu] at SZ
  have FU := veil (fmtUint u hu64 w ht)
  have hl := dd_len u hu64
  generalize Lib.decDigits u = ds at FU hl hs ⊢
  clear hu hb hu64 ht
  have d1 : decide ((ds.length : Int) < (p : Int) + 1) = true := by simp; omega
  have d3 : decide (v < 0) = true := by simp; omega
  have d2 : decide (0 < p) = true := by simp; omega
  obtain ⟨c, hc⟩ : ∃ c : Nat, p + 1 - ds.length = c := ⟨_, rfl⟩
  have hci : (p : Int) + 1 - ds.length = (c : Int) := by omega
  have hc0 : decide (0 < (c : Int)) = true := by simp; omega
  have hc1 : decide (0 < c) = true := by simp; omega
  have RP := veil (fun w => rep48 c (by omega) w)
  obtain ⟨zs, hzs⟩ : ∃ zs, List.replicate c (48 : UInt8) = zs := ⟨_, rfl⟩
  have hzl : zs.length = c := by rw [← hzs]; simp
  rw [hzs] at RP
  have hcat := catS zs ds (by omega)
  obtain ⟨ls, hls⟩ : ∃ ls, zs ++ ds = ls := ⟨_, rfl⟩
  have hll : p + 1 ≤ ls.length := by rw [← hls]; simp; omega
  have hl2 : ls.length ≤ 40 := by rw [← hls]; simp; omega
  rw [hls] at hcat
  have hpad : padTo p ds = ls := by unfold padTo; rw [hc, hzs, hls]
  rw [show decS (decide (v < 0)) p ds = 45 :: pointed p ls by unfold decS; rw [d3, hpad]; rfl]
  have hpt : pointed p ls = ls.take ((ls.length : Int) - p).toNat ++ (46 :: ls.drop ((ls.length : Int) - p).toNat) := by unfold pointed; rw [if_neg (by omega), show ((ls.length : Int) - p).toNat = ls.length - p by omega]
  rw [hpt]
  have s1 := cutH ls ((ls.length : Int) - p) (by omega) (by omega)
  have s2 := cutL ls ((ls.length : Int) - p) (by omega) (by omega)
  have n1 : (ls.take ((ls.length : Int) - p).toNat).length ≤ 40 := by simp; omega
  have n2 : (ls.drop ((ls.length : Int) - p).toNat).length ≤ 40 := by simp; omega
  generalize ls.take ((ls.length : Int) - p).toNat = l1 at s1 hpt n1 ⊢
  generalize ls.drop ((ls.length : Int) - p).toNat = l2 at s2 hpt n2 ⊢
  have r1 := catS l1 [46] (by simp; omega)
  have r2 := catS (l1 ++ [46]) l2 (by simp; omega)
  have n3 : (l1 ++ [46] ++ l2).length ≤ 90 := by simp; omega
  rw [show l1 ++ 46 :: l2 = l1 ++ [46] ++ l2 by simp]
  generalize l1 ++ [46] = l12 at r1 r2 n3 ⊢
  generalize l12 ++ l2 = l3 at r2 n3 ⊢
  have r3 := catS [45] l3 (by simp; omega)
  rw [show [45] ++ l3 = 45 :: l3 from rfl] at r3
  generalize 45 :: l3 = l4 at r3 ⊢
  clear hpt hpad
  clear hls hzs hzl hc
  go_enter Tryz.func77, Tryz.ntmps77
  go_wp2_with (first | (go_at_call 88; refine (unveil SZ _).mono ?_; rintro e w' ⟨rfl, rfl⟩) | (go_at_call 87; refine (unveil FU).mono ?_; rintro e w1 ⟨rfl, hb1⟩) | (go_at_call 89; refine (unveil RP _).mono ?_; rintro e w2 ⟨rfl, hb2⟩))
  go_region_held3 (fun _ => True) (exact trivial) (fail)
  all_goals go_wp2_with fail
  go_ret
  exact ⟨rfl, below_nqD (hb1.trans (hb2.mono hb1.size)) _⟩

theorem decimal_any (v : Int) (hv : inR v) (u : Nat) (hu : absI v = u) (p : Nat) (hp : p ≤ 18) (w : World) (ht : Pows w) :
    Calls Tryz.prog 77 #[.int .i64 v, .int .i64 p] w fun e w' => e = .returned (.string ⟨(decS (decide (v < 0)) p (Lib.decDigits u)).toArray⟩) ∧ Below w.heap.size w w' := by
  by_cases hs : (Lib.decDigits u).length < p + 1
  · by_cases hp0 : p = 0
    · exfalso
      rw [Lib.decDigits_length] at hs
      have h1 : 1 ≤ Lib.nDigits u := by rw [Lib.nDigits]; split <;> omega
      omega
    · by_cases hn : v < 0
      · exact decimal_spn v hv u hu p hp w ht hs (by omega) hn
      · exact decimal_spu v hv u hu p hp w ht hs (by omega) hn
  · by_cases hp0 : p = 0
    · by_cases hn : v < 0
      · exact decimal_lzn v hv u hu p hp w ht hs hp0 hn
      · exact decimal_lzu v hv u hu p hp w ht hs hp0 hn
    · by_cases hn : v < 0
      · exact decimal_lpn v hv u hu p hp w ht hs (by omega) hn
      · exact decimal_lpu v hv u hu p hp w ht hs (by omega) hn

theorem fit_any (p : Int) (w : World) : Calls Tryz.prog 76 #[.int .i64 p] w fun e w' => e = .returned (.bool (decide (0 ≤ p ∧ p ≤ 18))) ∧ w = w' := by
  by_cases h : 0 ≤ p ∧ p ≤ 18
  · rw [decide_eq_true h]
    obtain ⟨h1, h2⟩ := h
    go_enter Tryz.func76, Tryz.ntmps76
    go_wp2
    go_ret
    simp
  · rw [decide_eq_false h]
    by_cases h1 : 0 ≤ p
    · have h2 : ¬ p ≤ 18 := fun h2 => h ⟨h1, h2⟩
      clear h
      go_enter Tryz.func76, Tryz.ntmps76
      go_wp2
      go_ret
      simp
    · clear h
      go_enter Tryz.func76, Tryz.ntmps76
      go_wp2
      go_ret
      simp

theorem text_in (v : Int) (hv : inR v) (u : Nat) (hu : absI v = u) (p : Nat) (hp : p ≤ 18) (w : World) (ht : Pows w) :
    Calls Tryz.prog 58 #[.int .i64 v, .int .i64 p] w fun e w' => e = .returned (.tuple #[.string ⟨(decS (decide (v < 0)) p (Lib.decDigits u)).toArray⟩, .int .i64 0]) ∧ Below w.heap.size w w' := by
  have D := veil (decimal_any v hv u hu p hp w ht)
  generalize decS (decide (v < 0)) p (Lib.decDigits u) = s at D ⊢
  have F := veil (fit_any (p : Int))
  rw [decide_eq_true (show (0 : Int) ≤ p ∧ (p : Int) ≤ 18 by omega)] at F
  clear ht hu
  go_enter Tryz.func58, Tryz.ntmps58
  go_wp2_with (first | (go_at_call 76; refine (unveil F _).mono ?_; rintro e w' ⟨rfl, rfl⟩) | (go_at_call 77; refine (unveil D).mono ?_; rintro e w1 ⟨rfl, hb1⟩))
  go_ret2
  exact ⟨rfl, hb1⟩

theorem text_out (v : Int) (p : Int) (hp : ¬ (0 ≤ p ∧ p ≤ 18)) (w : World) :
    Calls Tryz.prog 58 #[.int .i64 v, .int .i64 p] w fun e w' => e = .returned (.tuple #[.string ⟨#[]⟩, .int .i64 1]) ∧ w' = w := by
  have F := veil (fit_any p)
  rw [decide_eq_false hp] at F
  clear hp
  go_enter Tryz.func58, Tryz.ntmps58
  go_wp2_with (go_at_call 76; refine (unveil F _).mono ?_; rintro e w' ⟨rfl, rfl⟩)
  go_ret2
  exact ⟨rfl, rfl⟩

end Go.Proofs.YtlcidigcecmnpaaGreatDoor
