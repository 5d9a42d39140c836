import Derived.Shelf.Small.Bits
import Derived.Shelf.Small.Wraps
import Derived.Shelf.Strconv.Itoa0
import Derived.Shelf.Bits.Mul64
import Derived.Ground.Names2Prog
import Derived.Shelf.Slices.Clone
import Derived.Shelf.Slices.SearchI
import Derived.Test.YtpfjnnkjoabgbaaGreatDoorProg
import Derived.Test.YtpfjnnkjoabgbaaGreatDoorXAS
import Derived.BigQuiet
namespace Go.Proofs
open Go.Shelf
def Tryz.lays134_ren : Go.Shelf.Ren := ⟨fun | 134 => 150 | 129 => 156 | n => n, fun | 53 => 179 | 3 => 3 | 4 => 4 | 46 => 150 | 5 => 5 | 9 => 9 | n => n, fun | n => n⟩
theorem Tryz.lays134 : Go.Proofs.Lays.n134 Tryz.prog Tryz.lays134_ren := {
  mixed := by kernel_rfl
  f129 := Tryz.func156.trans (congrArg some (by kernel_rfl))
  f134 := Tryz.func150.trans (congrArg some (by kernel_rfl))
  t3 := Tryz.underlying3
  a3 := Tryz.isAgg3
  z3 := Tryz.sizeOf3
  v3 := Tryz.zeroValue3
  t4 := Tryz.underlying4
  a4 := Tryz.isAgg4
  z4 := Tryz.sizeOf4
  v4 := Tryz.zeroValue4
  t5 := Tryz.underlying5
  a5 := Tryz.isAgg5
  z5 := Tryz.sizeOf5
  v5 := Tryz.zeroValue5
  t9 := Tryz.underlying9
  a9 := Tryz.isAgg9
  z9 := Tryz.sizeOf9
  v9 := Tryz.zeroValue9
  t46 := Tryz.underlying150
  a46 := Tryz.isAgg150
  z46 := Tryz.sizeOf150
  v46 := Tryz.zeroValue150
  t53 := Tryz.underlying179
  a53 := Tryz.isAgg179
  z53 := Tryz.sizeOf179
  v53 := Tryz.zeroValue179 }
theorem Tryz.bits_LeadingZeros64 (x : Int) (w : World) (h0 : 0 ≤ x) (h1 : x ≤ 18446744073709551615) :
    Calls Tryz.prog 150 #[.int .u64 x] w fun e w' => e = .returned (.int .i64 (64 - (Lib.bitLen x.toNat : Int))) ∧ w' = w := Any.bits_LeadingZeros64 Tryz.lays134 x w h0 h1
def Tryz.lays122_ren : Go.Shelf.Ren := ⟨fun | 122 => 59 | 215 => 106 | n => n, fun | 3 => 3 | 4 => 4 | n => n, fun | n => n⟩
theorem Tryz.lays122 : Go.Proofs.Lays.n122 Tryz.prog Tryz.lays122_ren := {
  mixed := by kernel_rfl
  f122 := Tryz.func59.trans (congrArg some (by kernel_rfl))
  f215 := Tryz.func106.trans (congrArg some (by kernel_rfl))
  t3 := Tryz.underlying3
  a3 := Tryz.isAgg3
  z3 := Tryz.sizeOf3
  v3 := Tryz.zeroValue3
  t4 := Tryz.underlying4
  a4 := Tryz.isAgg4
  z4 := Tryz.sizeOf4
  v4 := Tryz.zeroValue4 }
open Go.RowKit in
theorem Tryz.cmp_Compare_int (x y : Int) (w : World) :
    Calls Tryz.prog 59 #[.int .i64 x, .int .i64 y] w fun e w' => e = .returned (.int .i64 (Lib.compareInt x y)) ∧ w' = w := Any.cmp_Compare_int Tryz.lays122 x y w
def Tryz.laysNm215_ren : Go.Shelf.Ren := ⟨fun | 15 => 41 | n => n, fun | 22 => 23 | 3 => 3 | 4 => 4 | n => n, fun | n => n⟩
theorem Tryz.laysNm215 : Go.Proofs.Lays2.n15 Tryz.prog Tryz.laysNm215_ren := {
  mixed := by kernel_rfl
  f15 := Tryz.func41.trans (congrArg some (by kernel_rfl))
  t3 := Tryz.underlying3
  a3 := Tryz.isAgg3
  z3 := Tryz.sizeOf3
  v3 := Tryz.zeroValue3
  t4 := Tryz.underlying4
  a4 := Tryz.isAgg4
  z4 := Tryz.sizeOf4
  v4 := Tryz.zeroValue4
  t22 := Tryz.underlying23
  a22 := Tryz.isAgg23
  z22 := Tryz.sizeOf23
  v22 := Tryz.zeroValue23
  i3 := by kernel_rfl }
open Go.RowKit Go.Lib in
theorem Tryz.slices_Clone_int (b off n c : Nat) (zs : List Int) (w : World) (hz : n ≤ zs.length) (hbig : n * 8 ≤ 140737488355328) (hc : ∀ j, j < zs.length → w.cell? ⟨b, off + j, none⟩ = some (.int .i64 (zs.getD j 0))) :
    Calls Tryz.prog 41 #[.slice (some ⟨b, off, none⟩) n c] w fun e w' => ∃ v', e = .returned v' ∧ w'.ownsRow w.heap.size 3 1 v' n ((zs.take n).map (Value.int .i64)) ∧ v' ≠ .slice none 0 0 ∧ Below w.heap.size w w' := Any.slices_Clone_int Tryz.laysNm215 b off n c zs w hz hbig hc
open Go.RowKit Go.Lib in
theorem Tryz.slices_Clone_int_nil (n c : Nat) (w : World) :
    Calls Tryz.prog 41 #[.slice none n c] w fun e w' => e = .returned (.slice none 0 0) ∧ w' = w := Any.slices_Clone_int_nil Tryz.laysNm215 n c w
def Tryz.laysNm216_ren : Go.Shelf.Ren := ⟨fun | 16 => 40 | n => n, fun | 24 => 22 | 9 => 9 | 4 => 4 | n => n, fun | n => n⟩
theorem Tryz.laysNm216 : Go.Proofs.Lays2.n16 Tryz.prog Tryz.laysNm216_ren := {
  mixed := by kernel_rfl
  f16 := Tryz.func40.trans (congrArg some (by kernel_rfl))
  t4 := Tryz.underlying4
  a4 := Tryz.isAgg4
  z4 := Tryz.sizeOf4
  v4 := Tryz.zeroValue4
  t9 := Tryz.underlying9
  a9 := Tryz.isAgg9
  z9 := Tryz.sizeOf9
  v9 := Tryz.zeroValue9
  t24 := Tryz.underlying22
  a24 := Tryz.isAgg22
  z24 := Tryz.sizeOf22
  v24 := Tryz.zeroValue22
  i9 := by kernel_rfl }
open Go.RowKit Go.Lib in
theorem Tryz.slices_Clone_string (b off n c : Nat) (zs : List ByteArray) (w : World) (hz : n ≤ zs.length) (hbig : n * 16 ≤ 140737488355328) (hc : ∀ j, j < zs.length → w.cell? ⟨b, off + j, none⟩ = some (.string (zs.getD j ByteArray.empty))) :
    Calls Tryz.prog 40 #[.slice (some ⟨b, off, none⟩) n c] w fun e w' => ∃ v', e = .returned v' ∧ w'.ownsRow w.heap.size 9 1 v' n ((zs.take n).map (Value.string)) ∧ v' ≠ .slice none 0 0 ∧ Below w.heap.size w w' := Any.slices_Clone_string Tryz.laysNm216 b off n c zs w hz hbig hc
open Go.RowKit Go.Lib in
theorem Tryz.slices_Clone_string_nil (n c : Nat) (w : World) :
    Calls Tryz.prog 40 #[.slice none n c] w fun e w' => e = .returned (.slice none 0 0) ∧ w' = w := Any.slices_Clone_string_nil Tryz.laysNm216 n c w
open Go.RowKit Go.Lib in
theorem Tryz.slices_Clone_int_zero (a : Addr) (c : Nat) (w : World) :
    Calls Tryz.prog 41 #[.slice (some a) 0 c] w fun e w' => ∃ v', e = .returned v' ∧ w'.ownsRow w.heap.size 3 1 v' 0 [] ∧ v' ≠ .slice none 0 0 ∧ Below w.heap.size w w' := Any.slices_Clone_int_zero Tryz.laysNm215 a c w
open Go.RowKit Go.Lib in
theorem Tryz.slices_Clone_string_zero (a : Addr) (c : Nat) (w : World) :
    Calls Tryz.prog 40 #[.slice (some a) 0 c] w fun e w' => ∃ v', e = .returned v' ∧ w'.ownsRow w.heap.size 9 1 v' 0 [] ∧ v' ≠ .slice none 0 0 ∧ Below w.heap.size w w' := Any.slices_Clone_string_zero Tryz.laysNm216 a c w
end Go.Proofs

namespace Go.Proofs.YtpfjnnkjoabgbaaGreatDoor
open Go.RowKit
set_option linter.unusedVariables false

theorem div64_small (lo y : Int) (l0 : 0 ≤ lo) (l1 : lo < 18446744073709551616) (y0 : 0 < y) (y1 : y < 18446744073709551616) (w : World) :
    Calls Tryz.prog 140 #[.int .u64 0, .int .u64 lo, .int .u64 y] w fun e w' => e = .returned (.tuple #[.int .u64 (lo / y), .int .u64 (lo % y)]) ∧ ∃ n, w' = w.drewN n := by
  have e0 : (y == 0) = false := by simp; omega
  have e1 : decide (y ≤ 0) = false := by simp; omega
  have yne : ¬ y = 0 := by omega
  go_enter Tryz.func140, Tryz.ntmps140
  go_wp2
  go_quiet (fail)
  go_wp2
  go_ret2
  exact ⟨rfl, _, rfl⟩

set_option maxHeartbeats 4000000 in
theorem div64_core (hi lo y s Y y1 y0 u L d1 d0 qa Q1 R qb Q0 V : Int) (h0 : 0 < hi) (h1 : hi < y) (l0 : 0 ≤ lo) (l1 : lo < 18446744073709551616) (z1 : y < 18446744073709551616) (s0 : 0 ≤ s) (s1 : s ≤ 63) (w : World)
    (hs : Hid (∀ w, Calls Tryz.prog 150 #[.int .u64 y] w fun e w' => e = .returned (.int .i64 s) ∧ w' = w))
    (eY : IntKind.u64.wrap (y * 2 ^ s.toNat) = Y) (eY1 : Y / 4294967296 = y1) (eY0 : bits .and .u64 Y 4294967295 = y0)
    (eU : bits .or .u64 (IntKind.u64.wrap (hi * 2 ^ s.toNat)) (lo / 2 ^ (64 - s).toNat) = u) (eL : IntKind.u64.wrap (lo * 2 ^ s.toNat) = L)
    (eL1 : L / 4294967296 = d1) (eL0 : bits .and .u64 L 4294967295 = d0)
    (eqa : u / y1 = qa) (qa0 : 0 ≤ qa) (qa1 : qa ≤ 4294967297) (qa2 : 0 ≤ qa * y1) (qa3 : qa * y1 ≤ u)
    (eR : IntKind.u64.wrap (IntKind.u64.wrap (IntKind.u64.wrap (u * 4294967296) + d1) - IntKind.u64.wrap (Q1 * Y)) = R)
    (eqb : R / y1 = qb) (qb0 : 0 ≤ qb) (qb1 : qb ≤ 4294967297) (qb2 : 0 ≤ qb * y1) (qb3 : qb * y1 ≤ R)
    (eV : IntKind.u64.wrap (IntKind.u64.wrap (IntKind.u64.wrap (R * 4294967296) + d0) - IntKind.u64.wrap (Q0 * Y)) = V)
    (K1 : Hid (Kn Y y1 y0 u d1)) (K2 : Hid (Kn Y y1 y0 R d0))
    (A1 : Hid (Guess y1 u Q1 qa (u - qa * y1))) (A2 : Hid (Guess y1 R Q0 qb (R - qb * y1)))
    (D1 : Hid (Q1 * Y ≤ u * 4294967296 + d1)) (D2 : Hid (u * 4294967296 + d1 < (Q1 + 1) * Y)) (E1 : Hid (Q0 * Y ≤ R * 4294967296 + d0)) (E2 : Hid (R * 4294967296 + d0 < (Q0 + 1) * Y))
    (b1 : 2147483648 ≤ y1) (b2 : y1 < 4294967296) (c1 : 0 ≤ u) (c2 : u < 18446744073709551616) (c3 : 0 ≤ R) (c4 : R < 18446744073709551616) (v1 : 0 ≤ V) (v2 : V < 18446744073709551616)
    (f1 : 0 ≤ d1) (f2 : d1 < 4294967296) (f3 : 0 ≤ d0) (f4 : d0 < 4294967296) (t1 : 0 ≤ Q1) (t2 : Q1 < 4294967296) (t3 : 0 ≤ Q0) (t4 : Q0 < 4294967296) :
    Calls Tryz.prog 140 #[.int .u64 hi, .int .u64 lo, .int .u64 y] w fun e w' => e = .returned (.tuple #[.int .u64 (Q1 * 4294967296 + Q0), .int .u64 (V / 2 ^ s.toNat)]) ∧ w' = w := by
  have e0 : (y == 0) = false := by simp; omega
  have e1 : decide (y ≤ hi) = false := by simp; omega
  have e2 : (hi == 0) = false := by simp; omega
  have e3 : ¬ y1 = 0 := by omega
  go_enter Tryz.func140, Tryz.ntmps140
  go_wp2_with fail
  refine (unveil hs _).mono ?_; rintro e w' ⟨rfl, rfl⟩
  go_wp2_with fail
  go_loop [15, 16] (fun a b => ∃ q r : Int, Guess y1 u Q1 q r ∧ a = .int .u64 q ∧ b = .int .u64 r) (fun a b => (intOf a).toNat)
  case atStart => exact ⟨qa, u - qa * y1, unveil A1, by first | rfl | rw [eqa], by first | rfl | rw [eqa]⟩
  case round =>
    obtain ⟨q, r, ⟨g1, g2, g3, g4, g5⟩, rfl, rfl⟩ := hrel
    have G := veil g1
    have G' := veil (kn_next g1)
    clear g1
    by_cases hA : 4294967296 ≤ q
    · by_cases hb : 4294967296 ≤ r + y1
      · have he : q - 1 = Q1 := by
          have h1 := kn_le (unveil K1) (unveil D2) (unveil G') (kn_break (unveil K1) (by omega) (by omega) hb)
          omega
        clear G G'
        go_wp2_with fail
        go_loop [16, 18] (fun b a => ∃ q r : Int, Guess y1 R Q0 q r ∧ a = .int .u64 q ∧ b = .int .u64 r) (fun b a => (intOf a).toNat)
        case atStart => exact ⟨qb, R - qb * y1, unveil A2, by first | rfl | rw [eqb], by first | rfl | rw [eqb]⟩
        case round =>
          obtain ⟨q, r, ⟨g1, g2, g3, g4, g5⟩, rfl, rfl⟩ := hrel
          have G := veil g1
          have G' := veil (kn_next g1)
          clear g1
          by_cases hA : 4294967296 ≤ q
          · by_cases hb : 4294967296 ≤ r + y1
            · have he : q - 1 = Q0 := by
                have h1 := kn_le (unveil K2) (unveil E2) (unveil G') (kn_break (unveil K2) (by omega) (by omega) hb)
                omega
              clear G G'
              go_wp2_with fail
              go_ret2
              exact ⟨rfl, rfl⟩
            · have hb' : decide (4294967296 ≤ r + y1) = false := by simp; omega
              go_wp2_with fail
              go_round
              case rel => exact ⟨q - 1, r + y1, ⟨unveil G', by omega, by omega, by omega, by omega⟩, rfl, rfl⟩
              case measure => simp [intOf]; omega
          · have hA' : decide (4294967296 ≤ q) = false := by simp; omega
            have hp := kn_prod (unveil K2) (q := q) (by omega) (by omega)
            obtain ⟨p1, p2⟩ := hp
            by_cases hB : 4294967296 * r + d0 < q * y0
            · have hq1 : Q0 + 1 ≤ q := kn_lt (unveil K2) (unveil E1) (unveil G) hB
              by_cases hb : 4294967296 ≤ r + y1
              · have he : q - 1 = Q0 := by
                  have h1 := kn_le (unveil K2) (unveil E2) (unveil G') (kn_break (unveil K2) (by omega) (by omega) hb)
                  omega
                clear G G'
                go_wp2_with fail
                go_ret2
                exact ⟨rfl, rfl⟩
              · have hb' : decide (4294967296 ≤ r + y1) = false := by simp; omega
                go_wp2_with fail
                go_round
                case rel => exact ⟨q - 1, r + y1, ⟨unveil G', by omega, by omega, by omega, by omega⟩, rfl, rfl⟩
                case measure => simp [intOf]; omega
            · have hB' : decide (4294967296 * r + d0 < q * y0) = false := by simp; omega
              have he : Q0 = q := by
                have h1 := kn_le (unveil K2) (unveil E2) (unveil G) (by omega)
                omega
              clear G G'
              subst he
              go_wp2_with fail
              go_ret2
              exact ⟨rfl, rfl⟩
      · have hb' : decide (4294967296 ≤ r + y1) = false := by simp; omega
        go_wp2_with fail
        go_round
        case rel => exact ⟨q - 1, r + y1, ⟨unveil G', by omega, by omega, by omega, by omega⟩, rfl, rfl⟩
        case measure => simp [intOf]; omega
    · have hA' : decide (4294967296 ≤ q) = false := by simp; omega
      have hp := kn_prod (unveil K1) (q := q) (by omega) (by omega)
      obtain ⟨p1, p2⟩ := hp
      by_cases hB : 4294967296 * r + d1 < q * y0
      · have hq1 : Q1 + 1 ≤ q := kn_lt (unveil K1) (unveil D1) (unveil G) hB
        by_cases hb : 4294967296 ≤ r + y1
        · have he : q - 1 = Q1 := by
            have h1 := kn_le (unveil K1) (unveil D2) (unveil G') (kn_break (unveil K1) (by omega) (by omega) hb)
            omega
          clear G G'
          go_wp2_with fail
          go_loop [16, 18] (fun b a => ∃ q r : Int, Guess y1 R Q0 q r ∧ a = .int .u64 q ∧ b = .int .u64 r) (fun b a => (intOf a).toNat)
          case atStart => exact ⟨qb, R - qb * y1, unveil A2, by first | rfl | rw [eqb], by first | rfl | rw [eqb]⟩
          case round =>
            obtain ⟨q, r, ⟨g1, g2, g3, g4, g5⟩, rfl, rfl⟩ := hrel
            have G := veil g1
            have G' := veil (kn_next g1)
            clear g1
            by_cases hA : 4294967296 ≤ q
            · by_cases hb : 4294967296 ≤ r + y1
              · have he : q - 1 = Q0 := by
                  have h1 := kn_le (unveil K2) (unveil E2) (unveil G') (kn_break (unveil K2) (by omega) (by omega) hb)
                  omega
                clear G G'
                go_wp2_with fail
                go_ret2
                exact ⟨rfl, rfl⟩
              · have hb' : decide (4294967296 ≤ r + y1) = false := by simp; omega
                go_wp2_with fail
                go_round
                case rel => exact ⟨q - 1, r + y1, ⟨unveil G', by omega, by omega, by omega, by omega⟩, rfl, rfl⟩
                case measure => simp [intOf]; omega
            · have hA' : decide (4294967296 ≤ q) = false := by simp; omega
              have hp := kn_prod (unveil K2) (q := q) (by omega) (by omega)
              obtain ⟨p1, p2⟩ := hp
              by_cases hB : 4294967296 * r + d0 < q * y0
              · have hq1 : Q0 + 1 ≤ q := kn_lt (unveil K2) (unveil E1) (unveil G) hB
                by_cases hb : 4294967296 ≤ r + y1
                · have he : q - 1 = Q0 := by
                    have h1 := kn_le (unveil K2) (unveil E2) (unveil G') (kn_break (unveil K2) (by omega) (by omega) hb)
                    omega
                  clear G G'
                  go_wp2_with fail
                  go_ret2
                  exact ⟨rfl, rfl⟩
                · have hb' : decide (4294967296 ≤ r + y1) = false := by simp; omega
                  go_wp2_with fail
                  go_round
                  case rel => exact ⟨q - 1, r + y1, ⟨unveil G', by omega, by omega, by omega, by omega⟩, rfl, rfl⟩
                  case measure => simp [intOf]; omega
              · have hB' : decide (4294967296 * r + d0 < q * y0) = false := by simp; omega
                have he : Q0 = q := by
                  have h1 := kn_le (unveil K2) (unveil E2) (unveil G) (by omega)
                  omega
                clear G G'
                subst he
                go_wp2_with fail
                go_ret2
                exact ⟨rfl, rfl⟩
        · have hb' : decide (4294967296 ≤ r + y1) = false := by simp; omega
          go_wp2_with fail
          go_round
          case rel => exact ⟨q - 1, r + y1, ⟨unveil G', by omega, by omega, by omega, by omega⟩, rfl, rfl⟩
          case measure => simp [intOf]; omega
      · have hB' : decide (4294967296 * r + d1 < q * y0) = false := by simp; omega
        have he : Q1 = q := by
          have h1 := kn_le (unveil K1) (unveil D2) (unveil G) (by omega)
          omega
        clear G G'
        subst he
        go_wp2_with fail
        go_loop [16, 18] (fun b a => ∃ q r : Int, Guess y1 R Q0 q r ∧ a = .int .u64 q ∧ b = .int .u64 r) (fun b a => (intOf a).toNat)
        case atStart => exact ⟨qb, R - qb * y1, unveil A2, by first | rfl | rw [eqb], by first | rfl | rw [eqb]⟩
        case round =>
          obtain ⟨q, r, ⟨g1, g2, g3, g4, g5⟩, rfl, rfl⟩ := hrel
          have G := veil g1
          have G' := veil (kn_next g1)
          clear g1
          by_cases hA : 4294967296 ≤ q
          · by_cases hb : 4294967296 ≤ r + y1
            · have he : q - 1 = Q0 := by
                have h1 := kn_le (unveil K2) (unveil E2) (unveil G') (kn_break (unveil K2) (by omega) (by omega) hb)
                omega
              clear G G'
              go_wp2_with fail
              go_ret2
              exact ⟨rfl, rfl⟩
            · have hb' : decide (4294967296 ≤ r + y1) = false := by simp; omega
              go_wp2_with fail
              go_round
              case rel => exact ⟨q - 1, r + y1, ⟨unveil G', by omega, by omega, by omega, by omega⟩, rfl, rfl⟩
              case measure => simp [intOf]; omega
          · have hA' : decide (4294967296 ≤ q) = false := by simp; omega
            have hp := kn_prod (unveil K2) (q := q) (by omega) (by omega)
            obtain ⟨p1, p2⟩ := hp
            by_cases hB : 4294967296 * r + d0 < q * y0
            · have hq1 : Q0 + 1 ≤ q := kn_lt (unveil K2) (unveil E1) (unveil G) hB
              by_cases hb : 4294967296 ≤ r + y1
              · have he : q - 1 = Q0 := by
                  have h1 := kn_le (unveil K2) (unveil E2) (unveil G') (kn_break (unveil K2) (by omega) (by omega) hb)
                  omega
                clear G G'
                go_wp2_with fail
                go_ret2
                exact ⟨rfl, rfl⟩
              · have hb' : decide (4294967296 ≤ r + y1) = false := by simp; omega
                go_wp2_with fail
                go_round
                case rel => exact ⟨q - 1, r + y1, ⟨unveil G', by omega, by omega, by omega, by omega⟩, rfl, rfl⟩
                case measure => simp [intOf]; omega
            · have hB' : decide (4294967296 * r + d0 < q * y0) = false := by simp; omega
              have he : Q0 = q := by
                have h1 := kn_le (unveil K2) (unveil E2) (unveil G) (by omega)
                omega
              clear G G'
              subst he
              go_wp2_with fail
              go_ret2
              exact ⟨rfl, rfl⟩

/-- The quotient of two digits by one, and what is left. -/
def quo2 (hi lo y : Int) : Int := (hi * 18446744073709551616 + lo) / y
def rem2 (hi lo y : Int) : Int := (hi * 18446744073709551616 + lo) % y

theorem wrapR {u d m v : Int} (h : u * 4294967296 + d - m = v) (v0 : 0 ≤ v) (v1 : v < 18446744073709551616) :
    IntKind.u64.wrap (IntKind.u64.wrap (IntKind.u64.wrap (u * 4294967296) + d) - IntKind.u64.wrap m) = v := by
  rw [IntKind.wrap_u64, IntKind.wrap_u64, IntKind.wrap_u64, IntKind.wrap_u64]; omega
theorem mask_of (n : Int) (h0 : 0 ≤ n) (h1 : n < 18446744073709551616) : bits .and .u64 n 4294967295 = n % 4294967296 := by
  obtain ⟨n, rfl⟩ := Int.eq_ofNat_of_zero_le h0
  rw [mask32 n (by omega)]; omega
theorem or_of (k : Nat) (a b : Int) (a0 : 0 ≤ a) (b0 : 0 ≤ b) (h : a * 2 ^ k + b < 18446744073709551616) (hb : b < 2 ^ k) : bits .or .u64 (a * 2 ^ k) b = a * 2 ^ k + b := by
  obtain ⟨a, rfl⟩ := Int.eq_ofNat_of_zero_le a0
  obtain ⟨b, rfl⟩ := Int.eq_ofNat_of_zero_le b0
  have e : ((a : Int) * 2 ^ k) = ((a * 2 ^ k : Nat) : Int) := by simp
  have e2 : ((2 : Int) ^ k) = ((2 ^ k : Nat) : Int) := by simp
  rw [e2] at hb
  rw [e] at h ⊢
  rw [u64_or_nat _ _ (by omega) (by omega), nat_join k _ _ (Nat.mul_mod_left _ _) (by omega)]
  simp
theorem wrap_of {n : Int} (h0 : 0 ≤ n) (h1 : n < 18446744073709551616) : IntKind.u64.wrap n = n := by rw [IntKind.wrap_u64]; omega

theorem bitLenAux_bd : ∀ (f x : Nat), x < 2 ^ f → x ≠ 0 → 1 ≤ Lib.bitLenAux f x ∧ 2 ^ (Lib.bitLenAux f x - 1) ≤ x ∧ x < 2 ^ (Lib.bitLenAux f x)
  | 0, x, h, h0 => absurd (show x = 0 by simp at h; exact h) h0
  | f + 1, x, h, h0 => by
    rw [Lib.bitLenAux, if_neg h0]
    by_cases h2 : x / 2 = 0
    · have hx : x = 1 := by omega
      have e : Lib.bitLenAux f (x / 2) = 0 := by
        rw [h2]; cases f with
        | zero => rfl
        | succ f => simp [Lib.bitLenAux]
      rw [e, hx]; simp
    · have ih := bitLenAux_bd f (x / 2) (by rw [Nat.pow_succ] at h; omega) h2
      obtain ⟨i1, i2, i3⟩ := ih
      generalize Lib.bitLenAux f (x / 2) = L at *
      refine ⟨by omega, ?_, ?_⟩
      · have e : 1 + L - 1 = (L - 1) + 1 := by omega
        rw [e, Nat.pow_succ]; omega
      · have e : 1 + L = L + 1 := by omega
        rw [e, Nat.pow_succ]; omega
theorem bitLen_bd (x : Nat) (h : x < 18446744073709551616) (h0 : x ≠ 0) : 1 ≤ Lib.bitLen x ∧ Lib.bitLen x ≤ 64 ∧ 2 ^ (Lib.bitLen x - 1) ≤ x ∧ x < 2 ^ (Lib.bitLen x) := by
  obtain ⟨a, b, c⟩ := bitLenAux_bd 64 x h h0
  exact ⟨a, Lib.bitLen_le x 64 (Nat.le_refl _) h, b, c⟩

theorem div64_any (hi lo y : Int) (h0 : 0 ≤ hi) (h1 : hi < y) (l0 : 0 ≤ lo) (l1 : lo < 18446744073709551616) (z1 : y < 18446744073709551616) (w : World) :
    Calls Tryz.prog 140 #[.int .u64 hi, .int .u64 lo, .int .u64 y] w fun e w' => e = .returned (.tuple #[.int .u64 (quo2 hi lo y), .int .u64 (rem2 hi lo y)]) ∧ ∃ n, w' = w.drewN n := by
  by_cases hz : hi = 0
  · subst hz
    refine (div64_small lo y l0 l1 (by omega) z1 w).mono ?_
    rintro e w' ⟨rfl, hw⟩
    exact ⟨ret_ii (by unfold quo2; simp) (by unfold rem2; simp), hw⟩
  obtain ⟨y, rfl⟩ := Int.eq_ofNat_of_zero_le (show 0 ≤ y by omega)
  obtain ⟨m1, m2, m3, m4⟩ := bitLen_bd y (by omega) (by omega)
  have hl := fun w => Tryz.bits_LeadingZeros64 (y : Int) w (by omega) (by omega)
  rw [Int.toNat_natCast] at hl
  generalize Lib.bitLen y = k at *
  have es : ((64 : Int) - (k : Int)).toNat = 64 - k := by omega
  have et : ((64 : Int) - (64 - (k : Int))).toNat = k := by omega
  have hST : (2 : Int) ^ (64 - k) * 2 ^ k = 18446744073709551616 := by rw [Int.mul_comm]; exact pow_split k m2
  have hS := pow_pos2 (64 - k)
  have hT := pow_pos2 k
  have hy2 : (y : Int) * 2 ^ (64 - k) < 18446744073709551616 := by
    have a1 : (y : Int) < 2 ^ k := by
      have : ((y : Nat) : Int) < ((2 ^ k : Nat) : Int) := by omega
      simpa using this
    have a2 : (y : Int) * 2 ^ (64 - k) < 2 ^ k * 2 ^ (64 - k) := Int.mul_lt_mul_of_pos_right a1 hS
    rw [pow_split k m2] at a2
    exact a2
  have hy3 : 9223372036854775808 ≤ (y : Int) * 2 ^ (64 - k) := by
    have a1 : (2 : Int) ^ (k - 1) ≤ (y : Int) := by
      have : ((2 ^ (k - 1) : Nat) : Int) ≤ ((y : Nat) : Int) := by omega
      simpa using this
    have a2 : (2 : Int) ^ (k - 1) * 2 ^ (64 - k) ≤ (y : Int) * 2 ^ (64 - k) := Int.mul_le_mul_of_nonneg_right a1 (by omega)
    rw [← Int.pow_add, show k - 1 + (64 - k) = 63 by omega, show (2 : Int) ^ 63 = 9223372036854775808 by decide] at a2
    exact a2
  obtain ⟨u1, u2, u3, u4, u5, u6, u7, u8⟩ := kn_up hS hT hST h0 h1 l0 l1 hy2
  have eor := or_of (64 - k) hi (lo / 2 ^ k) h0 u3 (by omega) u4
  have esh := kn_shift (n := hi * 18446744073709551616 + lo) (y := (y : Int)) hS
  have K1 : Kn ((y : Int) * 2 ^ (64 - k)) ((y : Int) * 2 ^ (64 - k) / 4294967296) ((y : Int) * 2 ^ (64 - k) % 4294967296) (hi * 2 ^ (64 - k) + lo / 2 ^ k) (lo % 2 ^ k * 2 ^ (64 - k) / 4294967296) :=
    ⟨by omega, by omega, by omega, by omega, by omega, by omega, by omega, by omega, by omega⟩
  have w1 := wrap_of u1 (by omega)
  rw [← u8] at esh
  have wL : IntKind.u64.wrap (lo * 2 ^ (64 - k)) = lo % 2 ^ k * 2 ^ (64 - k) := by rw [IntKind.wrap_u64]; exact u5
  have wY : IntKind.u64.wrap ((y : Int) * 2 ^ (64 - k)) = (y : Int) * 2 ^ (64 - k) := wrap_of (by omega) hy2
  obtain ⟨p1, p2, p3, p4, p5, p6, p7⟩ := kn_digit K1
  have gA := kn_guess K1 p1
  have q1 := kn_whole (y := (y : Int) * 2 ^ (64 - k)) (u := hi * 2 ^ (64 - k) + lo / 2 ^ k) (d1 := lo % 2 ^ k * 2 ^ (64 - k) / 4294967296) (d0 := lo % 2 ^ k * 2 ^ (64 - k) % 4294967296) (by omega)
  rw [show lo % 2 ^ k * 2 ^ (64 - k) / 4294967296 * 4294967296 + lo % 2 ^ k * 2 ^ (64 - k) % 4294967296 = lo % 2 ^ k * 2 ^ (64 - k) by omega] at q1
  rw [← q1.1, ← q1.2] at esh
  have mY := mask_of ((y : Int) * 2 ^ (64 - k)) (by omega) hy2
  have mL := mask_of (lo % 2 ^ k * 2 ^ (64 - k)) u6 u7
  clear q1
  have R0 : 0 ≤ lo % 2 ^ k * 2 ^ (64 - k) % 4294967296 ∧ lo % 2 ^ k * 2 ^ (64 - k) % 4294967296 < 4294967296 := by omega
  have K2 : Kn ((y : Int) * 2 ^ (64 - k)) ((y : Int) * 2 ^ (64 - k) / 4294967296) ((y : Int) * 2 ^ (64 - k) % 4294967296) (((hi * 2 ^ (64 - k) + lo / 2 ^ k) * 4294967296 + lo % 2 ^ k * 2 ^ (64 - k) / 4294967296) % ((y : Int) * 2 ^ (64 - k))) (lo % 2 ^ k * 2 ^ (64 - k) % 4294967296) :=
    ⟨K1.hy, K1.a1, K1.a2, K1.b1, K1.b2, p6, p7, R0.1, R0.2⟩
  obtain ⟨r1, r2, r3, r4, r5, r6, r7⟩ := kn_digit K2
  have gB := kn_guess K2 r1
  have core := div64_core hi lo (y : Int) (64 - (k : Int)) _ _ _ _ _ _ _ _ _ _ _ _ _ (by omega) h1 l0 l1 z1 (by omega) (by omega) w (veil hl)
    (by rw [es]; exact wY) rfl mY (by rw [es, et, w1]; exact eor) (by rw [es]; exact wL) rfl mL
    rfl gA.2.2.1 gA.2.1 gA.2.2.2.2.1 gA.2.2.2.1
    (wrapR p5 p6 (by omega)) rfl gB.2.2.1 gB.2.1 gB.2.2.2.2.1 gB.2.2.2.1
    (wrapR r5 r6 (by omega)) (veil K1) (veil K2)
    (veil ⟨by omega, gA.2.2.2.2.2.2, gA.2.2.2.2.2.1, gA.1, gA.2.1⟩) (veil ⟨by omega, gB.2.2.2.2.2.2, gB.2.2.2.2.2.1, gB.1, gB.2.1⟩)
    (veil p1) (veil p2) (veil r1) (veil r2) K1.a1 K1.a2 K1.u1 (by omega) p6 (by omega) r6 (by omega) K1.d1 K1.d2 R0.1 R0.2 p3 p4 r3 r4
  refine core.mono ?_
  rintro e w' ⟨rfl, rfl⟩
  exact ⟨ret_ii (by unfold quo2; rw [← esh.1]) (by unfold rem2; rw [es, ← esh.2]), 0, rfl⟩

end Go.Proofs.YtpfjnnkjoabgbaaGreatDoor
