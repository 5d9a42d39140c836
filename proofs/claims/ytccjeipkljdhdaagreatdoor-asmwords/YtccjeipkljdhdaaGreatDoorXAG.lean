import Derived.Test.YtccjeipkljdhdaaGreatDoorRows
import Derived.WalkKit
import Derived.WalkSpells
import Derived.Below
import Derived.BigCall
import Derived.BigGuard
import Derived.Lib.ItoaMem
import Derived.Lib.AppendIntMem
import Derived.Test.YtccjeipkljdhdaaGreatDoorXAC
import Derived.Test.YtccjeipkljdhdaaGreatDoorXAF
import Derived.Deep.RegionHeld3
import Derived.Test.YtccjeipkljdhdaaGreatDoorXAD
import Derived.Test.YtccjeipkljdhdaaGreatDoorXAB
import Derived.Lib.ItoaLen
namespace Go.Proofs.YtccjeipkljdhdaaGreatDoor
open Go.RowKit
open Go.Sort
set_option linter.unusedVariables false

/-- The table of the powers of ten, as the row lists it. -/
def Pows (w : World) : Prop := Lib.TabIs Tryz.prog w "internal/strconv.uint64pow10" .u64 Lib.pow10Tab

theorem nDigits_le (u : Nat) (h1 : 1 ≤ u) (h2 : u < 18446744073709551616) : Lib.nDigits u ≤ 20 := by
  have := Lib.numDigits_eq u h1 h2
  split at this <;> omega

set_option maxHeartbeats 3200000 in
set_option maxRecDepth 100000 in
theorem fmtUint_inner (u : Nat) (hu : u < 18446744073709551616) (w : World) (ht : Pows w) :
    Calls Tryz.prog 136 #[.int .u64 u, .int .i64 10] w fun e w' => e = .returned (.string ⟨(Lib.decDigits u).toArray⟩) ∧ Below w.heap.size w w' := by
  by_cases hs : u < 100
  · have hw : IntKind.i64.wrap (u : Int) = (u : Int) := by simp [IntKind.wrap, IntKind.bits, IntKind.signed]; omega
    go_enter Tryz.func136, Tryz.ntmps136
    go_wp2_with (go_at_call 145; refine (Tryz.internal_strconv_small u hs _).mono ?_; rintro e w' ⟨rfl, rfl⟩)
    go_ret
    exact ⟨rfl, Below.refl _ _⟩
  · have hu1 : 1 ≤ u := by omega
    have hn := nDigits_le u hu1 hu
    have hal : Tryz.prog.arrayLen 182 = 24 := by kernel_rfl
    have hsl : ∀ W, (Instr.sliceAt 182 (.pointer (some ⟨w.heap.size, 0, none⟩)) none (some (.int .i64 (Lib.nDigits u : Int))) none).run Tryz.prog W = .ok (.slice (some ⟨w.heap.size, 0, none⟩) (Lib.nDigits u) 24) W := fun W => by
      rw [run_sliceAt_array_h W 182 ⟨w.heap.size, 0, none⟩ (by kernel_rfl) .i64 (Lib.nDigits u : Int) (by omega) (by rw [hal]; omega)]
      go_simp
    have z0 := Lib.holds_zero0 w 182 (Lib.nDigits u) (by omega)
    have hf := Tryz.internal_strconv_formatBase10 w.heap.size 0 24 u (Array.replicate (Lib.nDigits u) 0) (w.alloc (.cells Lib.zeros24 182)) z0 (by rw [Array.size_replicate]; exact Lib.lt_pow_nDigits u) hu (by rw [Array.size_replicate]; omega)
    rw [Array.size_replicate] at hf
    have Z0 := Lib.hid z0
    clear z0 hal
    go_enter Tryz.func136, Tryz.ntmps136
    go_wp2_with (go_at_call 146; refine (Tryz.internal_strconv_numDigits u hu1 hu _ (Lib.tabIs_alloc ht _)).mono ?_; rintro e w' ⟨rfl, rfl⟩)
    refine hf.mono ?_
    rintro e w' ⟨rfl, k, v', dk, rfl, hF⟩
    have hcv : (convert 78 9 (.slice (some ⟨w.heap.size, 0, none⟩) (Lib.nDigits u) 24)).run Tryz.prog ((putRow (fun (b : UInt8) => Value.int .u8 (b.toNat : Int)) (w.alloc (.cells Lib.zeros24 182)) w.heap.size 0 dk).drewN k) = .ok (.string ⟨(Lib.decDigits u).toArray⟩) ((putRow (fun (b : UInt8) => Value.int .u8 (b.toNat : Int)) (w.alloc (.cells Lib.zeros24 182)) w.heap.size 0 dk).drewN k) := by
      have h := run_convert_bytes_back (P := Tryz.prog) ((putRow (fun (b : UInt8) => Value.int .u8 (b.toNat : Int)) (w.alloc (.cells Lib.zeros24 182)) w.heap.size 0 dk).drewN k) 78 9 5 ⟨w.heap.size, 0, none⟩ 24 (Lib.decDigits u) (by kernel_rfl) (by kernel_rfl) (by kernel_rfl) (fun j hj => by
        rw [Lib.row_is_numeral hF j hj, Lib.add_plain, World.cell?_drewN]
        exact cell?_putRow (fun (b : UInt8) => Value.int .u8 (b.toNat : Int)) _ w.heap.size 0 _ dk Z0.out (by rw [hF.size, Array.size_replicate]) j (by rw [hF.size]; rw [Lib.decDigits_length] at hj; exact hj))
      rw [Lib.decDigits_length] at h
      exact h
    go_wp2
    go_ret
    obtain ⟨os, eo⟩ := Lib.fin_at w (.cells Lib.zeros24 182) dk k 0
    refine ⟨rfl, ?_⟩
    rw [eo]
    exact Lib.below_grow _ w (Nat.le_refl _) k os

theorem fmtUint (u : Nat) (hu : u < 18446744073709551616) (w : World) (ht : Pows w) :
    Calls Tryz.prog 124 #[.int .u64 u, .int .i64 10] w fun e w' => e = .returned (.string ⟨(Lib.decDigits u).toArray⟩) ∧ Below w.heap.size w w' := by
  go_enter Tryz.func124, Tryz.ntmps124
  go_wp2_with (go_at_call 136; refine (fmtUint_inner u hu _ ht).mono ?_; rintro e w' ⟨rfl, hb⟩)
  go_ret
  exact ⟨rfl, hb⟩

end Go.Proofs.YtccjeipkljdhdaaGreatDoor

namespace Go.Proofs.YtccjeipkljdhdaaGreatDoor
open Go.RowKit
set_option linter.unusedVariables false

/-- At least one digit ahead of the decimals. -/
def padTo (p : Nat) (ds : List UInt8) : List UInt8 := List.replicate (p + 1 - ds.length) 48 ++ ds
/-- The full stop ahead of the last p digits. -/
def pointed (p : Nat) (ls : List UInt8) : List UInt8 := if p = 0 then ls else ls.take (ls.length - p) ++ 46 :: ls.drop (ls.length - p)
/-- The text of a number with the digits ds. -/
def decS (neg : Bool) (p : Nat) (ds : List UInt8) : List UInt8 := if neg then 45 :: pointed p (padTo p ds) else pointed p (padTo p ds)

theorem ba_append (a b : List UInt8) : (⟨a.toArray⟩ : ByteArray) ++ ⟨b.toArray⟩ = ⟨(a ++ b).toArray⟩ := by
  apply ByteArray.ext
  rw [ByteArray.data_append]
  simp
theorem ba_take (l : List UInt8) (k : Nat) (hk : k ≤ l.length) : (⟨l.toArray⟩ : ByteArray).extract 0 k = ⟨(l.take k).toArray⟩ := by
  apply ByteArray.ext
  rw [ByteArray.data_extract]
  simp
theorem ba_drop (l : List UInt8) (k n : Nat) (hn : n = l.length) : (⟨l.toArray⟩ : ByteArray).extract k n = ⟨(l.drop k).toArray⟩ := by
  subst hn
  apply ByteArray.ext
  rw [ByteArray.data_extract]
  simp
  exact List.take_of_length_le (by simp)
theorem cutH (l : List UInt8) (k : Int) (h0 : 0 ≤ k) (hk : k ≤ l.length) (W : World) : (Instr.slice 9 (.string ⟨l.toArray⟩) none (some (.int .i64 k)) none).run Tryz.prog W = .ok (.string ⟨(l.take k.toNat).toArray⟩) W := by
  rw [run_slice_string_h W 9 _ (by kernel_rfl) .i64 k h0 (by simpa [ByteArray.size] using hk), ba_take _ _ (by omega)]
theorem cutL (l : List UInt8) (k : Int) (h0 : 0 ≤ k) (hk : k ≤ l.length) (W : World) : (Instr.slice 9 (.string ⟨l.toArray⟩) (some (.int .i64 k)) none none).run Tryz.prog W = .ok (.string ⟨(l.drop k.toNat).toArray⟩) W := by
  rw [run_slice_string_l W 9 _ (by kernel_rfl) .i64 k h0 (by simpa [ByteArray.size] using hk), ba_drop _ _ _ (by simp [ByteArray.size])]
theorem rep48 (c : Nat) (hc : c ≤ 100) (w : World) : Calls Tryz.prog 126 #[.string ⟨#[48]⟩, .int .i64 (c : Int)] w fun e w' => e = .returned (.string ⟨(List.replicate c (48 : UInt8)).toArray⟩) ∧ Below w.heap.size w w' := by
  refine (Tryz.strings_Repeat ⟨#[48]⟩ c w (by omega) (by simp [ByteArray.size]; omega)).mono ?_
  rintro e w' ⟨rfl, hb⟩
  refine ⟨?_, hb⟩
  have : ∀ c, Lib.repeatL [(48 : UInt8)] c = List.replicate c 48 := fun c => by
    induction c with
    | zero => rfl
    | succ c ih => rw [Lib.repeatL, ih]; rfl
  rw [show (⟨#[48]⟩ : ByteArray).data.toList = [48] from rfl, this]
theorem catS (a b : List UInt8) (h : a.length + b.length ≤ 1000) (W : World) : (Op.stringOp .add ⟨a.toArray⟩ ⟨b.toArray⟩).run Tryz.prog W = .ok (.string ⟨(a ++ b).toArray⟩) W := by
  rw [← ba_append]
  have h1 : ((⟨a.toArray⟩ : ByteArray).size : Int) ≤ 8388608 := by simp [ByteArray.size]; omega
  have h2 : ((⟨b.toArray⟩ : ByteArray).size : Int) ≤ 8388608 := by simp [ByteArray.size]; omega
  exact run_string_add W _ _ h1 h2
theorem below_nqD {B : Nat} {a w : World} (h : Below B a w) (n : Nat) : Below B a (w.drewN n) := ⟨h.os, h.tape, h.output, h.size, h.block⟩
theorem dd_len (u : Nat) (hu : u < 18446744073709551616) : (Lib.decDigits u).length ≤ 20 := by
  rw [Lib.decDigits_length]
  by_cases h1 : 1 ≤ u
  · exact nDigits_le u h1 hu
  · have : u = 0 := by omega
    subst this
    rw [Lib.nDigits_small (by omega)]
    omega


set_option maxHeartbeats 400000 in
set_option maxRecDepth 100000 in
theorem decimal_lzu (v : Int) (hv : inR v) (u : Nat) (hu : absI v = u) (p : Nat) (hp : p ≤ 18) (w : World) (ht : Pows w) (hs : ¬ (Lib.decDigits u).length < p + 1) (hp0 : p = 0) (hneg : ¬ v < 0) :
    Calls Tryz.prog 109 #[.int .i64 v, .int .i64 p] w fun e w' => e = .returned (.string ⟨(decS (decide (v < 0)) p (Lib.decDigits u)).toArray⟩) ∧ Below w.heap.size w w' := by
  have hb := absI_bd v hv
  have hu64 : u < 18446744073709551616 := by omega
  have SZ := veil (fun w => sizeOf_any v hv w)
  rw [hu] at SZ
  have FU := veil (fmtUint u hu64 w ht)
  have hl := dd_len u hu64
  generalize Lib.decDigits u = ds at FU hl hs ⊢
  clear hu hb hu64 ht
  have d1 : decide ((ds.length : Int) < (p : Int) + 1) = false := by simp; omega
  have d3 : decide (v < 0) = false := by simp; omega
  obtain ⟨ls, hls⟩ : ∃ ls, ds = ls := ⟨_, rfl⟩
  have hpad : padTo p ds = ls := by unfold padTo; rw [show p + 1 - ds.length = 0 by omega]; simpa using hls
  have hll : p + 1 ≤ ls.length := by rw [← hls]; omega
  have hl2 : ls.length ≤ 40 := by rw [← hls]; omega
  rw [show decS (decide (v < 0)) p ds = pointed p ls by unfold decS; rw [d3, hpad]; rfl]
  have hpt : pointed p ls = ls := by unfold pointed; rw [if_pos hp0]
  rw [hpt]
  subst hp0
  clear hpt hpad
  subst hls
  go_enter Tryz.func109, Tryz.ntmps109
  go_wp2_with (first | (go_at_call 125; refine (unveil SZ _).mono ?_; rintro e w' ⟨rfl, rfl⟩) | (go_at_call 124; refine (unveil FU).mono ?_; rintro e w1 ⟨rfl, hb1⟩) | (go_at_call 126; refine (unveil RP _).mono ?_; rintro e w2 ⟨rfl, hb2⟩))
  go_ret
  exact ⟨rfl, hb1⟩

set_option maxHeartbeats 400000 in
set_option maxRecDepth 100000 in
theorem decimal_lzn (v : Int) (hv : inR v) (u : Nat) (hu : absI v = u) (p : Nat) (hp : p ≤ 18) (w : World) (ht : Pows w) (hs : ¬ (Lib.decDigits u).length < p + 1) (hp0 : p = 0) (hneg : v < 0) :
    Calls Tryz.prog 109 #[.int .i64 v, .int .i64 p] w fun e w' => e = .returned (.string ⟨(decS (decide (v < 0)) p (Lib.decDigits u)).toArray⟩) ∧ Below w.heap.size w w' := by
  have hb := absI_bd v hv
  have hu64 : u < 18446744073709551616 := by omega
  have SZ := veil (fun w => sizeOf_any v hv w)
  rw [hu] at SZ
  have FU := veil (fmtUint u hu64 w ht)
  have hl := dd_len u hu64
  generalize Lib.decDigits u = ds at FU hl hs ⊢
  clear hu hb hu64 ht
  have d1 : decide ((ds.length : Int) < (p : Int) + 1) = false := by simp; omega
  have d3 : decide (v < 0) = true := by simp; omega
  obtain ⟨ls, hls⟩ : ∃ ls, ds = ls := ⟨_, rfl⟩
  have hpad : padTo p ds = ls := by unfold padTo; rw [show p + 1 - ds.length = 0 by omega]; simpa using hls
  have hll : p + 1 ≤ ls.length := by rw [← hls]; omega
  have hl2 : ls.length ≤ 40 := by rw [← hls]; omega
  rw [show decS (decide (v < 0)) p ds = 45 :: pointed p ls by unfold decS; rw [d3, hpad]; rfl]
  have hpt : pointed p ls = ls := by unfold pointed; rw [if_pos hp0]
  rw [hpt]
  subst hp0
  have r3 := catS [45] ls (by simp; omega)
  rw [show [45] ++ ls = 45 :: ls from rfl] at r3
  generalize 45 :: ls = l4 at r3 ⊢
  clear hpt hpad
  subst hls
  go_enter Tryz.func109, Tryz.ntmps109
  go_wp2_with (first | (go_at_call 125; refine (unveil SZ _).mono ?_; rintro e w' ⟨rfl, rfl⟩) | (go_at_call 124; refine (unveil FU).mono ?_; rintro e w1 ⟨rfl, hb1⟩) | (go_at_call 126; refine (unveil RP _).mono ?_; rintro e w2 ⟨rfl, hb2⟩))
  go_ret
  exact ⟨rfl, hb1⟩

set_option maxHeartbeats 400000 in
set_option maxRecDepth 100000 in
theorem decimal_lpu (v : Int) (hv : inR v) (u : Nat) (hu : absI v = u) (p : Nat) (hp : p ≤ 18) (w : World) (ht : Pows w) (hs : ¬ (Lib.decDigits u).length < p + 1) (hp0 : 0 < p) (hneg : ¬ v < 0) :
    Calls Tryz.prog 109 #[.int .i64 v, .int .i64 p] w fun e w' => e = .returned (.string ⟨(decS (decide (v < 0)) p (Lib.decDigits u)).toArray⟩) ∧ Below w.heap.size w w' := by
  have hb := absI_bd v hv
  have hu64 : u < 18446744073709551616 := by omega
  have SZ := veil (fun w => sizeOf_any v hv w)
  rw [hu] at SZ
  have FU := veil (fmtUint u hu64 w ht)
  have hl := dd_len u hu64
  generalize Lib.decDigits u = ds at FU hl hs ⊢
  clear hu hb hu64 ht
  have d1 : decide ((ds.length : Int) < (p : Int) + 1) = false := by simp; omega
  have d3 : decide (v < 0) = false := by simp; omega
  have d2 : decide (0 < p) = true := by simp; omega
  obtain ⟨ls, hls⟩ : ∃ ls, ds = ls := ⟨_, rfl⟩
  have hpad : padTo p ds = ls := by unfold padTo; rw [show p + 1 - ds.length = 0 by omega]; simpa using hls
  have hll : p + 1 ≤ ls.length := by rw [← hls]; omega
  have hl2 : ls.length ≤ 40 := by rw [← hls]; omega
  rw [show decS (decide (v < 0)) p ds = pointed p ls by unfold decS; rw [d3, hpad]; rfl]
  have hpt : pointed p ls = ls.take ((ls.length : Int) - p).toNat ++ (46 :: ls.drop ((ls.length : Int) - p).toNat) := by unfold pointed; rw [if_neg (by omega), show ((ls.length : Int) - p).toNat = ls.length - p by omega]
  rw [hpt]
  have s1 := cutH ls ((ls.length : Int) - p) (by omega) (by omega)
  have s2 := cutL ls ((ls.length : Int) - p) (by omega) (by omega)
  have n1 : (ls.take ((ls.length : Int) - p).toNat).length ≤ 40 := by simp; omega
  have n2 : (ls.drop ((ls.length : Int) - p).toNat).length ≤ 40 := by simp; omega
  generalize ls.take ((ls.length : Int) - p).toNat = l1 at s1 hpt n1 ⊢
  generalize ls.drop ((ls.length : Int) - p).toNat = l2 at s2 hpt n2 ⊢
  have r1 := catS l1 [46] (by simp; omega)
  have r2 := catS (l1 ++ [46]) l2 (by simp; omega)
  have n3 : (l1 ++ [46] ++ l2).length ≤ 90 := by simp; omega
  rw [show l1 ++ 46 :: l2 = l1 ++ [46] ++ l2 by simp]
  generalize l1 ++ [46] = l12 at r1 r2 n3 ⊢
  generalize l12 ++ l2 = l3 at r2 n3 ⊢
  clear hpt hpad
  subst hls
  go_enter Tryz.func109, Tryz.ntmps109
  go_wp2_with (first | (go_at_call 125; refine (unveil SZ _).mono ?_; rintro e w' ⟨rfl, rfl⟩) | (go_at_call 124; refine (unveil FU).mono ?_; rintro e w1 ⟨rfl, hb1⟩) | (go_at_call 126; refine (unveil RP _).mono ?_; rintro e w2 ⟨rfl, hb2⟩))
  go_region_held3 (fun _ => True) (exact trivial) (fail)
  all_goals go_wp2_with fail
  go_ret
  exact ⟨rfl, below_nqD hb1 _⟩

set_option maxHeartbeats 400000 in
set_option maxRecDepth 100000 in
theorem decimal_lpn (v : Int) (hv : inR v) (u : Nat) (hu : absI v = u) (p : Nat) (hp : p ≤ 18) (w : World) (ht : Pows w) (hs : ¬ (Lib.decDigits u).length < p + 1) (hp0 : 0 < p) (hneg : v < 0) :
    Calls Tryz.prog 109 #[.int .i64 v, .int .i64 p] w fun e w' => e = .returned (.string ⟨(decS (decide (v < 0)) p (Lib.decDigits u)).toArray⟩) ∧ Below w.heap.size w w' := by
  have hb := absI_bd v hv
  have hu64 : u < 18446744073709551616 := by omega
  have SZ := veil (fun w => sizeOf_any v hv w)
  rw [hu] at SZ
  have FU := veil (fmtUint u hu64 w ht)
  have hl := dd_len u hu64
  generalize Lib.decDigits u = ds at FU hl hs ⊢
  clear hu hb hu64 ht
  have d1 : decide ((ds.length : Int) < (p : Int) + 1) = false := by simp; omega
  have d3 : decide (v < 0) = true := by simp; omega
  have d2 : decide (0 < p) = true := by simp; omega
  obtain ⟨ls, hls⟩ : ∃ ls, ds = ls := ⟨_, rfl⟩
  have hpad : padTo p ds = ls := by unfold padTo; rw [show p + 1 - ds.length = 0 by omega]; simpa using hls
  have hll : p + 1 ≤ ls.length := by rw [← hls]; omega
  have hl2 : ls.length ≤ 40 := by rw [← hls]; omega
  rw [show decS (decide (v < 0)) p ds = 45 :: pointed p ls by unfold decS; rw [d3, hpad]; rfl]
  have hpt : pointed p ls = ls.take ((ls.length : Int) - p).toNat ++ (46 :: ls.drop ((ls.length : Int) - p).toNat) := by unfold pointed; rw [if_neg (by omega), show ((ls.length : Int) - p).toNat = ls.length - p by omega]
  rw [hpt]
  have s1 := cutH ls ((ls.length : Int) - p) (by omega) (by omega)
  have s2 := cutL ls ((ls.length : Int) - p) (by omega) (by omega)
  have n1 : (ls.take ((ls.length : Int) - p).toNat).length ≤ 40 := by simp; omega
  have n2 : (ls.drop ((ls.length : Int) - p).toNat).length ≤ 40 := by simp; omega
  generalize ls.take ((ls.length : Int) - p).toNat = l1 at s1 hpt n1 ⊢
  generalize ls.drop ((ls.length : Int) - p).toNat = l2 at s2 hpt n2 ⊢
  have r1 := catS l1 [46] (by simp; omega)
  have r2 := catS (l1 ++ [46]) l2 (by simp; omega)
  have n3 : (l1 ++ [46] ++ l2).length ≤ 90 := by simp; omega
  rw [show l1 ++ 46 :: l2 = l1 ++ [46] ++ l2 by simp]
  generalize l1 ++ [46] = l12 at r1 r2 n3 ⊢
  generalize l12 ++ l2 = l3 at r2 n3 ⊢
  have r3 := catS [45] l3 (by simp; omega)
  rw [show [45] ++ l3 = 45 :: l3 from rfl] at r3
  generalize 45 :: l3 = l4 at r3 ⊢
  clear hpt hpad
  subst hls
  go_enter Tryz.func109, Tryz.ntmps109
  go_wp2_with (first | (go_at_call 125; refine (unveil SZ _).mono ?_; rintro e w' ⟨rfl, rfl⟩) | (go_at_call 124; refine (unveil FU).mono ?_; rintro e w1 ⟨rfl, hb1⟩) | (go_at_call 126; refine (unveil RP _).mono ?_; rintro e w2 ⟨rfl, hb2⟩))
  go_region_held3 (fun _ => True) (exact trivial) (fail)
  all_goals go_wp2_with fail
  go_ret
  exact ⟨rfl, below_nqD hb1 _⟩

set_option maxHeartbeats 400000 in
set_option maxRecDepth 100000 in
theorem decimal_spu (v : Int) (hv : inR v) (u : Nat) (hu : absI v = u) (p : Nat) (hp : p ≤ 18) (w : World) (ht : Pows w) (hs : (Lib.decDigits u).length < p + 1) (hp0 : 0 < p) (hneg : ¬ v < 0) :
    Calls Tryz.prog 109 #[.int .i64 v, .int .i64 p] w fun e w' => e = .returned (.string ⟨(decS (decide (v < 0)) p (Lib.decDigits u)).toArray⟩) ∧ Below w.heap.size w w' := by
  have hb := absI_bd v hv
  have hu64 : u < 18446744073709551616 := by omega
  have SZ := veil (fun w => sizeOf_any v hv w)
  rw [hu] at SZ
  have FU := veil (fmtUint u hu64 w ht)
  have hl := dd_len u hu64
  generalize Lib.decDigits u = ds at FU hl hs ⊢
  clear hu hb hu64 ht
  have d1 : decide ((ds.length : Int) < (p : Int) + 1) = true := by simp; omega
  have d3 : decide (v < 0) = false := by simp; omega
  have d2 : decide (0 < p) = true := by simp; omega
  obtain ⟨c, hc⟩ : ∃ c : Nat, p + 1 - ds.length = c := ⟨_, rfl⟩
  have hci : (p : Int) + 1 - ds.length = (c : Int) := by omega
  have hc0 : decide (0 < (c : Int)) = true := by simp; omega
  have hc1 : decide (0 < c) = true := by simp; omega
  have RP := veil (fun w => rep48 c (by omega) w)
  obtain ⟨zs, hzs⟩ : ∃ zs, List.replicate c (48 : UInt8) = zs := ⟨_, rfl⟩
  have hzl : zs.length = c := by rw [← hzs]; simp
  rw [hzs] at RP
  have hcat := catS zs ds (by omega)
  obtain ⟨ls, hls⟩ : ∃ ls, zs ++ ds = ls := ⟨_, rfl⟩
  have hll : p + 1 ≤ ls.length := by rw [← hls]; simp; omega
  have hl2 : ls.length ≤ 40 := by rw [← hls]; simp; omega
  rw [hls] at hcat
  have hpad : padTo p ds = ls := by unfold padTo; rw [hc, hzs, hls]
  rw [show decS (decide (v < 0)) p ds = pointed p ls by unfold decS; rw [d3, hpad]; rfl]
  have hpt : pointed p ls = ls.take ((ls.length : Int) - p).toNat ++ (46 :: ls.drop ((ls.length : Int) - p).toNat) := by unfold pointed; rw [if_neg (by omega), show ((ls.length : Int) - p).toNat = ls.length - p by omega]
  rw [hpt]
  have s1 := cutH ls ((ls.length : Int) - p) (by omega) (by omega)
  have s2 := cutL ls ((ls.length : Int) - p) (by omega) (by omega)
  have n1 : (ls.take ((ls.length : Int) - p).toNat).length ≤ 40 := by simp; omega
  have n2 : (ls.drop ((ls.length : Int) - p).toNat).length ≤ 40 := by simp; omega
  generalize ls.take ((ls.length : Int) - p).toNat = l1 at s1 hpt n1 ⊢
  generalize ls.drop ((ls.length : Int) - p).toNat = l2 at s2 hpt n2 ⊢
  have r1 := catS l1 [46] (by simp; omega)
  have r2 := catS (l1 ++ [46]) l2 (by simp; omega)
  have n3 : (l1 ++ [46] ++ l2).length ≤ 90 := by simp; omega
  rw [show l1 ++ 46 :: l2 = l1 ++ [46] ++ l2 by simp]
  generalize l1 ++ [46] = l12 at r1 r2 n3 ⊢
  generalize l12 ++ l2 = l3 at r2 n3 ⊢
  clear hpt hpad
  clear hls hzs hzl hc
  go_enter Tryz.func109, Tryz.ntmps109
  go_wp2_with (first | (go_at_call 125; refine (unveil SZ _).mono ?_; rintro e w' ⟨rfl, rfl⟩) | (go_at_call 124; refine (unveil FU).mono ?_; rintro e w1 ⟨rfl, hb1⟩) | (go_at_call 126; refine (unveil RP _).mono ?_; rintro e w2 ⟨rfl, hb2⟩))
  go_region_held3 (fun _ => True) (exact trivial) (fail)
  all_goals go_wp2_with fail
  go_ret
  exact ⟨rfl, below_nqD (hb1.trans (hb2.mono hb1.size)) _⟩

set_option maxHeartbeats 400000 in
set_option maxRecDepth 100000 in
theorem decimal_spn (v : Int) (hv : inR v) (u : Nat) (hu : absI v = u) (p : Nat) (hp : p ≤ 18) (w : World) (ht : Pows w) (hs : (Lib.decDigits u).length < p + 1) (hp0 : 0 < p) (hneg : v < 0) :
    Calls Tryz.prog 109 #[.int .i64 v, .int .i64 p] w fun e w' => e = .returned (.string ⟨(decS (decide (v < 0)) p (Lib.decDigits u)).toArray⟩) ∧ Below w.heap.size w w' := by
  have hb := absI_bd v hv
  have hu64 : u < 18446744073709551616 := by omega
  have SZ := veil (fun w => sizeOf_any v hv w)
  rw [hu] at SZ
  have FU := veil (fmtUint u hu64 w ht)
  have hl := dd_len u hu64
  generalize Lib.decDigits u = ds at FU hl hs ⊢
  clear hu hb hu64 ht
  have d1 : decide ((ds.length : Int) < (p : Int) + 1) = true := by simp; omega
  have d3 : decide (v < 0) = true := by simp; omega
  have d2 : decide (0 < p) = true := by simp; omega
  obtain ⟨c, hc⟩ : ∃ c : Nat, p + 1 - ds.length = c := ⟨_, rfl⟩
  have hci : (p : Int) + 1 - ds.length = (c : Int) := by omega
  have hc0 : decide (0 < (c : Int)) = true := by simp; omega
  have hc1 : decide (0 < c) = true := by simp; omega
  have RP := veil (fun w => rep48 c (by omega) w)
  obtain ⟨zs, hzs⟩ : ∃ zs, List.replicate c (48 : UInt8) = zs := ⟨_, rfl⟩
  have hzl : zs.length = c := by rw [← hzs]; simp
  rw [hzs] at RP
  have hcat := catS zs ds (by omega)
  obtain ⟨ls, hls⟩ : ∃ ls, zs ++ ds = ls := ⟨_, rfl⟩
  have hll : p + 1 ≤ ls.length := by rw [← hls]; simp; omega
  have hl2 : ls.length ≤ 40 := by rw [← hls]; simp; omega
  rw [hls] at hcat
  have hpad : padTo p ds = ls := by unfold padTo; rw [hc, hzs, hls]
  rw [show decS (decide (v < 0)) p ds = 45 :: pointed p ls by unfold decS; rw [d3, hpad]; rfl]
  have hpt : pointed p ls = ls.take ((ls.length : Int) - p).toNat ++ (46 :: ls.drop ((ls.length : Int) - p).toNat) := by unfold pointed; rw [if_neg (by omega), show ((ls.length : Int) - p).toNat = ls.length - p by omega]
  rw [hpt]
  have s1 := cutH ls ((ls.length : Int) - p) (by omega) (by omega)
  have s2 := cutL ls ((ls.length : Int) - p) (by omega) (by omega)
  have n1 : (ls.take ((ls.length : Int) - p).toNat).length ≤ 40 := by simp; omega
  have n2 : (ls.drop ((ls.length : Int) - p).toNat).length ≤ 40 := by simp; omega
  generalize ls.take ((ls.length : Int) - p).toNat = l1 at s1 hpt n1 ⊢
  generalize ls.drop ((ls.length : Int) - p).toNat = l2 at s2 hpt n2 ⊢
  have r1 := catS l1 [46] (by simp; omega)
  have r2 := catS (l1 ++ [46]) l2 (by simp; omega)
  have n3 : (l1 ++ [46] ++ l2).length ≤ 90 := by simp; omega
  rw [show l1 ++ 46 :: l2 = l1 ++ [46] ++ l2 by simp]
  generalize l1 ++ [46] = l12 at r1 r2 n3 ⊢
  generalize l12 ++ l2 = l3 at r2 n3 ⊢
  have r3 := catS [45] l3 (by simp; omega)
  rw [show [45] ++ l3 = 45 :: l3 from rfl] at r3
  generalize 45 :: l3 = l4 at r3 ⊢
  clear hpt hpad
  clear hls hzs hzl hc
  go_enter Tryz.func109, Tryz.ntmps109
  go_wp2_with (first | (go_at_call 125; refine (unveil SZ _).mono ?_; rintro e w' ⟨rfl, rfl⟩) | (go_at_call 124; refine (unveil FU).mono ?_; rintro e w1 ⟨rfl, hb1⟩) | (go_at_call 126; refine (unveil RP _).mono ?_; rintro e w2 ⟨rfl, hb2⟩))
  go_region_held3 (fun _ => True) (exact trivial) (fail)
  all_goals go_wp2_with fail
  go_ret
  exact ⟨rfl, below_nqD (hb1.trans (hb2.mono hb1.size)) _⟩

theorem decimal_any (v : Int) (hv : inR v) (u : Nat) (hu : absI v = u) (p : Nat) (hp : p ≤ 18) (w : World) (ht : Pows w) :
    Calls Tryz.prog 109 #[.int .i64 v, .int .i64 p] w fun e w' => e = .returned (.string ⟨(decS (decide (v < 0)) p (Lib.decDigits u)).toArray⟩) ∧ Below w.heap.size w w' := by
  by_cases hs : (Lib.decDigits u).length < p + 1
  · by_cases hp0 : p = 0
    · exfalso
      rw [Lib.decDigits_length] at hs
      have h1 : 1 ≤ Lib.nDigits u := by rw [Lib.nDigits]; split <;> omega
      omega
    · by_cases hn : v < 0
      · exact decimal_spn v hv u hu p hp w ht hs (by omega) hn
      · exact decimal_spu v hv u hu p hp w ht hs (by omega) hn
  · by_cases hp0 : p = 0
    · by_cases hn : v < 0
      · exact decimal_lzn v hv u hu p hp w ht hs hp0 hn
      · exact decimal_lzu v hv u hu p hp w ht hs hp0 hn
    · by_cases hn : v < 0
      · exact decimal_lpn v hv u hu p hp w ht hs (by omega) hn
      · exact decimal_lpu v hv u hu p hp w ht hs (by omega) hn

theorem fit_any (p : Int) (w : World) : Calls Tryz.prog 108 #[.int .i64 p] w fun e w' => e = .returned (.bool (decide (0 ≤ p ∧ p ≤ 18))) ∧ w = w' := by
  by_cases h : 0 ≤ p ∧ p ≤ 18
  · rw [decide_eq_true h]
    obtain ⟨h1, h2⟩ := h
    go_enter Tryz.func108, Tryz.ntmps108
    go_wp2
    go_ret
    simp
  · rw [decide_eq_false h]
    by_cases h1 : 0 ≤ p
    · have h2 : ¬ p ≤ 18 := fun h2 => h ⟨h1, h2⟩
      clear h
      go_enter Tryz.func108, Tryz.ntmps108
      go_wp2
      go_ret
      simp
    · clear h
      go_enter Tryz.func108, Tryz.ntmps108
      go_wp2
      go_ret
      simp

theorem text_in (v : Int) (hv : inR v) (u : Nat) (hu : absI v = u) (p : Nat) (hp : p ≤ 18) (w : World) (ht : Pows w) :
    Calls Tryz.prog 85 #[.int .i64 v, .int .i64 p] w fun e w' => e = .returned (.tuple #[.string ⟨(decS (decide (v < 0)) p (Lib.decDigits u)).toArray⟩, .int .i64 0]) ∧ Below w.heap.size w w' := by
  have D := veil (decimal_any v hv u hu p hp w ht)
  generalize decS (decide (v < 0)) p (Lib.decDigits u) = s at D ⊢
  have F := veil (fit_any (p : Int))
  rw [decide_eq_true (show (0 : Int) ≤ p ∧ (p : Int) ≤ 18 by omega)] at F
  clear ht hu
  go_enter Tryz.func85, Tryz.ntmps85
  go_wp2_with (first | (go_at_call 108; refine (unveil F _).mono ?_; rintro e w' ⟨rfl, rfl⟩) | (go_at_call 109; refine (unveil D).mono ?_; rintro e w1 ⟨rfl, hb1⟩))
  go_ret2
  exact ⟨rfl, hb1⟩

end Go.Proofs.YtccjeipkljdhdaaGreatDoor

namespace Go.Proofs.YtccjeipkljdhdaaGreatDoor
open Go.RowKit
set_option linter.unusedVariables false
set_option linter.unusedSimpArgs false

theorem Pows.later {w w' : World} (h : Pows w) (b : Below w.heap.size w w') : Pows w' := Lib.tabBelow_of_tabIs h w' b
theorem word_eq13 (v : Int) (u : Nat) (hu : absI v = u) : decS (decide (v < 0)) 0 (Lib.decDigits u) = Lib.itoa v := by
  have e : padTo 0 (Lib.decDigits u) = Lib.decDigits u := by
    unfold padTo
    have : 1 ≤ (Lib.decDigits u).length := by
      rw [Lib.decDigits_length]
      unfold Lib.nDigits
      split <;> omega
    rw [show 0 + 1 - (Lib.decDigits u).length = 0 by omega]; rfl
  unfold decS pointed
  simp only [e, if_true]
  unfold Lib.itoa
  by_cases h : v < 0
  · rw [decide_eq_true h, if_pos rfl, if_pos h, show v.natAbs = u by rw [absI_neg h] at hu; omega]
  · rw [decide_eq_false h, if_neg (by simp), if_neg h, show v.toNat = u by rw [absI_pos h] at hu; omega]
theorem numText13 (v : Int) (hv : i64 v) (w : World) (ht : Pows w) :
    Calls Tryz.prog 85 #[.int .i64 v, .int .i64 0] w fun e w' => e = .returned (.tuple #[.string (txA v), .int .i64 0]) ∧ Below w.heap.size w w' := by
  have hv' : inR v := wf_inR hv
  obtain ⟨u, hu⟩ : ∃ u : Nat, absI v = u := ⟨(absI v).toNat, by have := absI_bd v hv'; omega⟩
  have := text_in v hv' u hu 0 (by omega) w ht
  rw [word_eq13 v u hu] at this
  exact this
theorem valueText_any (v : Int) (hv : i64 v) (w : World) (ht : Pows w) :
    Calls Tryz.prog 53 #[.int .i64 v] w fun e w' => e = .returned (.string (txA v)) ∧ Below w.heap.size w w' := by
  have K := Lib.hid (numText13 v hv w ht)
  clear hv ht
  generalize txA v = s at *
  go_enter Tryz.func53, Tryz.ntmps53
  go_wp2_with (go_at_call 85; refine K.out.mono ?_; rintro e w1 ⟨rfl, h1⟩; have B1 := Lib.hid h1; clear h1)
  go_ret
  exact ⟨rfl, B1.out⟩
theorem atI_any {w : World} {a : Option Addr} {n c : Nat} {l : List Int} (h : NR w a n c l) (k : Nat) :
    Calls Tryz.prog 83 #[.slice a n c, .int .i64 (k : Int)] w fun e w' => e = .returned (.tuple #[.int .i64 (l.getD k 0), .bool (decide ((k : Int) < (l.length : Int)))]) ∧ w' = w := by
  obtain ⟨_, l1, b1, _, r1⟩ := h
  by_cases hlt : k < n
  · obtain ⟨x, o, rfl, hc⟩ : ∃ x o, a = some ⟨x, o, none⟩ ∧ w.cell? ⟨x, o + k, none⟩ = some (.int .i64 (l.getD k 0)) := by
      rcases r1 with q | ⟨b, o, e, h1, h2⟩
      · omega
      · exact ⟨b, o, e, by simpa using h2 k hlt 0 (by omega)⟩
    have q1 : decide ((k : Int) < (l.length : Int)) = true := decide_eq_true (by omega)
    have q2 : (k : Int) < (n : Int) := by omega
    have q3 : decide (n ≤ k) = false := decide_eq_false (by omega)
    have q4 : decide ((n : Int) ≤ (k : Int)) = false := decide_eq_false (by omega)
    rw [q1]
    generalize l.getD k 0 = v at *
    clear l1 b1 r1 q1
    go_enter Tryz.func83, Tryz.ntmps83
    go_wp2
    go_ret2
    exact ⟨rfl, rfl⟩
  · have q1 : decide ((k : Int) < (l.length : Int)) = false := decide_eq_false (by omega)
    have q2 : l.getD k 0 = 0 := by simp [List.getD, List.getElem?_eq_none (show l.length ≤ k by omega)]
    have q3 : decide (n ≤ k) = true := decide_eq_true (by omega)
    have q4 : decide ((n : Int) ≤ (k : Int)) = true := decide_eq_true (by omega)
    rw [q1, q2]
    clear l1 b1 r1 q1 q2
    go_enter Tryz.func83, Tryz.ntmps83
    go_wp2
    go_ret2
    exact ⟨rfl, rfl⟩
theorem atS_any {w : World} {a : Option Addr} {n c : Nat} {l : List ByteArray} (h : SR w a n c l) (k : Nat) :
    Calls Tryz.prog 84 #[.slice a n c, .int .i64 (k : Int)] w fun e w' => e = .returned (.tuple #[.string (l.getD k ⟨#[]⟩), .bool (decide ((k : Int) < (l.length : Int)))]) ∧ w' = w := by
  obtain ⟨_, l1, b1, _, r1⟩ := h
  by_cases hlt : k < n
  · have hk : k < l.length := by omega
    obtain ⟨x, o, rfl, hc⟩ : ∃ x o, a = some ⟨x, o, none⟩ ∧ w.cell? ⟨x, o + k, none⟩ = some (.string (l.getD k ⟨#[]⟩)) := by
      rcases r1 with q | ⟨b, o, e, h1, h2⟩
      · omega
      · refine ⟨b, o, e, ?_⟩
        have := h2 k hlt 0 (by omega)
        simp [List.getD, hk] at this
        simpa [List.getD, hk] using this
    have q1 : decide ((k : Int) < (l.length : Int)) = true := decide_eq_true (by omega)
    have q2 : (k : Int) < (n : Int) := by omega
    have q3 : decide (n ≤ k) = false := decide_eq_false (by omega)
    have q4 : decide ((n : Int) ≤ (k : Int)) = false := decide_eq_false (by omega)
    rw [q1]
    generalize l.getD k ⟨#[]⟩ = v at *
    clear l1 b1 r1 q1 hk
    go_enter Tryz.func84, Tryz.ntmps84
    go_wp2
    go_ret2
    exact ⟨rfl, rfl⟩
  · have q1 : decide ((k : Int) < (l.length : Int)) = false := decide_eq_false (by omega)
    have q2 : l.getD k ⟨#[]⟩ = ⟨#[]⟩ := by simp [List.getD, List.getElem?_eq_none (show l.length ≤ k by omega)]
    have q3 : decide (n ≤ k) = true := decide_eq_true (by omega)
    have q4 : decide ((n : Int) ≤ (k : Int)) = true := decide_eq_true (by omega)
    rw [q1, q2]
    clear l1 b1 r1 q1 q2
    go_enter Tryz.func84, Tryz.ntmps84
    go_wp2
    go_ret2
    exact ⟨rfl, rfl⟩
/-- The words of the roundings, where the program keeps them. -/
def Mds (w : World) : Prop := 4 < w.heap.size ∧ ∀ k, k < 5 → w.cell? ⟨4, k, none⟩ = some (.string (mdA k))
theorem Mds.later {w w' : World} (h : Mds w) (b : Below w.heap.size w w') : Mds w' := ⟨Nat.lt_of_lt_of_le h.1 b.size, fun k hk => (b.cell (p := ⟨4, k, none⟩) h.1).trans (h.2 k hk)⟩
end Go.Proofs.YtccjeipkljdhdaaGreatDoor
