import Derived.Test.YtajocakmmgpoaaaGreatDoorRows
import Derived.WalkKit
import Derived.WalkSpells
import Derived.Below
import Derived.BigCall
import Derived.BigGuard
import Derived.Lib.ItoaMem
import Derived.Lib.AppendIntMem
import Derived.Test.YtajocakmmgpoaaaGreatDoorXAD
import Derived.Test.YtajocakmmgpoaaaGreatDoorXAC
import Derived.Deep.RegionHeld3
import Derived.Test.YtajocakmmgpoaaaGreatDoorXAB
import Derived.Lib.AppendStr
import Derived.Lib.OthersKept
import Derived.Lib.ItoaLen
import Derived.Laws.IdiomStrings
import Derived.Laws.AppendOwn
import Derived.Laws.OwnMore
import Derived.Lib.SlBytesConst
import Derived.Lib.SmallJoins
namespace Go.Proofs.YtajocakmmgpoaaaGreatDoor
open Go.RowKit
open Go.Sort
set_option linter.unusedVariables false

/-- The table of the powers of ten, as the row lists it. -/
def Pows (w : World) : Prop := Lib.TabIs Tryz.prog w "internal/strconv.uint64pow10" .u64 Lib.pow10Tab

theorem nDigits_le (u : Nat) (h1 : 1 ≤ u) (h2 : u < 18446744073709551616) : Lib.nDigits u ≤ 20 := by
  have := Lib.numDigits_eq u h1 h2
  split at this <;> omega

set_option maxHeartbeats 3200000 in
set_option maxRecDepth 100000 in
theorem fmtUint_inner (u : Nat) (hu : u < 18446744073709551616) (w : World) (ht : Pows w) :
    Calls Tryz.prog 72 #[.int .u64 u, .int .i64 10] w fun e w' => e = .returned (.string ⟨(Lib.decDigits u).toArray⟩) ∧ Below w.heap.size w w' := by
  by_cases hs : u < 100
  · have hw : IntKind.i64.wrap (u : Int) = (u : Int) := by simp [IntKind.wrap, IntKind.bits, IntKind.signed]; omega
    go_enter Tryz.func72, Tryz.ntmps72
    go_wp2_with (go_at_call 57; refine (Tryz.internal_strconv_small u hs _).mono ?_; rintro e w' ⟨rfl, rfl⟩)
    go_ret
    exact ⟨rfl, Below.refl _ _⟩
  · have hu1 : 1 ≤ u := by omega
    have hn := nDigits_le u hu1 hu
    have hal : Tryz.prog.arrayLen 101 = 24 := by kernel_rfl
    have hsl : ∀ W, (Instr.sliceAt 101 (.pointer (some ⟨w.heap.size, 0, none⟩)) none (some (.int .i64 (Lib.nDigits u : Int))) none).run Tryz.prog W = .ok (.slice (some ⟨w.heap.size, 0, none⟩) (Lib.nDigits u) 24) W := fun W => by
      rw [run_sliceAt_array_h W 101 ⟨w.heap.size, 0, none⟩ (by kernel_rfl) .i64 (Lib.nDigits u : Int) (by omega) (by rw [hal]; omega)]
      go_simp
    have z0 := Lib.holds_zero0 w 101 (Lib.nDigits u) (by omega)
    have hf := Tryz.internal_strconv_formatBase10 w.heap.size 0 24 u (Array.replicate (Lib.nDigits u) 0) (w.alloc (.cells Lib.zeros24 101)) z0 (by rw [Array.size_replicate]; exact Lib.lt_pow_nDigits u) hu (by rw [Array.size_replicate]; omega)
    rw [Array.size_replicate] at hf
    have Z0 := Lib.hid z0
    clear z0 hal
    go_enter Tryz.func72, Tryz.ntmps72
    go_wp2_with (go_at_call 58; refine (Tryz.internal_strconv_numDigits u hu1 hu _ (Lib.tabIs_alloc ht _)).mono ?_; rintro e w' ⟨rfl, rfl⟩)
    refine hf.mono ?_
    rintro e w' ⟨rfl, k, v', dk, rfl, hF⟩
    have hcv : (convert 64 9 (.slice (some ⟨w.heap.size, 0, none⟩) (Lib.nDigits u) 24)).run Tryz.prog ((putRow (fun (b : UInt8) => Value.int .u8 (b.toNat : Int)) (w.alloc (.cells Lib.zeros24 101)) w.heap.size 0 dk).drewN k) = .ok (.string ⟨(Lib.decDigits u).toArray⟩) ((putRow (fun (b : UInt8) => Value.int .u8 (b.toNat : Int)) (w.alloc (.cells Lib.zeros24 101)) w.heap.size 0 dk).drewN k) := by
      have h := run_convert_bytes_back (P := Tryz.prog) ((putRow (fun (b : UInt8) => Value.int .u8 (b.toNat : Int)) (w.alloc (.cells Lib.zeros24 101)) w.heap.size 0 dk).drewN k) 64 9 5 ⟨w.heap.size, 0, none⟩ 24 (Lib.decDigits u) (by kernel_rfl) (by kernel_rfl) (by kernel_rfl) (fun j hj => by
        rw [Lib.row_is_numeral hF j hj, Lib.add_plain, World.cell?_drewN]
        exact cell?_putRow (fun (b : UInt8) => Value.int .u8 (b.toNat : Int)) _ w.heap.size 0 _ dk Z0.out (by rw [hF.size, Array.size_replicate]) j (by rw [hF.size]; rw [Lib.decDigits_length] at hj; exact hj))
      rw [Lib.decDigits_length] at h
      exact h
    go_wp2
    go_ret
    obtain ⟨os, eo⟩ := Lib.fin_at w (.cells Lib.zeros24 101) dk k 0
    refine ⟨rfl, ?_⟩
    rw [eo]
    exact Lib.below_grow _ w (Nat.le_refl _) k os

theorem fmtUint (u : Nat) (hu : u < 18446744073709551616) (w : World) (ht : Pows w) :
    Calls Tryz.prog 61 #[.int .u64 u, .int .i64 10] w fun e w' => e = .returned (.string ⟨(Lib.decDigits u).toArray⟩) ∧ Below w.heap.size w w' := by
  go_enter Tryz.func61, Tryz.ntmps61
  go_wp2_with (go_at_call 72; refine (fmtUint_inner u hu _ ht).mono ?_; rintro e w' ⟨rfl, hb⟩)
  go_ret
  exact ⟨rfl, hb⟩

end Go.Proofs.YtajocakmmgpoaaaGreatDoor

namespace Go.Proofs.YtajocakmmgpoaaaGreatDoor
open Go.RowKit
set_option linter.unusedVariables false

/-- At least one digit ahead of the decimals. -/
def padTo (p : Nat) (ds : List UInt8) : List UInt8 := List.replicate (p + 1 - ds.length) 48 ++ ds
/-- The full stop ahead of the last p digits. -/
def pointed (p : Nat) (ls : List UInt8) : List UInt8 := if p = 0 then ls else ls.take (ls.length - p) ++ 46 :: ls.drop (ls.length - p)
/-- The text of a number with the digits ds. -/
def decS (neg : Bool) (p : Nat) (ds : List UInt8) : List UInt8 := if neg then 45 :: pointed p (padTo p ds) else pointed p (padTo p ds)

theorem ba_append (a b : List UInt8) : (⟨a.toArray⟩ : ByteArray) ++ ⟨b.toArray⟩ = ⟨(a ++ b).toArray⟩ := by
  apply ByteArray.ext
  rw [ByteArray.data_append]
  simp
theorem ba_take (l : List UInt8) (k : Nat) (hk : k ≤ l.length) : (⟨l.toArray⟩ : ByteArray).extract 0 k = ⟨(l.take k).toArray⟩ := by
  apply ByteArray.ext
  rw [ByteArray.data_extract]
  simp
theorem ba_drop (l : List UInt8) (k n : Nat) (hn : n = l.length) : (⟨l.toArray⟩ : ByteArray).extract k n = ⟨(l.drop k).toArray⟩ := by
  subst hn
  apply ByteArray.ext
  rw [ByteArray.data_extract]
  simp
  exact List.take_of_length_le (by simp)
theorem cutH (l : List UInt8) (k : Int) (h0 : 0 ≤ k) (hk : k ≤ l.length) (W : World) : (Instr.slice 9 (.string ⟨l.toArray⟩) none (some (.int .i64 k)) none).run Tryz.prog W = .ok (.string ⟨(l.take k.toNat).toArray⟩) W := by
  rw [run_slice_string_h W 9 _ (by kernel_rfl) .i64 k h0 (by simpa [ByteArray.size] using hk), ba_take _ _ (by omega)]
theorem cutL (l : List UInt8) (k : Int) (h0 : 0 ≤ k) (hk : k ≤ l.length) (W : World) : (Instr.slice 9 (.string ⟨l.toArray⟩) (some (.int .i64 k)) none none).run Tryz.prog W = .ok (.string ⟨(l.drop k.toNat).toArray⟩) W := by
  rw [run_slice_string_l W 9 _ (by kernel_rfl) .i64 k h0 (by simpa [ByteArray.size] using hk), ba_drop _ _ _ (by simp [ByteArray.size])]
theorem rep48 (c : Nat) (hc : c ≤ 100) (w : World) : Calls Tryz.prog 63 #[.string ⟨#[48]⟩, .int .i64 (c : Int)] w fun e w' => e = .returned (.string ⟨(List.replicate c (48 : UInt8)).toArray⟩) ∧ Below w.heap.size w w' := by
  refine (Tryz.strings_Repeat ⟨#[48]⟩ c w (by omega) (by simp [ByteArray.size]; omega)).mono ?_
  rintro e w' ⟨rfl, hb⟩
  refine ⟨?_, hb⟩
  have : ∀ c, Lib.repeatL [(48 : UInt8)] c = List.replicate c 48 := fun c => by
    induction c with
    | zero => rfl
    | succ c ih => rw [Lib.repeatL, ih]; rfl
  rw [show (⟨#[48]⟩ : ByteArray).data.toList = [48] from rfl, this]
theorem catS (a b : List UInt8) (h : a.length + b.length ≤ 1000) (W : World) : (Op.stringOp .add ⟨a.toArray⟩ ⟨b.toArray⟩).run Tryz.prog W = .ok (.string ⟨(a ++ b).toArray⟩) W := by
  rw [← ba_append]
  have h1 : ((⟨a.toArray⟩ : ByteArray).size : Int) ≤ 8388608 := by simp [ByteArray.size]; omega
  have h2 : ((⟨b.toArray⟩ : ByteArray).size : Int) ≤ 8388608 := by simp [ByteArray.size]; omega
  exact run_string_add W _ _ h1 h2
theorem below_nqD {B : Nat} {a w : World} (h : Below B a w) (n : Nat) : Below B a (w.drewN n) := ⟨h.os, h.tape, h.output, h.size, h.block⟩
theorem dd_len (u : Nat) (hu : u < 18446744073709551616) : (Lib.decDigits u).length ≤ 20 := by
  rw [Lib.decDigits_length]
  by_cases h1 : 1 ≤ u
  · exact nDigits_le u h1 hu
  · have : u = 0 := by omega
    subst this
    rw [Lib.nDigits_small (by omega)]
    omega


set_option maxHeartbeats 400000 in
set_option maxRecDepth 100000 in
theorem decimal_lzu (v : Int) (hv : inR v) (u : Nat) (hu : absI v = u) (p : Nat) (hp : p ≤ 18) (w : World) (ht : Pows w) (hs : ¬ (Lib.decDigits u).length < p + 1) (hp0 : p = 0) (hneg : ¬ v < 0) :
    Calls Tryz.prog 53 #[.int .i64 v, .int .i64 p] w fun e w' => e = .returned (.string ⟨(decS (decide (v < 0)) p (Lib.decDigits u)).toArray⟩) ∧ Below w.heap.size w w' := by
  have hb := absI_bd v hv
  have hu64 : u < 18446744073709551616 := by omega
  have SZ := veil (fun w => sizeOf_any v hv w)
  rw [hu] at SZ
  have FU := veil (fmtUint u hu64 w ht)
  have hl := dd_len u hu64
  generalize Lib.decDigits u = ds at FU hl hs ⊢
  clear hu hb hu64 ht
  have d1 : decide ((ds.length : Int) < (p : Int) + 1) = false := by simp; omega
  have d3 : decide (v < 0) = false := by simp; omega
  obtain ⟨ls, hls⟩ : ∃ ls, ds = ls := ⟨_, rfl⟩
  have hpad : padTo p ds = ls := by unfold padTo; rw [show p + 1 - ds.length = 0 by omega]; simpa using hls
  have hll : p + 1 ≤ ls.length := by rw [← hls]; omega
  have hl2 : ls.length ≤ 40 := by rw [← hls]; omega
  rw [show decS (decide (v < 0)) p ds = pointed p ls by unfold decS; rw [d3, hpad]; rfl]
  have hpt : pointed p ls = ls := by unfold pointed; rw [if_pos hp0]
  rw [hpt]
  subst hp0
  clear hpt hpad
  subst hls
  go_enter Tryz.func53, Tryz.ntmps53
  go_wp2_with (first | (go_at_call 62; refine (unveil SZ _).mono ?_; rintro e w' ⟨rfl, rfl⟩) | (go_at_call 61; refine (unveil FU).mono ?_; rintro e w1 ⟨rfl, hb1⟩) | (go_at_call 63; refine (unveil RP _).mono ?_; rintro e w2 ⟨rfl, hb2⟩))
  go_ret
  exact ⟨rfl, hb1⟩

set_option maxHeartbeats 400000 in
set_option maxRecDepth 100000 in
theorem decimal_lzn (v : Int) (hv : inR v) (u : Nat) (hu : absI v = u) (p : Nat) (hp : p ≤ 18) (w : World) (ht : Pows w) (hs : ¬ (Lib.decDigits u).length < p + 1) (hp0 : p = 0) (hneg : v < 0) :
    Calls Tryz.prog 53 #[.int .i64 v, .int .i64 p] w fun e w' => e = .returned (.string ⟨(decS (decide (v < 0)) p (Lib.decDigits u)).toArray⟩) ∧ Below w.heap.size w w' := by
  have hb := absI_bd v hv
  have hu64 : u < 18446744073709551616 := by omega
  have SZ := veil (fun w => sizeOf_any v hv w)
  rw [hu] at SZ
  have FU := veil (fmtUint u hu64 w ht)
  have hl := dd_len u hu64
  generalize Lib.decDigits u = ds at FU hl hs ⊢
  clear hu hb hu64 ht
  have d1 : decide ((ds.length : Int) < (p : Int) + 1) = false := by simp; omega
  have d3 : decide (v < 0) = true := by simp; omega
  obtain ⟨ls, hls⟩ : ∃ ls, ds = ls := ⟨_, rfl⟩
  have hpad : padTo p ds = ls := by unfold padTo; rw [show p + 1 - ds.length = 0 by omega]; simpa using hls
  have hll : p + 1 ≤ ls.length := by rw [← hls]; omega
  have hl2 : ls.length ≤ 40 := by rw [← hls]; omega
  rw [show decS (decide (v < 0)) p ds = 45 :: pointed p ls by unfold decS; rw [d3, hpad]; rfl]
  have hpt : pointed p ls = ls := by unfold pointed; rw [if_pos hp0]
  rw [hpt]
  subst hp0
  have r3 := catS [45] ls (by simp; omega)
  rw [show [45] ++ ls = 45 :: ls from rfl] at r3
  generalize 45 :: ls = l4 at r3 ⊢
  clear hpt hpad
  subst hls
  go_enter Tryz.func53, Tryz.ntmps53
  go_wp2_with (first | (go_at_call 62; refine (unveil SZ _).mono ?_; rintro e w' ⟨rfl, rfl⟩) | (go_at_call 61; refine (unveil FU).mono ?_; rintro e w1 ⟨rfl, hb1⟩) | (go_at_call 63; refine (unveil RP _).mono ?_; rintro e w2 ⟨rfl, hb2⟩))
  go_ret
  exact ⟨rfl, hb1⟩

set_option maxHeartbeats 400000 in
set_option maxRecDepth 100000 in
theorem decimal_lpu (v : Int) (hv : inR v) (u : Nat) (hu : absI v = u) (p : Nat) (hp : p ≤ 18) (w : World) (ht : Pows w) (hs : ¬ (Lib.decDigits u).length < p + 1) (hp0 : 0 < p) (hneg : ¬ v < 0) :
    Calls Tryz.prog 53 #[.int .i64 v, .int .i64 p] w fun e w' => e = .returned (.string ⟨(decS (decide (v < 0)) p (Lib.decDigits u)).toArray⟩) ∧ Below w.heap.size w w' := by
  have hb := absI_bd v hv
  have hu64 : u < 18446744073709551616 := by omega
  have SZ := veil (fun w => sizeOf_any v hv w)
  rw [hu] at SZ
  have FU := veil (fmtUint u hu64 w ht)
  have hl := dd_len u hu64
  generalize Lib.decDigits u = ds at FU hl hs ⊢
  clear hu hb hu64 ht
  have d1 : decide ((ds.length : Int) < (p : Int) + 1) = false := by simp; omega
  have d3 : decide (v < 0) = false := by simp; omega
  have d2 : decide (0 < p) = true := by simp; omega
  obtain ⟨ls, hls⟩ : ∃ ls, ds = ls := ⟨_, rfl⟩
  have hpad : padTo p ds = ls := by unfold padTo; rw [show p + 1 - ds.length = 0 by omega]; simpa using hls
  have hll : p + 1 ≤ ls.length := by rw [← hls]; omega
  have hl2 : ls.length ≤ 40 := by rw [← hls]; omega
  rw [show decS (decide (v < 0)) p ds = pointed p ls by unfold decS; rw [d3, hpad]; rfl]
  have hpt : pointed p ls = ls.take ((ls.length : Int) - p).toNat ++ (46 :: ls.drop ((ls.length : Int) - p).toNat) := by unfold pointed; rw [if_neg (by omega), show ((ls.length : Int) - p).toNat = ls.length - p by omega]
  rw [hpt]
  have s1 := cutH ls ((ls.length : Int) - p) (by omega) (by omega)
  have s2 := cutL ls ((ls.length : Int) - p) (by omega) (by omega)
  have n1 : (ls.take ((ls.length : Int) - p).toNat).length ≤ 40 := by simp; omega
  have n2 : (ls.drop ((ls.length : Int) - p).toNat).length ≤ 40 := by simp; omega
  generalize ls.take ((ls.length : Int) - p).toNat = l1 at s1 hpt n1 ⊢
  generalize ls.drop ((ls.length : Int) - p).toNat = l2 at s2 hpt n2 ⊢
  have r1 := catS l1 [46] (by simp; omega)
  have r2 := catS (l1 ++ [46]) l2 (by simp; omega)
  have n3 : (l1 ++ [46] ++ l2).length ≤ 90 := by simp; omega
  rw [show l1 ++ 46 :: l2 = l1 ++ [46] ++ l2 by simp]
  generalize l1 ++ [46] = l12 at r1 r2 n3 ⊢
  generalize l12 ++ l2 = l3 at r2 n3 ⊢
  clear hpt hpad
  subst hls
  go_enter Tryz.func53, Tryz.ntmps53
  go_wp2_with (first | (go_at_call 62; refine (unveil SZ _).mono ?_; rintro e w' ⟨rfl, rfl⟩) | (go_at_call 61; refine (unveil FU).mono ?_; rintro e w1 ⟨rfl, hb1⟩) | (go_at_call 63; refine (unveil RP _).mono ?_; rintro e w2 ⟨rfl, hb2⟩))
  go_region_held3 (fun _ => True) (exact trivial) (fail)
  all_goals go_wp2_with fail
  go_ret
  exact ⟨rfl, below_nqD hb1 _⟩

set_option maxHeartbeats 400000 in
set_option maxRecDepth 100000 in
theorem decimal_lpn (v : Int) (hv : inR v) (u : Nat) (hu : absI v = u) (p : Nat) (hp : p ≤ 18) (w : World) (ht : Pows w) (hs : ¬ (Lib.decDigits u).length < p + 1) (hp0 : 0 < p) (hneg : v < 0) :
    Calls Tryz.prog 53 #[.int .i64 v, .int .i64 p] w fun e w' => e = .returned (.string ⟨(decS (decide (v < 0)) p (Lib.decDigits u)).toArray⟩) ∧ Below w.heap.size w w' := by
  have hb := absI_bd v hv
  have hu64 : u < 18446744073709551616 := by omega
  have SZ := veil (fun w => sizeOf_any v hv w)
  rw [hu] at SZ
  have FU := veil (fmtUint u hu64 w ht)
  have hl := dd_len u hu64
  generalize Lib.decDigits u = ds at FU hl hs ⊢
  clear hu hb hu64 ht
  have d1 : decide ((ds.length : Int) < (p : Int) + 1) = false := by simp; omega
  have d3 : decide (v < 0) = true := by simp; omega
  have d2 : decide (0 < p) = true := by simp; omega
  obtain ⟨ls, hls⟩ : ∃ ls, ds = ls := ⟨_, rfl⟩
  have hpad : padTo p ds = ls := by unfold padTo; rw [show p + 1 - ds.length = 0 by omega]; simpa using hls
  have hll : p + 1 ≤ ls.length := by rw [← hls]; omega
  have hl2 : ls.length ≤ 40 := by rw [← hls]; omega
  rw [show decS (decide (v < 0)) p ds = 45 :: pointed p ls by unfold decS; rw [d3, hpad]; rfl]
  have hpt : pointed p ls = ls.take ((ls.length : Int) - p).toNat ++ (46 :: ls.drop ((ls.length : Int) - p).toNat) := by unfold pointed; rw [if_neg (by omega), show ((ls.length : Int) - p).toNat = ls.length - p by omega]
  rw [hpt]
  have s1 := cutH ls ((ls.length : Int) - p) (by omega) (by omega)
  have s2 := cutL ls ((ls.length : Int) - p) (by omega) (by omega)
  have n1 : (ls.take ((ls.length : Int) - p).toNat).length ≤ 40 := by simp; omega
  have n2 : (ls.drop ((ls.length : Int) - p).toNat).length ≤ 40 := by simp; omega
  generalize ls.take ((ls.length : Int) - p).toNat = l1 at s1 hpt n1 ⊢
  generalize ls.drop ((ls.length : Int) - p).toNat = l2 at s2 hpt n2 ⊢
  have r1 := catS l1 [46] (by simp; omega)
  have r2 := catS (l1 ++ [46]) l2 (by simp; omega)
  have n3 : (l1 ++ [46] ++ l2).length ≤ 90 := by simp; omega
  rw [show l1 ++ 46 :: l2 = l1 ++ [46] ++ l2 by simp]
  generalize l1 ++ [46] = l12 at r1 r2 n3 ⊢
  generalize l12 ++ l2 = l3 at r2 n3 ⊢
  have r3 := catS [45] l3 (by simp; omega)
  rw [show [45] ++ l3 = 45 :: l3 from rfl] at r3
  generalize 45 :: l3 = l4 at r3 ⊢
  clear hpt hpad
  subst hls
  go_enter Tryz.func53, Tryz.ntmps53
  go_wp2_with (first | (go_at_call 62; refine (unveil SZ _).mono ?_; rintro e w' ⟨rfl, rfl⟩) | (go_at_call 61; refine (unveil FU).mono ?_; rintro e w1 ⟨rfl, hb1⟩) | (go_at_call 63; refine (unveil RP _).mono ?_; rintro e w2 ⟨rfl, hb2⟩))
  go_region_held3 (fun _ => True) (exact trivial) (fail)
  all_goals go_wp2_with fail
  go_ret
  exact ⟨rfl, below_nqD hb1 _⟩

set_option maxHeartbeats 400000 in
set_option maxRecDepth 100000 in
theorem decimal_spu (v : Int) (hv : inR v) (u : Nat) (hu : absI v = u) (p : Nat) (hp : p ≤ 18) (w : World) (ht : Pows w) (hs : (Lib.decDigits u).length < p + 1) (hp0 : 0 < p) (hneg : ¬ v < 0) :
    Calls Tryz.prog 53 #[.int .i64 v, .int .i64 p] w fun e w' => e = .returned (.string ⟨(decS (decide (v < 0)) p (Lib.decDigits u)).toArray⟩) ∧ Below w.heap.size w w' := by
  have hb := absI_bd v hv
  have hu64 : u < 18446744073709551616 := by omega
  have SZ := veil (fun w => sizeOf_any v hv w)
  rw [hu] at SZ
  have FU := veil (fmtUint u hu64 w ht)
  have hl := dd_len u hu64
  generalize Lib.decDigits u = ds at FU hl hs ⊢
  clear hu hb hu64 ht
  have d1 : decide ((ds.length : Int) < (p : Int) + 1) = true := by simp; omega
  have d3 : decide (v < 0) = false := by simp; omega
  have d2 : decide (0 < p) = true := by simp; omega
  obtain ⟨c, hc⟩ : ∃ c : Nat, p + 1 - ds.length = c := ⟨_, rfl⟩
  have hci : (p : Int) + 1 - ds.length = (c : Int) := by omega
  have hc0 : decide (0 < (c : Int)) = true := by simp; omega
  have hc1 : decide (0 < c) = true := by simp; omega
  have RP := veil (fun w => rep48 c (by omega) w)
  obtain ⟨zs, hzs⟩ : ∃ zs, List.replicate c (48 : UInt8) = zs := ⟨_, rfl⟩
  have hzl : zs.length = c := by rw [← hzs]; simp
  rw [hzs] at RP
  have hcat := catS zs ds (by omega)
  obtain ⟨ls, hls⟩ : ∃ ls, zs ++ ds = ls := ⟨_, rfl⟩
  have hll : p + 1 ≤ ls.length := by rw [← hls]; simp; omega
  have hl2 : ls.length ≤ 40 := by rw [← hls]; simp; omega
  rw [hls] at hcat
  have hpad : padTo p ds = ls := by unfold padTo; rw [hc, hzs, hls]
  rw [show decS (decide (v < 0)) p ds = pointed p ls by unfold decS; rw [d3, hpad]; rfl]
  have hpt : pointed p ls = ls.take ((ls.length : Int) - p).toNat ++ (46 :: ls.drop ((ls.length : Int) - p).toNat) := by unfold pointed; rw [if_neg (by omega), show ((ls.length : Int) - p).toNat = ls.length - p by omega]
  rw [hpt]
  have s1 := cutH ls ((ls.length : Int) - p) (by omega) (by omega)
  have s2 := cutL ls ((ls.length : Int) - p) (by omega) (by omega)
  have n1 : (ls.take ((ls.length : Int) - p).toNat).length ≤ 40 := by simp; omega
  have n2 : (ls.drop ((ls.length : Int) - p).toNat).length ≤ 40 := by simp; omega
  generalize ls.take ((ls.length : Int) - p).toNat = l1 at s1 hpt n1 ⊢
  generalize ls.drop ((ls.length : Int) - p).toNat = l2 at s2 hpt n2 ⊢
  have r1 := catS l1 [46] (by simp; omega)
  have r2 := catS (l1 ++ [46]) l2 (by simp; omega)
  have n3 : (l1 ++ [46] ++ l2).length ≤ 90 := by simp; omega
  rw [show l1 ++ 46 :: l2 = l1 ++ [46] ++ l2 by simp]
  generalize l1 ++ [46] = l12 at r1 r2 n3 ⊢
  generalize l12 ++ l2 = l3 at r2 n3 ⊢
  clear hpt hpad
  clear hls hzs hzl hc
  go_enter Tryz.func53, Tryz.ntmps53
  go_wp2_with (first | (go_at_call 62; refine (unveil SZ _).mono ?_; rintro e w' ⟨rfl, rfl⟩) | (go_at_call 61; refine (unveil FU).mono ?_; rintro e w1 ⟨rfl, hb1⟩) | (go_at_call 63; refine (unveil RP _).mono ?_; rintro e w2 ⟨rfl, hb2⟩))
  go_region_held3 (fun _ => True) (exact trivial) (fail)
  all_goals go_wp2_with fail
  go_ret
  exact ⟨rfl, below_nqD (hb1.trans (hb2.mono hb1.size)) _⟩

set_option maxHeartbeats 400000 in
set_option maxRecDepth 100000 in
theorem decimal_spn (v : Int) (hv : inR v) (u : Nat) (hu : absI v = u) (p : Nat) (hp : p ≤ 18) (w : World) (ht : Pows w) (hs : (Lib.decDigits u).length < p + 1) (hp0 : 0 < p) (hneg : v < 0) :
    Calls Tryz.prog 53 #[.int .i64 v, .int .i64 p] w fun e w' => e = .returned (.string ⟨(decS (decide (v < 0)) p (Lib.decDigits u)).toArray⟩) ∧ Below w.heap.size w w' := by
  have hb := absI_bd v hv
  have hu64 : u < 18446744073709551616 := by omega
  have SZ := veil (fun w => sizeOf_any v hv w)
  rw [hu] at SZ
  have FU := veil (fmtUint u hu64 w ht)
  have hl := dd_len u hu64
  generalize Lib.decDigits u = ds at FU hl hs ⊢
  clear hu hb hu64 ht
  have d1 : decide ((ds.length : Int) < (p : Int) + 1) = true := by simp; omega
  have d3 : decide (v < 0) = true := by simp; omega
  have d2 : decide (0 < p) = true := by simp; omega
  obtain ⟨c, hc⟩ : ∃ c : Nat, p + 1 - ds.length = c := ⟨_, rfl⟩
  have hci : (p : Int) + 1 - ds.length = (c : Int) := by omega
  have hc0 : decide (0 < (c : Int)) = true := by simp; omega
  have hc1 : decide (0 < c) = true := by simp; omega
  have RP := veil (fun w => rep48 c (by omega) w)
  obtain ⟨zs, hzs⟩ : ∃ zs, List.replicate c (48 : UInt8) = zs := ⟨_, rfl⟩
  have hzl : zs.length = c := by rw [← hzs]; simp
  rw [hzs] at RP
  have hcat := catS zs ds (by omega)
  obtain ⟨ls, hls⟩ : ∃ ls, zs ++ ds = ls := ⟨_, rfl⟩
  have hll : p + 1 ≤ ls.length := by rw [← hls]; simp; omega
  have hl2 : ls.length ≤ 40 := by rw [← hls]; simp; omega
  rw [hls] at hcat
  have hpad : padTo p ds = ls := by unfold padTo; rw [hc, hzs, hls]
  rw [show decS (decide (v < 0)) p ds = 45 :: pointed p ls by unfold decS; rw [d3, hpad]; rfl]
  have hpt : pointed p ls = ls.take ((ls.length : Int) - p).toNat ++ (46 :: ls.drop ((ls.length : Int) - p).toNat) := by unfold pointed; rw [if_neg (by omega), show ((ls.length : Int) - p).toNat = ls.length - p by omega]
  rw [hpt]
  have s1 := cutH ls ((ls.length : Int) - p) (by omega) (by omega)
  have s2 := cutL ls ((ls.length : Int) - p) (by omega) (by omega)
  have n1 : (ls.take ((ls.length : Int) - p).toNat).length ≤ 40 := by simp; omega
  have n2 : (ls.drop ((ls.length : Int) - p).toNat).length ≤ 40 := by simp; omega
  generalize ls.take ((ls.length : Int) - p).toNat = l1 at s1 hpt n1 ⊢
  generalize ls.drop ((ls.length : Int) - p).toNat = l2 at s2 hpt n2 ⊢
  have r1 := catS l1 [46] (by simp; omega)
  have r2 := catS (l1 ++ [46]) l2 (by simp; omega)
  have n3 : (l1 ++ [46] ++ l2).length ≤ 90 := by simp; omega
  rw [show l1 ++ 46 :: l2 = l1 ++ [46] ++ l2 by simp]
  generalize l1 ++ [46] = l12 at r1 r2 n3 ⊢
  generalize l12 ++ l2 = l3 at r2 n3 ⊢
  have r3 := catS [45] l3 (by simp; omega)
  rw [show [45] ++ l3 = 45 :: l3 from rfl] at r3
  generalize 45 :: l3 = l4 at r3 ⊢
  clear hpt hpad
  clear hls hzs hzl hc
  go_enter Tryz.func53, Tryz.ntmps53
  go_wp2_with (first | (go_at_call 62; refine (unveil SZ _).mono ?_; rintro e w' ⟨rfl, rfl⟩) | (go_at_call 61; refine (unveil FU).mono ?_; rintro e w1 ⟨rfl, hb1⟩) | (go_at_call 63; refine (unveil RP _).mono ?_; rintro e w2 ⟨rfl, hb2⟩))
  go_region_held3 (fun _ => True) (exact trivial) (fail)
  all_goals go_wp2_with fail
  go_ret
  exact ⟨rfl, below_nqD (hb1.trans (hb2.mono hb1.size)) _⟩

theorem decimal_any (v : Int) (hv : inR v) (u : Nat) (hu : absI v = u) (p : Nat) (hp : p ≤ 18) (w : World) (ht : Pows w) :
    Calls Tryz.prog 53 #[.int .i64 v, .int .i64 p] w fun e w' => e = .returned (.string ⟨(decS (decide (v < 0)) p (Lib.decDigits u)).toArray⟩) ∧ Below w.heap.size w w' := by
  by_cases hs : (Lib.decDigits u).length < p + 1
  · by_cases hp0 : p = 0
    · exfalso
      rw [Lib.decDigits_length] at hs
      have h1 : 1 ≤ Lib.nDigits u := by rw [Lib.nDigits]; split <;> omega
      omega
    · by_cases hn : v < 0
      · exact decimal_spn v hv u hu p hp w ht hs (by omega) hn
      · exact decimal_spu v hv u hu p hp w ht hs (by omega) hn
  · by_cases hp0 : p = 0
    · by_cases hn : v < 0
      · exact decimal_lzn v hv u hu p hp w ht hs hp0 hn
      · exact decimal_lzu v hv u hu p hp w ht hs hp0 hn
    · by_cases hn : v < 0
      · exact decimal_lpn v hv u hu p hp w ht hs (by omega) hn
      · exact decimal_lpu v hv u hu p hp w ht hs (by omega) hn

theorem fit_any (p : Int) (w : World) : Calls Tryz.prog 52 #[.int .i64 p] w fun e w' => e = .returned (.bool (decide (0 ≤ p ∧ p ≤ 18))) ∧ w = w' := by
  by_cases h : 0 ≤ p ∧ p ≤ 18
  · rw [decide_eq_true h]
    obtain ⟨h1, h2⟩ := h
    go_enter Tryz.func52, Tryz.ntmps52
    go_wp2
    go_ret
    simp
  · rw [decide_eq_false h]
    by_cases h1 : 0 ≤ p
    · have h2 : ¬ p ≤ 18 := fun h2 => h ⟨h1, h2⟩
      clear h
      go_enter Tryz.func52, Tryz.ntmps52
      go_wp2
      go_ret
      simp
    · clear h
      go_enter Tryz.func52, Tryz.ntmps52
      go_wp2
      go_ret
      simp

theorem text_in (v : Int) (hv : inR v) (u : Nat) (hu : absI v = u) (p : Nat) (hp : p ≤ 18) (w : World) (ht : Pows w) :
    Calls Tryz.prog 40 #[.int .i64 v, .int .i64 p] w fun e w' => e = .returned (.tuple #[.string ⟨(decS (decide (v < 0)) p (Lib.decDigits u)).toArray⟩, .int .i64 0]) ∧ Below w.heap.size w w' := by
  have D := veil (decimal_any v hv u hu p hp w ht)
  generalize decS (decide (v < 0)) p (Lib.decDigits u) = s at D ⊢
  have F := veil (fit_any (p : Int))
  rw [decide_eq_true (show (0 : Int) ≤ p ∧ (p : Int) ≤ 18 by omega)] at F
  clear ht hu
  go_enter Tryz.func40, Tryz.ntmps40
  go_wp2_with (first | (go_at_call 52; refine (unveil F _).mono ?_; rintro e w' ⟨rfl, rfl⟩) | (go_at_call 53; refine (unveil D).mono ?_; rintro e w1 ⟨rfl, hb1⟩))
  go_ret2
  exact ⟨rfl, hb1⟩

theorem text_out (v : Int) (p : Int) (hp : ¬ (0 ≤ p ∧ p ≤ 18)) (w : World) :
    Calls Tryz.prog 40 #[.int .i64 v, .int .i64 p] w fun e w' => e = .returned (.tuple #[.string ⟨#[]⟩, .int .i64 1]) ∧ w' = w := by
  have F := veil (fit_any p)
  rw [decide_eq_false hp] at F
  clear hp
  go_enter Tryz.func40, Tryz.ntmps40
  go_wp2_with (go_at_call 52; refine (unveil F _).mono ?_; rintro e w' ⟨rfl, rfl⟩)
  go_ret2
  exact ⟨rfl, rfl⟩

end Go.Proofs.YtajocakmmgpoaaaGreatDoor

namespace Go.Proofs.YtajocakmmgpoaaaGreatDoor
open Go.RowKit
set_option linter.unusedVariables false

/-- The text as it grows, digit by digit. -/
def refS (p : Nat) (ds : List Int) : Nat → List UInt8
  | 0 => []
  | k + 1 => UInt8.ofNat (48 + (ds.getD k 0).toNat) :: ((if k = p ∧ 0 < p then [46] else []) ++ refS p ds k)

/-- The number in its own block, and its digits. -/
structure TBx (w wr : World) (B : Nat) (neg : Bool) (o : Value) (ds : List Int) : Prop where
  bel : Below w.heap.size w wr
  low : w.heap.size ≤ B
  size : B < wr.heap.size
  c0 : wr.cell? ⟨B, 0, none⟩ = some (.bool neg)
  c1 : wr.cell? ⟨B, 1, none⟩ = some o
  dg : Dg wr o ds
theorem TBx.later {w wr wr' : World} {B : Nat} {neg : Bool} {o : Value} {ds : List Int} (h : TBx w wr B neg o ds) (hb : Below wr.heap.size wr wr') : TBx w wr' B neg o ds :=
  ⟨h.bel.trans (hb.mono h.bel.size), h.low, Nat.lt_of_lt_of_le h.size hb.size, by rw [← h.c0]; exact hb.cell h.size, by rw [← h.c1]; exact hb.cell h.size, h.dg.later hb⟩

theorem refS_len (p : Nat) (ds : List Int) (k : Nat) : (refS p ds k).length ≤ 2 * k := by
  induction k with
  | zero => simp [refS]
  | succ k ih => rw [refS]; split <;> simp <;> omega
theorem conv1 (wr : World) (dig : Int) (h : 0 ≤ dig ∧ dig ≤ 9) : (convert 64 9 (.slice (some ⟨wr.heap.size, 0, none⟩) 1 1)).run Tryz.prog (wr.alloc (.cells #[.int .u8 (48 + dig)] 5)) = .ok (.string ⟨[UInt8.ofNat (48 + dig.toNat)].toArray⟩) (wr.alloc (.cells #[.int .u8 (48 + dig)] 5)) := by
  refine run_convert_bytes_back (P := Tryz.prog) _ 64 9 5 ⟨wr.heap.size, 0, none⟩ 1 [UInt8.ofNat (48 + dig.toNat)] (by kernel_rfl) (by kernel_rfl) (by kernel_rfl) (fun j hj => ?_)
  have : j = 0 := by simpa using hj
  subst this
  rw [Lib.add_plain, World.cell?_alloc_new]
  obtain ⟨n, rfl⟩ : ∃ n : Nat, dig = n := ⟨dig.toNat, by omega⟩
  have hn : n ≤ 9 := by omega
  simp
  omega
end Go.Proofs.YtajocakmmgpoaaaGreatDoor

namespace Go.Proofs.YtajocakmmgpoaaaGreatDoor
open Go.RowKit
set_option linter.unusedVariables false

/-- The digit at place i of u. -/
def dgN (u i : Nat) : UInt8 := UInt8.ofNat (48 + u / 10 ^ i % 10)
/-- The k lowest digits of u, the highest first. -/
def digsN (u : Nat) : Nat → List UInt8
  | 0 => []
  | k + 1 => dgN u k :: digsN u k
theorem digsN_len (u k : Nat) : (digsN u k).length = k := by
  induction k with
  | zero => rfl
  | succ k ih => simp [digsN, ih]
theorem digsN_drop (u p q : Nat) : (digsN u (q + p)).drop q = digsN u p := by
  induction q with
  | zero => simp
  | succ q ih => rw [show q + 1 + p = (q + p) + 1 by omega, digsN, List.drop_succ_cons, ih]

theorem dval_pos {ds : List Int} (h : Digs ds) : 0 ≤ dval ds := by
  induction ds with
  | nil => simp [dval]
  | cons d r ih =>
    have h0 := h 0
    have := ih (fun i => by simpa using h (i + 1))
    simp at h0
    rw [dval]; omega
theorem dval_digit (ds : List Int) : ∀ (_ : Digs ds) (u : Nat) (_ : dval ds = u) (i : Nat), ds.getD i 0 = ((u / 10 ^ i % 10 : Nat) : Int) := by
  induction ds with
  | nil =>
    intro _ u hu i
    have : u = 0 := by simp [dval] at hu; omega
    subst this
    simp
  | cons d r ih =>
    intro h u hu i
    have h0 := h 0
    simp at h0
    have hr : Digs r := fun i => by simpa using h (i + 1)
    have hp := dval_pos hr
    obtain ⟨q, hq⟩ : ∃ q : Nat, dval r = q := ⟨(dval r).toNat, by omega⟩
    rw [dval, hq] at hu
    have huq : u / 10 = q := by omega
    cases i with
    | zero => simp; omega
    | succ i =>
      have := ih hr q hq i
      rw [Nat.pow_succ, Nat.mul_comm, ← Nat.div_div_eq_div_mul, huq]
      simpa using this
theorem refS_eq {ds : List Int} (h : Digs ds) {u : Nat} (hu : dval ds = u) (p k : Nat) : refS p ds k = if k ≤ p ∨ p = 0 then digsN u k else (digsN u k).take (k - p) ++ 46 :: digsN u p := by
  induction k with
  | zero => simp [refS, digsN]
  | succ k ih =>
    have hd : UInt8.ofNat (48 + (ds.getD k 0).toNat) = dgN u k := by rw [dval_digit ds h u hu k]; rfl
    rw [refS, ih, hd]
    by_cases h1 : k + 1 ≤ p ∨ p = 0
    · rw [if_pos h1, if_neg (show ¬ (k = p ∧ 0 < p) by omega), if_pos (show k ≤ p ∨ p = 0 by omega)]; rfl
    · rw [if_neg h1]
      by_cases h2 : k = p
      · subst h2
        rw [if_pos ⟨rfl, by omega⟩, if_pos (by omega), show k + 1 - k = 1 by omega]; rfl
      · rw [if_neg (by omega), if_neg (by omega), show k + 1 - p = (k - p) + 1 by omega, digsN, List.take_succ_cons]; rfl
theorem digsN_pad (u n c : Nat) (h : u < 10 ^ n) : digsN u (n + c) = List.replicate c 48 ++ digsN u n := by
  induction c with
  | zero => simp
  | succ c ih =>
    have : dgN u (n + c) = 48 := by
      unfold dgN
      rw [Nat.div_eq_of_lt (Nat.lt_of_lt_of_le h (Nat.pow_le_pow_right (by omega) (by omega)))]
      rfl
    rw [← Nat.add_assoc, digsN, this, ih, List.replicate_succ]; rfl
theorem dec_digsN (u : Nat) : Lib.decDigits u = digsN u (Lib.nDigits u) := by
  rw [Lib.decDigits_eq]
  generalize Lib.nDigits u = n
  induction n with
  | zero => rfl
  | succ n ih =>
    rw [List.range_succ_eq_map, List.map_cons, List.map_map, digsN, ← ih]
    congr 1
    refine List.map_congr_left fun t ht => ?_
    show Lib.dg u (n + 1 - 1 - (t + 1)) = Lib.dg u (n - 1 - t)
    rw [show n + 1 - 1 - (t + 1) = n - 1 - t by omega]
theorem pad_digsN (p u : Nat) : padTo p (Lib.decDigits u) = digsN u (max (Lib.nDigits u) (p + 1)) := by
  unfold padTo
  rw [Lib.decDigits_length, dec_digsN, ← digsN_pad u _ _ (Lib.lt_pow_nDigits u)]
  congr 1
  omega
theorem len_nDigits {ds : List Int} (h : Digs ds) (hn : Norm ds) {u : Nat} (hu : dval ds = u) (p : Nat) : max (Lib.nDigits u) (p + 1) = max ds.length (p + 1) := by
  by_cases h0 : ds.length = 0
  · have : ds = [] := List.eq_nil_of_length_eq_zero h0
    subst this
    have : u = 0 := by simp [dval] at hu; omega
    subst this
    rw [Lib.nDigits_small (by omega), h0]
    omega
  · have l1 := norm_le h hn (by omega)
    have l2 := (dval_bd ds h).2
    obtain ⟨n, hl⟩ : ∃ n, ds.length = n + 1 := ⟨ds.length - 1, by omega⟩
    rw [hl, show n + 1 - 1 = n by omega, hu] at l1
    rw [hl, hu] at l2
    unfold ten at l1 l2
    rw [Lib.nDigits_unique n u (by exact_mod_cast l1) (by exact_mod_cast l2), hl]
theorem texts_one {ds : List Int} (h : Digs ds) (hn : Norm ds) {u : Nat} (hu : dval ds = u) (neg : Bool) (p : Nat) :
    decS neg p (Lib.decDigits u) = if neg then 45 :: refS p ds (max ds.length (p + 1)) else refS p ds (max ds.length (p + 1)) := by
  have e : pointed p (padTo p (Lib.decDigits u)) = refS p ds (max ds.length (p + 1)) := by
    rw [pad_digsN, len_nDigits h hn hu p, refS_eq h hu]
    obtain ⟨q, hq⟩ : ∃ q, max ds.length (p + 1) = q + p := ⟨max ds.length (p + 1) - p, by omega⟩
    rw [hq]
    unfold pointed
    by_cases h0 : p = 0
    · rw [if_pos h0, if_pos (Or.inr h0)]
    · rw [if_neg h0, if_neg (by omega), digsN_len, show q + p - p = q by omega, digsN_drop]
  unfold decS
  rw [e]

end Go.Proofs.YtajocakmmgpoaaaGreatDoor

namespace Go.Proofs.YtajocakmmgpoaaaGreatDoor
open Go.RowKit
set_option linter.unusedVariables false
set_option linter.unusedSimpArgs false

theorem dec_ne (u : Nat) : 1 ≤ (Lib.decDigits u).length := by
  rw [Lib.decDigits_length]
  unfold Lib.nDigits
  split <;> omega
theorem word_eq (v : Int) (u : Nat) (hu : absI v = u) : decS (decide (v < 0)) 0 (Lib.decDigits u) = Lib.itoa v := by
  have e : pointed 0 (padTo 0 (Lib.decDigits u)) = Lib.decDigits u := by
    have := dec_ne u
    unfold pointed padTo
    rw [if_pos rfl, show 0 + 1 - (Lib.decDigits u).length = 0 by omega]; rfl
  unfold decS
  rw [e]
  unfold Lib.itoa
  by_cases h : v < 0
  · rw [decide_eq_true h, if_pos rfl, if_pos h, show v.natAbs = u by rw [absI_neg h] at hu; omega]
  · rw [decide_eq_false h, if_neg (by simp), if_neg h, show v.toNat = u by rw [absI_pos h] at hu; omega]
theorem numText0 (v : Int) (hv : inR v) (w : World) (ht : Pows w) :
    Calls Tryz.prog 40 #[.int .i64 v, .int .i64 0] w fun e w' => e = .returned (.tuple #[.string ⟨(Lib.itoa v).toArray⟩, .int .i64 0]) ∧ Below w.heap.size w w' := by
  obtain ⟨u, hu⟩ : ∃ u : Nat, absI v = u := ⟨(absI v).toNat, by have := absI_bd v hv; omega⟩
  have := text_in v hv u hu 0 (by omega) w ht
  rw [word_eq v u hu] at this
  exact this
/-- A cell's word. -/
def wordC (c : Cl) : List UInt8 := if c.h then Lib.itoa c.v else [45]
theorem wordC_len {c : Cl} (h : (Lit.int .i64 c.v).wf = true) : (wordC c).length ≤ 21 := by
  unfold wordC
  split
  · have d0 : -9223372036854775808 ≤ c.v ∧ c.v ≤ 9223372036854775807 := by simpa [Lit.wf, IntKind.min, IntKind.max, IntKind.bits, IntKind.signed] using h
    exact Lib.itoa_length_le c.v d0.1 d0.2
  · simp
theorem cellWord_any (h : Bool) (v : Int) (hv : inR v) (w : World) (ht : Lib.TabBelow Tryz.prog w.heap.size w "internal/strconv.uint64pow10" .u64 Lib.pow10Tab) :
    Calls Tryz.prog 29 #[.agg #[.bool h, .int .i64 v]] w fun e w' => e = .returned (.string ⟨(wordC ⟨h, v⟩).toArray⟩) ∧ Below w.heap.size w w' := by
  have B0 := Lib.hid ((Below.refl w.heap.size w).alloc (Nat.le_refl _) (.cells #[.bool h, .int .i64 v] 34))
  cases h with
  | false =>
    go_enter Tryz.func29, Tryz.ntmps29
    go_wp2
    go_ret
    exact ⟨rfl, B0.out⟩
  | true =>
    have K := Lib.hid (numText0 v hv _ (ht _ B0.out))
    have e : wordC ⟨true, v⟩ = Lib.itoa v := rfl
    rw [e]
    clear e ht
    generalize Lib.itoa v = s at *
    go_enter Tryz.func29, Tryz.ntmps29
    go_wp2_with (go_at_call 40; refine K.out.mono ?_; rintro e w1 ⟨rfl, h1⟩; have B1 := Lib.hid (B0.out.trans (h1.mono B0.out.size)); clear h1)
    go_ret
    exact ⟨rfl, B1.out⟩

/-- The text of a table. -/
def nameW (s : ByteArray) : List UInt8 := 32 :: s.data.toList
def cellW (c : Cl) : List UInt8 := 32 :: wordC c
def headT (ss : List ByteArray) (k : Nat) : List UInt8 := [100, 97, 121] ++ (ss.take k).flatMap nameW
def rowT (d : Nat) (cs : List Cl) (k : Nat) : List UInt8 := Lib.itoa (d : Int) ++ (cs.take k).flatMap cellW
def lineT (d : Nat) (cs : List Cl) : List UInt8 := rowT d cs cs.length ++ [10]
def rowsT (rs : List (List Cl)) (k : Nat) : List UInt8 := (List.range k).flatMap fun d => lineT d (rs.getD d [])
def textT (ss : List ByteArray) (rs : List (List Cl)) (k : Nat) : List UInt8 := headT ss ss.length ++ [10] ++ rowsT rs k
theorem flat_take {α : Type} [Inhabited α] (f : α → List UInt8) (l : List α) (k : Nat) (hk : k < l.length) : (l.take (k + 1)).flatMap f = (l.take k).flatMap f ++ f (l.getD k default) := by
  have e : l[k]? = some (l.getD k default) := by rw [List.getElem?_eq_getElem hk]; simp [List.getD, hk]
  rw [List.take_add_one, e]; simp
theorem headT_step {ss : List ByteArray} {k : Nat} (hk : k < ss.length) : headT ss (k + 1) = headT ss k ++ nameW (ss.getD k default) := by
  unfold headT; rw [flat_take _ _ _ hk, List.append_assoc]
theorem rowT_step {d : Nat} {cs : List Cl} {k : Nat} (hk : k < cs.length) : rowT d cs (k + 1) = rowT d cs k ++ cellW (cs.getD k default) := by
  unfold rowT; rw [flat_take _ _ _ hk, List.append_assoc]
theorem rowsT_step (rs : List (List Cl)) (k : Nat) : rowsT rs (k + 1) = rowsT rs k ++ lineT k (rs.getD k []) := by
  unfold rowsT; rw [List.range_succ]; simp
theorem textT_step (ss : List ByteArray) (rs : List (List Cl)) (k : Nat) : textT ss rs (k + 1) = textT ss rs k ++ lineT k (rs.getD k []) := by
  unfold textT; rw [rowsT_step, ← List.append_assoc]
theorem textT_mono (ss : List ByteArray) (rs : List (List Cl)) : ∀ (d k : Nat), (textT ss rs k).length ≤ (textT ss rs (k + d)).length
  | 0, k => Nat.le_refl _
  | d + 1, k => by
    have := textT_mono ss rs d k
    rw [← Nat.add_assoc, textT_step, List.length_append]; omega
theorem flat_len {α : Type} (f : α → List UInt8) (m : Nat) : ∀ (l : List α), (∀ x ∈ l, (f x).length ≤ m) → (l.flatMap f).length ≤ l.length * m
  | [], _ => by simp
  | x :: l, h => by
    have h1 := flat_len f m l (fun y hy => h y (List.mem_cons_of_mem _ hy))
    have h2 := h x (List.mem_cons_self)
    rw [List.flatMap_cons, List.length_append, List.length_cons, Nat.succ_mul]; omega
theorem headT_len {ss : List ByteArray} {k : Nat} (hk : k ≤ 64) (h : ∀ s ∈ ss, s.size ≤ 31) : (headT ss k).length ≤ 2051 := by
  unfold headT
  have h1 := flat_len nameW 32 (ss.take k) (fun s hs => by
    have := h s (List.mem_of_mem_take hs)
    have e : s.data.toList.length = s.size := Array.length_toList
    simp [nameW]; omega)
  have h2 : (ss.take k).length ≤ 64 := by simp; omega
  rw [List.length_append]
  simp only [List.length_cons, List.length_nil]
  omega
theorem rowT_len {d : Nat} {cs : List Cl} {k : Nat} (hk : k ≤ 64) (hd : d ≤ 5000) (h : ∀ c ∈ cs, (Lit.int .i64 c.v).wf = true) : (rowT d cs k).length ≤ 1430 := by
  unfold rowT
  have h1 := flat_len cellW 22 (cs.take k) (fun c hc => by
    have := wordC_len (h c (List.mem_of_mem_take hc))
    simp [cellW]; omega)
  have h2 : (cs.take k).length ≤ 64 := by simp; omega
  have h3 := Lib.itoa_length_le (d : Int) (by omega) (by omega)
  rw [List.length_append]
  omega
theorem own_day (w : World) : (w.alloc (.cells #[.int .u8 100, .int .u8 97, .int .u8 121] 5)).ownsRow w.heap.size 5 1 (.slice (some ⟨w.heap.size, 0, none⟩) 3 3) 3 (Lib.byteCells [100, 97, 121]) :=
  ⟨rfl, .inr ⟨w.heap.size, 3, #[.int .u8 100, .int .u8 97, .int .u8 121], rfl, Nat.le_refl _, World.alloc_heap_new w _, Nat.le_refl _, by unfold maxLen; omega, rfl, rfl⟩⟩
theorem info8 : (Tryz.prog.info? 5).map (fun i => (i.zero, i.size, i.bytes)) = some (some (.int .u8 0), 1, 1) := by kernel_rfl
/-- An append of one byte. -/
theorem wp_byte {ops : Array Oper} {rest : List Oper} {o : Oper} {a : Act} {Q : Exit → Act → World → Prop} (w : World) (c : Int) (hgd : o.guard = none) (s x : Operand)
    (ho : o.op = .call { callee := .builtin .append, args := #[s, x], argTypes := #[64, 64] }) (base : Nat) (v : Value) (n : Nat) (xs : List Value) (hs : a.eval s = v)
    (hx : a.eval x = .slice (some ⟨w.heap.size, 0, none⟩) 1 1) (hown : w.ownsRow base 5 1 v n xs) (hl : n ≤ 4398046511000) (hb : base ≤ w.heap.size)
    (h : ∀ v' w', w'.ownsRow base 5 1 v' (n + 1) (xs ++ [.int .u8 c]) → (w.alloc (.cells #[.int .u8 c] 5)).grownBy w' v.ownBlock → wpList Tryz.prog ops Q rest (a.put o.dst v') w') :
    wpList Tryz.prog ops Q (o :: rest) a (w.alloc (.cells #[.int .u8 c] 5)) := by
  obtain ⟨i0, hi, hz0, hz1, hz2⟩ := info_parts info8
  refine wpList_append_own _ hgd s x 64 ho base 5 i0 (.int .u8 0) 1 1 Tryz.underlying64 hi hz0 hz1 hz2 rfl (by decide) v _ _ hs (hown.alloc _) ⟨w.heap.size, 0, none⟩ 1 1 [.int .u8 c] hx rfl ?_ ?_ (by unfold maxLen; omega) (by omega) (by simp; omega) ?_
  · intro j u hj
    match j, hj with
    | 0, hj => simp at hj; subst hj; simp [Addr.add]
  · intro u hu; simp at hu; subst hu; rfl
  · intro v' w' h1 h2 _
    exact h v' w' h1 h2
theorem conv_bytesT {w : World} {B : Nat} {v : Value} {bs : List UInt8} {n : Nat} (hn : n = bs.length) (hne : bs ≠ []) (h : w.ownsRow B 5 1 v n (Lib.byteCells bs)) : ∃ g cap, v = .slice (some ⟨g, 0, none⟩) n cap ∧ (convert 64 9 v).run Tryz.prog w = .ok (.string ⟨bs.toArray⟩) w := by
  subst hn
  have hh := h
  obtain ⟨h1, h2⟩ := h
  rcases h2 with ⟨h3, h2⟩ | ⟨g, cap, cur, rfl, hB, hg, hn, hm, hs, ht⟩
  · exact absurd (List.length_eq_zero_iff.1 h2) hne
  · refine ⟨g, cap, rfl, run_convert_bytes_back (P := Tryz.prog) w 64 9 5 ⟨g, 0, none⟩ cap bs (by kernel_rfl) (by kernel_rfl) (by kernel_rfl) (fun j hj => ?_)⟩
    rw [Lib.add_plain, Nat.zero_add, hh.cellAt j (by omega)]
    simp [Lib.byteCells, hj]
/-- What Print answers. -/
def PrT (ss : List ByteArray) (rs : List (List Cl)) (e : Ending) : Prop :=
  (validE ss rs ≠ 0 ∧ e = .returned (.tuple #[.string ⟨#[]⟩, .int .i64 (validE ss rs)])) ∨
  (validE ss rs = 0 ∧ 1048576 < (textT ss rs rs.length).length ∧ e = .returned (.tuple #[.string ⟨#[]⟩, .int .i64 6])) ∨
  (validE ss rs = 0 ∧ (textT ss rs rs.length).length ≤ 1048576 ∧ e = .returned (.tuple #[.string ⟨(textT ss rs rs.length).toArray⟩, .int .i64 0]))
theorem prT_one {ss : List ByteArray} {rs : List (List Cl)} {e e' : Ending} (h : PrT ss rs e) (h' : PrT ss rs e') : e = e' := by
  rcases h with ⟨a, b⟩ | ⟨a, b, c⟩ | ⟨a, b, c⟩ <;> rcases h' with ⟨a', b'⟩ | ⟨a', b', c'⟩ | ⟨a', b', c'⟩ <;> first
    | exact absurd a' a
    | exact absurd a a'
    | omega
    | rw [b, b']
    | rw [c, c']
theorem valid_out {ss : List ByteArray} {rs : List (List Cl)} (h : validE ss rs = 0) : ss.length ≤ 64 ∧ rs.length ≤ 4096 ∧ (∀ s ∈ ss, s.size ≤ 31) ∧ ∀ r ∈ rs, r.length = ss.length := by
  unfold validE at h
  split at h
  · omega
  · rename_i h1
    split at h
    · omega
    · rename_i h2
      split at h
      · omega
      · rename_i h3
        refine ⟨by omega, by omega, fun s hs => ?_, fun r hr => ?_⟩
        · simp only [Bool.or_eq_true, Bool.not_eq_true'] at h3
          have : ss.all nameB = true := by
            cases q : ss.all nameB with
            | true => rfl
            | false => exact absurd (.inl q) h3
          have := List.all_eq_true.1 this s hs
          unfold nameB at this
          simp only [Bool.and_eq_true, decide_eq_true_eq] at this
          exact this.1.2
        · refine Classical.byContradiction fun hc => h1 ?_
          rw [List.any_eq_true]; exact ⟨r, hr, decide_eq_true hc⟩
end Go.Proofs.YtajocakmmgpoaaaGreatDoor

namespace Go.Proofs.YtajocakmmgpoaaaGreatDoor
open Go.RowKit
set_option linter.unusedVariables false
set_option linter.unusedSimpArgs false

abbrev dayC : Array Value := #[.int .u8 100, .int .u8 97, .int .u8 121]
/-- Bytes of the call's own: a row that it made, or the constant's marked row. -/
def ownD (w : World) (B : Nat) (v : Value) (n : Nat) (xs : List Value) : Prop :=
  w.ownsRow B 5 1 v n xs ∨ ∃ g, v = .slice (some ⟨g, 0, none⟩) 3 3 ∧ B ≤ g ∧ w.heap[g]? = some (.cells dayC 5 (3, 4)) ∧ n = 3 ∧ xs = Lib.byteCells [100, 97, 121]
theorem ownD.lt {w : World} {B n : Nat} {v : Value} {xs : List Value} (h : ownD w B v n xs) : ∀ k, v.ownBlock = some k → B ≤ k := by
  rcases h with h | ⟨g, rfl, hB, _⟩
  · exact fun k e => (h.lt k e).1
  · intro k e
    simp [Value.ownBlock] at e
    omega
theorem own_dayD (w : World) : ownD (w.alloc (.cells dayC 5 (3, 4))) w.heap.size (.slice (some ⟨w.heap.size, 0, none⟩) 3 3) 3 (Lib.byteCells [100, 97, 121]) :=
  .inr ⟨w.heap.size, rfl, Nat.le_refl _, World.alloc_heap_new w _, rfl, rfl⟩
theorem wp_byteD {ops : Array Oper} {rest : List Oper} {o : Oper} {a : Act} {Q : Exit → Act → World → Prop} (w : World) (c : Int) (hgd : o.guard = none) (s x : Operand)
    (ho : o.op = .call { callee := .builtin .append, args := #[s, x], argTypes := #[64, 64] }) (base : Nat) (v : Value) (n : Nat) (xs : List Value) (hs : a.eval s = v)
    (hx : a.eval x = .slice (some ⟨w.heap.size, 0, none⟩) 1 1) (hown : ownD w base v n xs) (hl : n ≤ 4398046511000) (hb : base ≤ w.heap.size)
    (h : ∀ v' w', w'.ownsRow base 5 1 v' (n + 1) (xs ++ [.int .u8 c]) → (w.alloc (.cells #[.int .u8 c] 5)).grownBy w' v.ownBlock → wpList Tryz.prog ops Q rest (a.put o.dst v') w') :
    wpList Tryz.prog ops Q (o :: rest) a (w.alloc (.cells #[.int .u8 c] 5)) := by
  rcases hown with hown | ⟨g, rfl, hB, hg, rfl, rfl⟩
  · exact wp_byte w c hgd s x ho base v n xs hs hx hown hl hb h
  · obtain ⟨i0, hi, hz0, hz1, hz2⟩ := info_parts info8
    have hlt : g < w.heap.size := (Array.getElem?_eq_some_iff.1 hg).1
    have hg2 : (w.alloc (.cells #[.int .u8 c] 5)).heap[g]? = some (.cells dayC 5 (3, 4)) := (Below.heap_alloc _ _ _ hlt).trans hg
    have hr := run_append_grow (P := Tryz.prog) (w.alloc (.cells #[.int .u8 c] 5)) 64 o.type 5 i0 (.int .u8 0) Tryz.underlying64 hi hz0 ⟨g, 0, none⟩ 3 3 (Lib.byteCells [100, 97, 121]) (by rw [hz1]; rfl)
      (fun j u hj => by
        rw [Lib.add_plain, Nat.zero_add]
        have e : (w.alloc (.cells #[.int .u8 c] 5)).cell? ⟨g, j, none⟩ = dayC[j]? := by simp [World.cell?, hg2]
        rw [e]
        match j, hj with
        | 0, hj => exact hj
        | 1, hj => exact hj
        | 2, hj => exact hj
        | j + 3, hj => simp [Lib.byteCells] at hj)
      ⟨w.heap.size, 0, none⟩ 1 1 [.int .u8 c] (by rw [hz1]; rfl)
      (fun j u hj => by
        match j, hj with
        | 0, hj => simp at hj; subst hj; simp [Addr.add])
      (by omega) (by omega) (by rw [hz2]; exact growslice_fits (by omega) (by omega))
    refine wpList_plain hgd fun K hK => ?_
    unfold Oper.wp execOp
    simp only [ho, resolve, invoke, builtin, Sem.run_bind, Sem.run_pure, Result.andThen_ok, List.map_toArray, List.map_cons, List.map_nil, hs, hx, hr]
    refine hK _ _ (h _ _ ⟨rfl, .inr ⟨_, _, _, rfl, ?_, heap_alloc_new _ _, grownCap_ge _ _ _ _, grownCap_le_maxLen _ _ _ _ (by unfold maxLen; omega), ?_, ?_⟩⟩ ⟨rfl, rfl, rfl, by simp, fun k hk _ => Below.heap_alloc _ _ _ hk⟩)
    · simp; omega
    · have hge := grownCap_ge (w.alloc (.cells #[.int .u8 c] 5)) (3 + 1) 3 5
      have hz1 : (Value.int IntKind.u8 0).cells.size = 1 := rfl
      simp only [Array.size_append, List.size_toArray, size_zeroCells, hz1]
      simp only [Lib.byteCells, List.length_map, List.length_cons, List.length_nil]
      omega
    · simp only [Array.toList_append, List.append_assoc]
      rw [← List.append_assoc]
      exact List.take_left' rfl
end Go.Proofs.YtajocakmmgpoaaaGreatDoor

namespace Go.Proofs.YtajocakmmgpoaaaGreatDoor
open Go.RowKit
set_option linter.unusedVariables false
set_option linter.unusedSimpArgs false

/-- The byte at a place; -1 at the end. -/
def bt (s : ByteArray) (i : Nat) : Int := if h : i < s.size then (s[i].toNat : Int) else -1
theorem bt_lt {s : ByteArray} {i : Nat} (h : i < s.size) : bt s i = (s[i].toNat : Int) := by unfold bt; rw [dif_pos h]
theorem bt_end {s : ByteArray} {i : Nat} (h : ¬ i < s.size) : bt s i = -1 := by unfold bt; rw [dif_neg h]
def blB (c : Int) : Bool := c == 32 || c == 9 || c == 13
def wdB (c : Int) : Bool := decide (0 ≤ c) && !(blB c) && c != 35 && c != 10
/-- The reader in block g. -/
structure TR (w : World) (g : Nat) (s : ByteArray) (at_ pl : Nat) (m nm rw : Value) : Prop where
  hb : w.heap[g]? = some (.cells #[.string s, .int .i64 at_, .int .i64 pl, m, nm, rw] 69)
  sz : s.size ≤ 1048576
  le : at_ ≤ s.size
theorem TR.lt {w : World} {g : Nat} {s : ByteArray} {at_ pl : Nat} {m nm rw : Value} (h : TR w g s at_ pl m nm rw) : g < w.heap.size := (Array.getElem?_eq_some_iff.1 h.hb).1
theorem TR.c {w : World} {g : Nat} {s : ByteArray} {at_ pl : Nat} {m nm rw : Value} (h : TR w g s at_ pl m nm rw) :
    w.cell? ⟨g, 0, none⟩ = some (.string s) ∧ w.cell? ⟨g, 1, none⟩ = some (.int .i64 at_) ∧ w.cell? ⟨g, 2, none⟩ = some (.int .i64 pl) ∧ w.cell? ⟨g, 3, none⟩ = some m ∧ w.cell? ⟨g, 4, none⟩ = some nm ∧ w.cell? ⟨g, 5, none⟩ = some rw := by
  refine ⟨?_, ?_, ?_, ?_, ?_, ?_⟩ <;> simp [World.cell?, h.hb]
theorem TR.f {w : World} {g : Nat} {s : ByteArray} {at_ pl : Nat} {m nm rw : Value} (h : TR w g s at_ pl m nm rw) (i : Nat) : w.frozen? ⟨g, i, none⟩ = false := Joins.unfrozen_of_block h.hb i
theorem TR.drewN {w : World} {g : Nat} {s : ByteArray} {at_ pl : Nat} {m nm rw : Value} (h : TR w g s at_ pl m nm rw) (n : Nat) : TR (w.drewN n) g s at_ pl m nm rw := ⟨h.hb, h.sz, h.le⟩
theorem TR.setAt {w : World} {g : Nat} {s : ByteArray} {at_ pl : Nat} {m nm rw : Value} (h : TR w g s at_ pl m nm rw) (k : Nat) (hk : k ≤ s.size) : TR (w.setCell ⟨g, 1, none⟩ (.int .i64 k)) g s k pl m nm rw :=
  ⟨Joins.block_setCell h.hb _, h.sz, hk⟩
theorem TR.setPl {w : World} {g : Nat} {s : ByteArray} {at_ pl : Nat} {m nm rw : Value} (h : TR w g s at_ pl m nm rw) (k : Nat) : TR (w.setCell ⟨g, 2, none⟩ (.int .i64 k)) g s at_ k m nm rw :=
  ⟨Joins.block_setCell h.hb _, h.sz, h.le⟩
/-- At most the block g has turned. -/
def Gr (g : Nat) (w w' : World) : Prop := w.grownBy w' (some g)
theorem Gr.refl (g : Nat) (w : World) : Gr g w w := ⟨rfl, rfl, rfl, Nat.le_refl _, fun _ _ _ => rfl⟩
theorem Gr.trans {g : Nat} {a b c : World} (h : Gr g a b) (k : Gr g b c) : Gr g a c :=
  ⟨k.os.trans h.os, k.tape.trans h.tape, k.output.trans h.output, Nat.le_trans h.size k.size, fun i hi hn => (k.block i (Nat.lt_of_lt_of_le hi h.size) hn).trans (h.block i hi hn)⟩
theorem Gr.drewN {g : Nat} {a b : World} (h : Gr g a b) (n : Nat) : Gr g a (b.drewN n) := ⟨h.os, h.tape, h.output, h.size, h.block⟩
theorem Gr.set {g : Nat} {a b : World} (h : Gr g a b) (o : Nat) (v : Value) : Gr g a (b.setCell ⟨g, o, none⟩ v) := by
  refine h.trans ⟨rfl, rfl, rfl, by simp, fun i hi hn => ?_⟩
  have hp : ¬ g = i := fun e => hn (by rw [e])
  simp [World.setCell, Array.getElem?_modify, hp]
def posT (g : Nat) (w : World) : Nat := match w.cell? ⟨g, 1, none⟩ with | some (.int _ z) => z.toNat | _ => 0
theorem TR.pos {w : World} {g : Nat} {s : ByteArray} {at_ pl : Nat} {m nm rw : Value} (h : TR w g s at_ pl m nm rw) : posT g w = at_ := by unfold posT; rw [h.c.2.1]; simp
theorem ret_bool {a b : Bool} (h : a = b) : Ending.returned (.bool a) = .returned (.bool b) := by rw [h]

theorem isBlank_any (c : Int) (w : World) : Calls Tryz.prog 41 #[.int .u8 c] w fun e w' => e = .returned (.bool (blB c)) ∧ w' = w := by
  by_cases h1 : c = 32
  · subst h1
    go_enter Tryz.func41, Tryz.ntmps41
    go_wp2
    go_ret
    exact ⟨rfl, rfl⟩
  · have e1 : (c == 32) = false := by rw [beq_eq_false_iff_ne]; exact h1
    by_cases h2 : c = 9
    · subst h2
      go_enter Tryz.func41, Tryz.ntmps41
      go_wp2
      go_ret
      exact ⟨rfl, rfl⟩
    · have e2 : (c == 9) = false := by rw [beq_eq_false_iff_ne]; exact h2
      have e : blB c = (c == 13) := by unfold blB; rw [e1, e2]; rfl
      rw [e]
      clear e
      go_enter Tryz.func41, Tryz.ntmps41
      go_wp2
      go_ret
      exact ⟨rfl, rfl⟩
theorem isOfWord_any (c : Int) (h0 : 0 ≤ c) (w : World) : Calls Tryz.prog 43 #[.int .u8 c] w fun e w' => e = .returned (.bool (wdB c)) ∧ w' = w := by
  have K := Lib.hid (isBlank_any c w)
  have e : wdB c = (!(blB c) && c != 35 && c != 10) := by unfold wdB; rw [decide_eq_true h0]; rfl
  rw [e]
  clear e
  cases hb : blB c with
  | true =>
    rw [hb] at K
    go_enter Tryz.func43, Tryz.ntmps43
    go_wp2_with (go_at_call 41; refine K.out.mono ?_; rintro e w1 ⟨rfl, rfl⟩)
    go_ret
    exact ⟨rfl, rfl⟩
  | false =>
    rw [hb] at K
    by_cases h1 : c = 35
    · subst h1
      go_enter Tryz.func43, Tryz.ntmps43
      go_wp2_with (go_at_call 41; refine K.out.mono ?_; rintro e w1 ⟨rfl, rfl⟩)
      go_ret
      exact ⟨rfl, rfl⟩
    · have e1 : (c != 35) = true := by rw [bne_iff_ne]; exact h1
      rw [e1]
      go_enter Tryz.func43, Tryz.ntmps43
      go_wp2_with (go_at_call 41; refine K.out.mono ?_; rintro e w1 ⟨rfl, rfl⟩)
      go_ret
      exact ⟨rfl, rfl⟩
end Go.Proofs.YtajocakmmgpoaaaGreatDoor
