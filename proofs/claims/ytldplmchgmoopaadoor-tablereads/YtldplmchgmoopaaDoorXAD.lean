import Derived.Test.YtldplmchgmoopaaDoorRows
import Derived.WalkKit
import Derived.WalkSpells
import Derived.Below
import Derived.BigCall
import Derived.BigGuard
import Derived.Lib.ItoaMem
import Derived.Lib.AppendIntMem
import Derived.Test.YtldplmchgmoopaaDoorXAC
import Derived.Test.YtldplmchgmoopaaDoorXAB
import Derived.Deep.RegionHeld3
import Derived.Test.YtldplmchgmoopaaDoorXAA
import Derived.Lib.AppendStr
import Derived.Lib.OthersKept
import Derived.Lib.ItoaLen
import Derived.Laws.IdiomStrings
import Derived.Laws.AppendOwn
import Derived.Laws.OwnMore
import Derived.Lib.SlBytesConst
import Derived.Lib.SmallJoins
import Derived.Lib.AtoiAll
namespace Go.Proofs.YtldplmchgmoopaaDoor
open Go.RowKit
open Go.Sort
set_option linter.unusedVariables false

/-- The table of the powers of ten, as the row lists it. -/
def Pows (w : World) : Prop := Lib.TabIs Tryd.prog w "internal/strconv.uint64pow10" .u64 Lib.pow10Tab

theorem nDigits_le (u : Nat) (h1 : 1 ≤ u) (h2 : u < 18446744073709551616) : Lib.nDigits u ≤ 20 := by
  have := Lib.numDigits_eq u h1 h2
  split at this <;> omega

set_option maxHeartbeats 3200000 in
set_option maxRecDepth 100000 in
theorem fmtUint_inner (u : Nat) (hu : u < 18446744073709551616) (w : World) (ht : Pows w) :
    Calls Tryd.prog 66 #[.int .u64 u, .int .i64 10] w fun e w' => e = .returned (.string ⟨(Lib.decDigits u).toArray⟩) ∧ Below w.heap.size w w' := by
  by_cases hs : u < 100
  · have hw : IntKind.i64.wrap (u : Int) = (u : Int) := by simp [IntKind.wrap, IntKind.bits, IntKind.signed]; omega
    go_enter Tryd.func66, Tryd.ntmps66
    go_wp2_with (go_at_call 76; refine (Tryd.internal_strconv_small u hs _).mono ?_; rintro e w' ⟨rfl, rfl⟩)
    go_ret
    exact ⟨rfl, Below.refl _ _⟩
  · have hu1 : 1 ≤ u := by omega
    have hn := nDigits_le u hu1 hu
    have hal : Tryd.prog.arrayLen 132 = 24 := by kernel_rfl
    have hsl : ∀ W, (Instr.sliceAt 132 (.pointer (some ⟨w.heap.size, 0, none⟩)) none (some (.int .i64 (Lib.nDigits u : Int))) none).run Tryd.prog W = .ok (.slice (some ⟨w.heap.size, 0, none⟩) (Lib.nDigits u) 24) W := fun W => by
      rw [run_sliceAt_array_h W 132 ⟨w.heap.size, 0, none⟩ (by kernel_rfl) .i64 (Lib.nDigits u : Int) (by omega) (by rw [hal]; omega)]
      go_simp
    have z0 := Lib.holds_zero0 w 132 (Lib.nDigits u) (by omega)
    have hf := Tryd.internal_strconv_formatBase10 w.heap.size 0 24 u (Array.replicate (Lib.nDigits u) 0) (w.alloc (.cells Lib.zeros24 132)) z0 (by rw [Array.size_replicate]; exact Lib.lt_pow_nDigits u) hu (by rw [Array.size_replicate]; omega)
    rw [Array.size_replicate] at hf
    have Z0 := Lib.hid z0
    clear z0 hal
    go_enter Tryd.func66, Tryd.ntmps66
    go_wp2_with (go_at_call 77; refine (Tryd.internal_strconv_numDigits u hu1 hu _ (Lib.tabIs_alloc ht _)).mono ?_; rintro e w' ⟨rfl, rfl⟩)
    refine hf.mono ?_
    rintro e w' ⟨rfl, k, v', dk, rfl, hF⟩
    have hcv : (convert 98 9 (.slice (some ⟨w.heap.size, 0, none⟩) (Lib.nDigits u) 24)).run Tryd.prog ((putRow (fun (b : UInt8) => Value.int .u8 (b.toNat : Int)) (w.alloc (.cells Lib.zeros24 132)) w.heap.size 0 dk).drewN k) = .ok (.string ⟨(Lib.decDigits u).toArray⟩) ((putRow (fun (b : UInt8) => Value.int .u8 (b.toNat : Int)) (w.alloc (.cells Lib.zeros24 132)) w.heap.size 0 dk).drewN k) := by
      have h := run_convert_bytes_back (P := Tryd.prog) ((putRow (fun (b : UInt8) => Value.int .u8 (b.toNat : Int)) (w.alloc (.cells Lib.zeros24 132)) w.heap.size 0 dk).drewN k) 98 9 5 ⟨w.heap.size, 0, none⟩ 24 (Lib.decDigits u) (by kernel_rfl) (by kernel_rfl) (by kernel_rfl) (fun j hj => by
        rw [Lib.row_is_numeral hF j hj, Lib.add_plain, World.cell?_drewN]
        exact cell?_putRow (fun (b : UInt8) => Value.int .u8 (b.toNat : Int)) _ w.heap.size 0 _ dk Z0.out (by rw [hF.size, Array.size_replicate]) j (by rw [hF.size]; rw [Lib.decDigits_length] at hj; exact hj))
      rw [Lib.decDigits_length] at h
      exact h
    go_wp2
    go_ret
    obtain ⟨os, eo⟩ := Lib.fin_at w (.cells Lib.zeros24 132) dk k 0
    refine ⟨rfl, ?_⟩
    rw [eo]
    exact Lib.below_grow _ w (Nat.le_refl _) k os

theorem fmtUint (u : Nat) (hu : u < 18446744073709551616) (w : World) (ht : Pows w) :
    Calls Tryd.prog 58 #[.int .u64 u, .int .i64 10] w fun e w' => e = .returned (.string ⟨(Lib.decDigits u).toArray⟩) ∧ Below w.heap.size w w' := by
  go_enter Tryd.func58, Tryd.ntmps58
  go_wp2_with (go_at_call 66; refine (fmtUint_inner u hu _ ht).mono ?_; rintro e w' ⟨rfl, hb⟩)
  go_ret
  exact ⟨rfl, hb⟩

end Go.Proofs.YtldplmchgmoopaaDoor

namespace Go.Proofs.YtldplmchgmoopaaDoor
open Go.RowKit
set_option linter.unusedVariables false

/-- At least one digit ahead of the decimals. -/
def padTo (p : Nat) (ds : List UInt8) : List UInt8 := List.replicate (p + 1 - ds.length) 48 ++ ds
/-- The full stop ahead of the last p digits. -/
def pointed (p : Nat) (ls : List UInt8) : List UInt8 := if p = 0 then ls else ls.take (ls.length - p) ++ 46 :: ls.drop (ls.length - p)
/-- The text of a number with the digits ds. -/
def decS (neg : Bool) (p : Nat) (ds : List UInt8) : List UInt8 := if neg then 45 :: pointed p (padTo p ds) else pointed p (padTo p ds)

theorem ba_append (a b : List UInt8) : (⟨a.toArray⟩ : ByteArray) ++ ⟨b.toArray⟩ = ⟨(a ++ b).toArray⟩ := by
  apply ByteArray.ext
  rw [ByteArray.data_append]
  simp
theorem ba_take (l : List UInt8) (k : Nat) (hk : k ≤ l.length) : (⟨l.toArray⟩ : ByteArray).extract 0 k = ⟨(l.take k).toArray⟩ := by
  apply ByteArray.ext
  rw [ByteArray.data_extract]
  simp
theorem ba_drop (l : List UInt8) (k n : Nat) (hn : n = l.length) : (⟨l.toArray⟩ : ByteArray).extract k n = ⟨(l.drop k).toArray⟩ := by
  subst hn
  apply ByteArray.ext
  rw [ByteArray.data_extract]
  simp
  exact List.take_of_length_le (by simp)
theorem cutH (l : List UInt8) (k : Int) (h0 : 0 ≤ k) (hk : k ≤ l.length) (W : World) : (Instr.slice 9 (.string ⟨l.toArray⟩) none (some (.int .i64 k)) none).run Tryd.prog W = .ok (.string ⟨(l.take k.toNat).toArray⟩) W := by
  rw [run_slice_string_h W 9 _ (by kernel_rfl) .i64 k h0 (by simpa [ByteArray.size] using hk), ba_take _ _ (by omega)]
theorem cutL (l : List UInt8) (k : Int) (h0 : 0 ≤ k) (hk : k ≤ l.length) (W : World) : (Instr.slice 9 (.string ⟨l.toArray⟩) (some (.int .i64 k)) none none).run Tryd.prog W = .ok (.string ⟨(l.drop k.toNat).toArray⟩) W := by
  rw [run_slice_string_l W 9 _ (by kernel_rfl) .i64 k h0 (by simpa [ByteArray.size] using hk), ba_drop _ _ _ (by simp [ByteArray.size])]
theorem rep48 (c : Nat) (hc : c ≤ 100) (w : World) : Calls Tryd.prog 60 #[.string ⟨#[48]⟩, .int .i64 (c : Int)] w fun e w' => e = .returned (.string ⟨(List.replicate c (48 : UInt8)).toArray⟩) ∧ Below w.heap.size w w' := by
  refine (Tryd.strings_Repeat ⟨#[48]⟩ c w (by omega) (by simp [ByteArray.size]; omega)).mono ?_
  rintro e w' ⟨rfl, hb⟩
  refine ⟨?_, hb⟩
  have : ∀ c, Lib.repeatL [(48 : UInt8)] c = List.replicate c 48 := fun c => by
    induction c with
    | zero => rfl
    | succ c ih => rw [Lib.repeatL, ih]; rfl
  rw [show (⟨#[48]⟩ : ByteArray).data.toList = [48] from rfl, this]
theorem catS (a b : List UInt8) (h : a.length + b.length ≤ 1000) (W : World) : (Op.stringOp .add ⟨a.toArray⟩ ⟨b.toArray⟩).run Tryd.prog W = .ok (.string ⟨(a ++ b).toArray⟩) W := by
  rw [← ba_append]
  have h1 : ((⟨a.toArray⟩ : ByteArray).size : Int) ≤ 8388608 := by simp [ByteArray.size]; omega
  have h2 : ((⟨b.toArray⟩ : ByteArray).size : Int) ≤ 8388608 := by simp [ByteArray.size]; omega
  exact run_string_add W _ _ h1 h2
theorem below_nqD {B : Nat} {a w : World} (h : Below B a w) (n : Nat) : Below B a (w.drewN n) := ⟨h.os, h.tape, h.output, h.size, h.block⟩
theorem dd_len (u : Nat) (hu : u < 18446744073709551616) : (Lib.decDigits u).length ≤ 20 := by
  rw [Lib.decDigits_length]
  by_cases h1 : 1 ≤ u
  · exact nDigits_le u h1 hu
  · have : u = 0 := by omega
    subst this
    rw [Lib.nDigits_small (by omega)]
    omega


set_option maxHeartbeats 400000 in
set_option maxRecDepth 100000 in
theorem decimal_lzu (v : Int) (hv : inR v) (u : Nat) (hu : absI v = u) (p : Nat) (hp : p ≤ 18) (w : World) (ht : Pows w) (hs : ¬ (Lib.decDigits u).length < p + 1) (hp0 : p = 0) (hneg : ¬ v < 0) :
    Calls Tryd.prog 54 #[.int .i64 v, .int .i64 p] w fun e w' => e = .returned (.string ⟨(decS (decide (v < 0)) p (Lib.decDigits u)).toArray⟩) ∧ Below w.heap.size w w' := by
  have hb := absI_bd v hv
  have hu64 : u < 18446744073709551616 := by omega
  have SZ := veil (fun w => sizeOf_any v hv w)
  rw [hu] at SZ
  have FU := veil (fmtUint u hu64 w ht)
  have hl := dd_len u hu64
  generalize Lib.decDigits u = ds at FU hl hs ⊢
  clear hu hb hu64 ht
  have d1 : decide ((ds.length : Int) < (p : Int) + 1) = false := by simp; omega
  have d3 : decide (v < 0) = false := by simp; omega
  obtain ⟨ls, hls⟩ : ∃ ls, ds = ls := ⟨_, rfl⟩
  have hpad : padTo p ds = ls := by unfold padTo; rw [show p + 1 - ds.length = 0 by omega]; simpa using hls
  have hll : p + 1 ≤ ls.length := by rw [← hls]; omega
  have hl2 : ls.length ≤ 40 := by rw [← hls]; omega
  rw [show decS (decide (v < 0)) p ds = pointed p ls by unfold decS; rw [d3, hpad]; rfl]
  have hpt : pointed p ls = ls := by unfold pointed; rw [if_pos hp0]
  rw [hpt]
  subst hp0
  clear hpt hpad
  subst hls
  go_enter Tryd.func54, Tryd.ntmps54
  go_wp2_with (first | (go_at_call 59; refine (unveil SZ _).mono ?_; rintro e w' ⟨rfl, rfl⟩) | (go_at_call 58; refine (unveil FU).mono ?_; rintro e w1 ⟨rfl, hb1⟩) | (go_at_call 60; refine (unveil RP _).mono ?_; rintro e w2 ⟨rfl, hb2⟩))
  go_ret
  exact ⟨rfl, hb1⟩

set_option maxHeartbeats 400000 in
set_option maxRecDepth 100000 in
theorem decimal_lzn (v : Int) (hv : inR v) (u : Nat) (hu : absI v = u) (p : Nat) (hp : p ≤ 18) (w : World) (ht : Pows w) (hs : ¬ (Lib.decDigits u).length < p + 1) (hp0 : p = 0) (hneg : v < 0) :
    Calls Tryd.prog 54 #[.int .i64 v, .int .i64 p] w fun e w' => e = .returned (.string ⟨(decS (decide (v < 0)) p (Lib.decDigits u)).toArray⟩) ∧ Below w.heap.size w w' := by
  have hb := absI_bd v hv
  have hu64 : u < 18446744073709551616 := by omega
  have SZ := veil (fun w => sizeOf_any v hv w)
  rw [hu] at SZ
  have FU := veil (fmtUint u hu64 w ht)
  have hl := dd_len u hu64
  generalize Lib.decDigits u = ds at FU hl hs ⊢
  clear hu hb hu64 ht
  have d1 : decide ((ds.length : Int) < (p : Int) + 1) = false := by simp; omega
  have d3 : decide (v < 0) = true := by simp; omega
  obtain ⟨ls, hls⟩ : ∃ ls, ds = ls := ⟨_, rfl⟩
  have hpad : padTo p ds = ls := by unfold padTo; rw [show p + 1 - ds.length = 0 by omega]; simpa using hls
  have hll : p + 1 ≤ ls.length := by rw [← hls]; omega
  have hl2 : ls.length ≤ 40 := by rw [← hls]; omega
  rw [show decS (decide (v < 0)) p ds = 45 :: pointed p ls by unfold decS; rw [d3, hpad]; rfl]
  have hpt : pointed p ls = ls := by unfold pointed; rw [if_pos hp0]
  rw [hpt]
  subst hp0
  have r3 := catS [45] ls (by simp; omega)
  rw [show [45] ++ ls = 45 :: ls from rfl] at r3
  generalize 45 :: ls = l4 at r3 ⊢
  clear hpt hpad
  subst hls
  go_enter Tryd.func54, Tryd.ntmps54
  go_wp2_with (first | (go_at_call 59; refine (unveil SZ _).mono ?_; rintro e w' ⟨rfl, rfl⟩) | (go_at_call 58; refine (unveil FU).mono ?_; rintro e w1 ⟨rfl, hb1⟩) | (go_at_call 60; refine (unveil RP _).mono ?_; rintro e w2 ⟨rfl, hb2⟩))
  go_ret
  exact ⟨rfl, hb1⟩

set_option maxHeartbeats 400000 in
set_option maxRecDepth 100000 in
theorem decimal_lpu (v : Int) (hv : inR v) (u : Nat) (hu : absI v = u) (p : Nat) (hp : p ≤ 18) (w : World) (ht : Pows w) (hs : ¬ (Lib.decDigits u).length < p + 1) (hp0 : 0 < p) (hneg : ¬ v < 0) :
    Calls Tryd.prog 54 #[.int .i64 v, .int .i64 p] w fun e w' => e = .returned (.string ⟨(decS (decide (v < 0)) p (Lib.decDigits u)).toArray⟩) ∧ Below w.heap.size w w' := by
  have hb := absI_bd v hv
  have hu64 : u < 18446744073709551616 := by omega
  have SZ := veil (fun w => sizeOf_any v hv w)
  rw [hu] at SZ
  have FU := veil (fmtUint u hu64 w ht)
  have hl := dd_len u hu64
  generalize Lib.decDigits u = ds at FU hl hs ⊢
  clear hu hb hu64 ht
  have d1 : decide ((ds.length : Int) < (p : Int) + 1) = false := by simp; omega
  have d3 : decide (v < 0) = false := by simp; omega
  have d2 : decide (0 < p) = true := by simp; omega
  obtain ⟨ls, hls⟩ : ∃ ls, ds = ls := ⟨_, rfl⟩
  have hpad : padTo p ds = ls := by unfold padTo; rw [show p + 1 - ds.length = 0 by omega]; simpa using hls
  have hll : p + 1 ≤ ls.length := by rw [← hls]; omega
  have hl2 : ls.length ≤ 40 := by rw [← hls]; omega
  rw [show decS (decide (v < 0)) p ds = pointed p ls by unfold decS; rw [d3, hpad]; rfl]
  have hpt : pointed p ls = ls.take ((ls.length : Int) - p).toNat ++ (46 :: ls.drop ((ls.length : Int) - p).toNat) := by unfold pointed; rw [if_neg (by omega), show ((ls.length : Int) - p).toNat = ls.length - p by omega]
  rw [hpt]
  have s1 := cutH ls ((ls.length : Int) - p) (by omega) (by omega)
  have s2 := cutL ls ((ls.length : Int) - p) (by omega) (by omega)
  have n1 : (ls.take ((ls.length : Int) - p).toNat).length ≤ 40 := by simp; omega
  have n2 : (ls.drop ((ls.length : Int) - p).toNat).length ≤ 40 := by simp; omega
  generalize ls.take ((ls.length : Int) - p).toNat = l1 at s1 hpt n1 ⊢
  generalize ls.drop ((ls.length : Int) - p).toNat = l2 at s2 hpt n2 ⊢
  have r1 := catS l1 [46] (by simp; omega)
  have r2 := catS (l1 ++ [46]) l2 (by simp; omega)
  have n3 : (l1 ++ [46] ++ l2).length ≤ 90 := by simp; omega
  rw [show l1 ++ 46 :: l2 = l1 ++ [46] ++ l2 by simp]
  generalize l1 ++ [46] = l12 at r1 r2 n3 ⊢
  generalize l12 ++ l2 = l3 at r2 n3 ⊢
  clear hpt hpad
  subst hls
  go_enter Tryd.func54, Tryd.ntmps54
  go_wp2_with (first | (go_at_call 59; refine (unveil SZ _).mono ?_; rintro e w' ⟨rfl, rfl⟩) | (go_at_call 58; refine (unveil FU).mono ?_; rintro e w1 ⟨rfl, hb1⟩) | (go_at_call 60; refine (unveil RP _).mono ?_; rintro e w2 ⟨rfl, hb2⟩))
  go_region_held3 (fun _ => True) (exact trivial) (fail)
  all_goals go_wp2_with fail
  go_ret
  exact ⟨rfl, below_nqD hb1 _⟩

set_option maxHeartbeats 400000 in
set_option maxRecDepth 100000 in
theorem decimal_lpn (v : Int) (hv : inR v) (u : Nat) (hu : absI v = u) (p : Nat) (hp : p ≤ 18) (w : World) (ht : Pows w) (hs : ¬ (Lib.decDigits u).length < p + 1) (hp0 : 0 < p) (hneg : v < 0) :
    Calls Tryd.prog 54 #[.int .i64 v, .int .i64 p] w fun e w' => e = .returned (.string ⟨(decS (decide (v < 0)) p (Lib.decDigits u)).toArray⟩) ∧ Below w.heap.size w w' := by
  have hb := absI_bd v hv
  have hu64 : u < 18446744073709551616 := by omega
  have SZ := veil (fun w => sizeOf_any v hv w)
  rw [hu] at SZ
  have FU := veil (fmtUint u hu64 w ht)
  have hl := dd_len u hu64
  generalize Lib.decDigits u = ds at FU hl hs ⊢
  clear hu hb hu64 ht
  have d1 : decide ((ds.length : Int) < (p : Int) + 1) = false := by simp; omega
  have d3 : decide (v < 0) = true := by simp; omega
  have d2 : decide (0 < p) = true := by simp; omega
  obtain ⟨ls, hls⟩ : ∃ ls, ds = ls := ⟨_, rfl⟩
  have hpad : padTo p ds = ls := by unfold padTo; rw [show p + 1 - ds.length = 0 by omega]; simpa using hls
  have hll : p + 1 ≤ ls.length := by rw [← hls]; omega
  have hl2 : ls.length ≤ 40 := by rw [← hls]; omega
  rw [show decS (decide (v < 0)) p ds = 45 :: pointed p ls by unfold decS; rw [d3, hpad]; rfl]
  have hpt : pointed p ls = ls.take ((ls.length : Int) - p).toNat ++ (46 :: ls.drop ((ls.length : Int) - p).toNat) := by unfold pointed; rw [if_neg (by omega), show ((ls.length : Int) - p).toNat = ls.length - p by omega]
  rw [hpt]
  have s1 := cutH ls ((ls.length : Int) - p) (by omega) (by omega)
  have s2 := cutL ls ((ls.length : Int) - p) (by omega) (by omega)
  have n1 : (ls.take ((ls.length : Int) - p).toNat).length ≤ 40 := by simp; omega
  have n2 : (ls.drop ((ls.length : Int) - p).toNat).length ≤ 40 := by simp; omega
  generalize ls.take ((ls.length : Int) - p).toNat = l1 at s1 hpt n1 ⊢
  generalize ls.drop ((ls.length : Int) - p).toNat = l2 at s2 hpt n2 ⊢
  have r1 := catS l1 [46] (by simp; omega)
  have r2 := catS (l1 ++ [46]) l2 (by simp; omega)
  have n3 : (l1 ++ [46] ++ l2).length ≤ 90 := by simp; omega
  rw [show l1 ++ 46 :: l2 = l1 ++ [46] ++ l2 by simp]
  generalize l1 ++ [46] = l12 at r1 r2 n3 ⊢
  generalize l12 ++ l2 = l3 at r2 n3 ⊢
  have r3 := catS [45] l3 (by simp; omega)
  rw [show [45] ++ l3 = 45 :: l3 from rfl] at r3
  generalize 45 :: l3 = l4 at r3 ⊢
  clear hpt hpad
  subst hls
  go_enter Tryd.func54, Tryd.ntmps54
  go_wp2_with (first | (go_at_call 59; refine (unveil SZ _).mono ?_; rintro e w' ⟨rfl, rfl⟩) | (go_at_call 58; refine (unveil FU).mono ?_; rintro e w1 ⟨rfl, hb1⟩) | (go_at_call 60; refine (unveil RP _).mono ?_; rintro e w2 ⟨rfl, hb2⟩))
  go_region_held3 (fun _ => True) (exact trivial) (fail)
  all_goals go_wp2_with fail
  go_ret
  exact ⟨rfl, below_nqD hb1 _⟩

set_option maxHeartbeats 400000 in
set_option maxRecDepth 100000 in
theorem decimal_spu (v : Int) (hv : inR v) (u : Nat) (hu : absI v = u) (p : Nat) (hp : p ≤ 18) (w : World) (ht : Pows w) (hs : (Lib.decDigits u).length < p + 1) (hp0 : 0 < p) (hneg : ¬ v < 0) :
    Calls Tryd.prog 54 #[.int .i64 v, .int .i64 p] w fun e w' => e = .returned (.string ⟨(decS (decide (v < 0)) p (Lib.decDigits u)).toArray⟩) ∧ Below w.heap.size w w' := by
  have hb := absI_bd v hv
  have hu64 : u < 18446744073709551616 := by omega
  have SZ := veil (fun w => sizeOf_any v hv w)
  rw [hu] at SZ
  have FU := veil (fmtUint u hu64 w ht)
  have hl := dd_len u hu64
  generalize Lib.decDigits u = ds at FU hl hs ⊢
  clear hu hb hu64 ht
  have d1 : decide ((ds.length : Int) < (p : Int) + 1) = true := by simp; omega
  have d3 : decide (v < 0) = false := by simp; omega
  have d2 : decide (0 < p) = true := by simp; omega
  obtain ⟨c, hc⟩ : ∃ c : Nat, p + 1 - ds.length = c := ⟨_, rfl⟩
  have hci : (p : Int) + 1 - ds.length = (c : Int) := by omega
  have hc0 : decide (0 < (c : Int)) = true := by simp; omega
  have hc1 : decide (0 < c) = true := by simp; omega
  have RP := veil (fun w => rep48 c (by omega) w)
  obtain ⟨zs, hzs⟩ : ∃ zs, List.replicate c (48 : UInt8) = zs := ⟨_, rfl⟩
  have hzl : zs.length = c := by rw [← hzs]; simp
  rw [hzs] at RP
  have hcat := catS zs ds (by omega)
  obtain ⟨ls, hls⟩ : ∃ ls, zs ++ ds = ls := ⟨_, rfl⟩
  have hll : p + 1 ≤ ls.length := by rw [← hls]; simp; omega
  have hl2 : ls.length ≤ 40 := by rw [← hls]; simp; omega
  rw [hls] at hcat
  have hpad : padTo p ds = ls := by unfold padTo; rw [hc, hzs, hls]
  rw [show decS (decide (v < 0)) p ds = pointed p ls by unfold decS; rw [d3, hpad]; rfl]
  have hpt : pointed p ls = ls.take ((ls.length : Int) - p).toNat ++ (46 :: ls.drop ((ls.length : Int) - p).toNat) := by unfold pointed; rw [if_neg (by omega), show ((ls.length : Int) - p).toNat = ls.length - p by omega]
  rw [hpt]
  have s1 := cutH ls ((ls.length : Int) - p) (by omega) (by omega)
  have s2 := cutL ls ((ls.length : Int) - p) (by omega) (by omega)
  have n1 : (ls.take ((ls.length : Int) - p).toNat).length ≤ 40 := by simp; omega
  have n2 : (ls.drop ((ls.length : Int) - p).toNat).length ≤ 40 := by simp; omega
  generalize ls.take ((ls.length : Int) - p).toNat = l1 at s1 hpt n1 ⊢
  generalize ls.drop ((ls.length : Int) - p).toNat = l2 at s2 hpt n2 ⊢
  have r1 := catS l1 [46] (by simp; omega)
  have r2 := catS (l1 ++ [46]) l2 (by simp; omega)
  have n3 : (l1 ++ [46] ++ l2).length ≤ 90 := by simp; omega
  rw [show l1 ++ 46 :: l2 = l1 ++ [46] ++ l2 by simp]
  generalize l1 ++ [46] = l12 at r1 r2 n3 ⊢
  generalize l12 ++ l2 = l3 at r2 n3 ⊢
  clear hpt hpad
  clear hls hzs hzl hc
  go_enter Tryd.func54, Tryd.ntmps54
  go_wp2_with (first | (go_at_call 59; refine (unveil SZ _).mono ?_; rintro e w' ⟨rfl, rfl⟩) | (go_at_call 58; refine (unveil FU).mono ?_; rintro e w1 ⟨rfl, hb1⟩) | (go_at_call 60; refine (unveil RP _).mono ?_; rintro e w2 ⟨rfl, hb2⟩))
  go_region_held3 (fun _ => True) (exact trivial) (fail)
  all_goals go_wp2_with fail
  go_ret
  exact ⟨rfl, below_nqD (hb1.trans (hb2.mono hb1.size)) _⟩

set_option maxHeartbeats 400000 in
set_option maxRecDepth 100000 in
theorem decimal_spn (v : Int) (hv : inR v) (u : Nat) (hu : absI v = u) (p : Nat) (hp : p ≤ 18) (w : World) (ht : Pows w) (hs : (Lib.decDigits u).length < p + 1) (hp0 : 0 < p) (hneg : v < 0) :
    Calls Tryd.prog 54 #[.int .i64 v, .int .i64 p] w fun e w' => e = .returned (.string ⟨(decS (decide (v < 0)) p (Lib.decDigits u)).toArray⟩) ∧ Below w.heap.size w w' := by
  have hb := absI_bd v hv
  have hu64 : u < 18446744073709551616 := by omega
  have SZ := veil (fun w => sizeOf_any v hv w)
  rw [hu] at SZ
  have FU := veil (fmtUint u hu64 w ht)
  have hl := dd_len u hu64
  generalize Lib.decDigits u = ds at FU hl hs ⊢
  clear hu hb hu64 ht
  have d1 : decide ((ds.length : Int) < (p : Int) + 1) = true := by simp; omega
  have d3 : decide (v < 0) = true := by simp; omega
  have d2 : decide (0 < p) = true := by simp; omega
  obtain ⟨c, hc⟩ : ∃ c : Nat, p + 1 - ds.length = c := ⟨_, rfl⟩
  have hci : (p : Int) + 1 - ds.length = (c : Int) := by omega
  have hc0 : decide (0 < (c : Int)) = true := by simp; omega
  have hc1 : decide (0 < c) = true := by simp; omega
  have RP := veil (fun w => rep48 c (by omega) w)
  obtain ⟨zs, hzs⟩ : ∃ zs, List.replicate c (48 : UInt8) = zs := ⟨_, rfl⟩
  have hzl : zs.length = c := by rw [← hzs]; simp
  rw [hzs] at RP
  have hcat := catS zs ds (by omega)
  obtain ⟨ls, hls⟩ : ∃ ls, zs ++ ds = ls := ⟨_, rfl⟩
  have hll : p + 1 ≤ ls.length := by rw [← hls]; simp; omega
  have hl2 : ls.length ≤ 40 := by rw [← hls]; simp; omega
  rw [hls] at hcat
  have hpad : padTo p ds = ls := by unfold padTo; rw [hc, hzs, hls]
  rw [show decS (decide (v < 0)) p ds = 45 :: pointed p ls by unfold decS; rw [d3, hpad]; rfl]
  have hpt : pointed p ls = ls.take ((ls.length : Int) - p).toNat ++ (46 :: ls.drop ((ls.length : Int) - p).toNat) := by unfold pointed; rw [if_neg (by omega), show ((ls.length : Int) - p).toNat = ls.length - p by omega]
  rw [hpt]
  have s1 := cutH ls ((ls.length : Int) - p) (by omega) (by omega)
  have s2 := cutL ls ((ls.length : Int) - p) (by omega) (by omega)
  have n1 : (ls.take ((ls.length : Int) - p).toNat).length ≤ 40 := by simp; omega
  have n2 : (ls.drop ((ls.length : Int) - p).toNat).length ≤ 40 := by simp; omega
  generalize ls.take ((ls.length : Int) - p).toNat = l1 at s1 hpt n1 ⊢
  generalize ls.drop ((ls.length : Int) - p).toNat = l2 at s2 hpt n2 ⊢
  have r1 := catS l1 [46] (by simp; omega)
  have r2 := catS (l1 ++ [46]) l2 (by simp; omega)
  have n3 : (l1 ++ [46] ++ l2).length ≤ 90 := by simp; omega
  rw [show l1 ++ 46 :: l2 = l1 ++ [46] ++ l2 by simp]
  generalize l1 ++ [46] = l12 at r1 r2 n3 ⊢
  generalize l12 ++ l2 = l3 at r2 n3 ⊢
  have r3 := catS [45] l3 (by simp; omega)
  rw [show [45] ++ l3 = 45 :: l3 from rfl] at r3
  generalize 45 :: l3 = l4 at r3 ⊢
  clear hpt hpad
  clear hls hzs hzl hc
  go_enter Tryd.func54, Tryd.ntmps54
  go_wp2_with (first | (go_at_call 59; refine (unveil SZ _).mono ?_; rintro e w' ⟨rfl, rfl⟩) | (go_at_call 58; refine (unveil FU).mono ?_; rintro e w1 ⟨rfl, hb1⟩) | (go_at_call 60; refine (unveil RP _).mono ?_; rintro e w2 ⟨rfl, hb2⟩))
  go_region_held3 (fun _ => True) (exact trivial) (fail)
  all_goals go_wp2_with fail
  go_ret
  exact ⟨rfl, below_nqD (hb1.trans (hb2.mono hb1.size)) _⟩

theorem decimal_any (v : Int) (hv : inR v) (u : Nat) (hu : absI v = u) (p : Nat) (hp : p ≤ 18) (w : World) (ht : Pows w) :
    Calls Tryd.prog 54 #[.int .i64 v, .int .i64 p] w fun e w' => e = .returned (.string ⟨(decS (decide (v < 0)) p (Lib.decDigits u)).toArray⟩) ∧ Below w.heap.size w w' := by
  by_cases hs : (Lib.decDigits u).length < p + 1
  · by_cases hp0 : p = 0
    · exfalso
      rw [Lib.decDigits_length] at hs
      have h1 : 1 ≤ Lib.nDigits u := by rw [Lib.nDigits]; split <;> omega
      omega
    · by_cases hn : v < 0
      · exact decimal_spn v hv u hu p hp w ht hs (by omega) hn
      · exact decimal_spu v hv u hu p hp w ht hs (by omega) hn
  · by_cases hp0 : p = 0
    · by_cases hn : v < 0
      · exact decimal_lzn v hv u hu p hp w ht hs hp0 hn
      · exact decimal_lzu v hv u hu p hp w ht hs hp0 hn
    · by_cases hn : v < 0
      · exact decimal_lpn v hv u hu p hp w ht hs (by omega) hn
      · exact decimal_lpu v hv u hu p hp w ht hs (by omega) hn

theorem fit_any (p : Int) (w : World) : Calls Tryd.prog 51 #[.int .i64 p] w fun e w' => e = .returned (.bool (decide (0 ≤ p ∧ p ≤ 18))) ∧ w = w' := by
  by_cases h : 0 ≤ p ∧ p ≤ 18
  · rw [decide_eq_true h]
    obtain ⟨h1, h2⟩ := h
    go_enter Tryd.func51, Tryd.ntmps51
    go_wp2
    go_ret
    simp
  · rw [decide_eq_false h]
    by_cases h1 : 0 ≤ p
    · have h2 : ¬ p ≤ 18 := fun h2 => h ⟨h1, h2⟩
      clear h
      go_enter Tryd.func51, Tryd.ntmps51
      go_wp2
      go_ret
      simp
    · clear h
      go_enter Tryd.func51, Tryd.ntmps51
      go_wp2
      go_ret
      simp

end Go.Proofs.YtldplmchgmoopaaDoor

namespace Go.Proofs.YtldplmchgmoopaaDoor
open Go.RowKit
set_option linter.unusedVariables false

/-- The text as it grows, digit by digit. -/
def refS (p : Nat) (ds : List Int) : Nat → List UInt8
  | 0 => []
  | k + 1 => UInt8.ofNat (48 + (ds.getD k 0).toNat) :: ((if k = p ∧ 0 < p then [46] else []) ++ refS p ds k)

/-- The number in its own block, and its digits. -/
structure TBx (w wr : World) (B : Nat) (neg : Bool) (o : Value) (ds : List Int) : Prop where
  bel : Below w.heap.size w wr
  low : w.heap.size ≤ B
  size : B < wr.heap.size
  c0 : wr.cell? ⟨B, 0, none⟩ = some (.bool neg)
  c1 : wr.cell? ⟨B, 1, none⟩ = some o
  dg : Dg wr o ds
theorem TBx.later {w wr wr' : World} {B : Nat} {neg : Bool} {o : Value} {ds : List Int} (h : TBx w wr B neg o ds) (hb : Below wr.heap.size wr wr') : TBx w wr' B neg o ds :=
  ⟨h.bel.trans (hb.mono h.bel.size), h.low, Nat.lt_of_lt_of_le h.size hb.size, by rw [← h.c0]; exact hb.cell h.size, by rw [← h.c1]; exact hb.cell h.size, h.dg.later hb⟩

theorem refS_len (p : Nat) (ds : List Int) (k : Nat) : (refS p ds k).length ≤ 2 * k := by
  induction k with
  | zero => simp [refS]
  | succ k ih => rw [refS]; split <;> simp <;> omega
theorem conv1 (wr : World) (dig : Int) (h : 0 ≤ dig ∧ dig ≤ 9) : (convert 98 9 (.slice (some ⟨wr.heap.size, 0, none⟩) 1 1)).run Tryd.prog (wr.alloc (.cells #[.int .u8 (48 + dig)] 5)) = .ok (.string ⟨[UInt8.ofNat (48 + dig.toNat)].toArray⟩) (wr.alloc (.cells #[.int .u8 (48 + dig)] 5)) := by
  refine run_convert_bytes_back (P := Tryd.prog) _ 98 9 5 ⟨wr.heap.size, 0, none⟩ 1 [UInt8.ofNat (48 + dig.toNat)] (by kernel_rfl) (by kernel_rfl) (by kernel_rfl) (fun j hj => ?_)
  have : j = 0 := by simpa using hj
  subst this
  rw [Lib.add_plain, World.cell?_alloc_new]
  obtain ⟨n, rfl⟩ : ∃ n : Nat, dig = n := ⟨dig.toNat, by omega⟩
  have hn : n ≤ 9 := by omega
  simp
  omega
set_option maxHeartbeats 3200000 in
set_option maxRecDepth 100000 in
theorem refText_in (v : Int) (hv : inR v) (p : Nat) (hp : p ≤ 18) (w : World) :
    Calls Tryd.prog 40 #[.int .i64 v, .int .i64 p] w fun e w' => ∃ ds : List Int, e = .returned (.tuple #[.string ⟨(if decide (v < 0) then 45 :: refS p ds (max ds.length (p + 1)) else refS p ds (max ds.length (p + 1))).toArray⟩, .int .i64 0]) ∧ Below w.heap.size w w' ∧ Digs ds ∧ Norm ds ∧ dval ds = absI v := by
  have F := veil (from_any v hv w)
  have d1 : decide ((p : Int) < 0) = false := by simp
  have d2 : decide (18 < (p : Int)) = false := by simp; omega
  have d3 : decide (18 < p) = false := by simp; omega
  have hbv := absI_bd v hv
  generalize hneg : decide (v < 0) = neg
  go_enter Tryd.func40, Tryd.ntmps40
  go_wp2_with (go_at_call 47; refine (unveil F).mono ?_; rintro e w1 ⟨x, rfl, hb1, hx⟩; obtain ⟨o1, rfl, ds, dd, nn, vd⟩ := hx; obtain ⟨_, _, ao, cap, rfl, _⟩ := id dd; have DD := veil dd; have NN := veil nn; have VD := veil vd; clear dd nn vd; rw [hneg])
  have T0 := veil (show TBx w (w1.alloc (.cells #[.bool neg, .slice ao ds.length cap] 85)) w1.heap.size neg (.slice ao ds.length cap) ds from ⟨hb1.alloc hb1.size _, hb1.size, by simp, by simp [go_sem], by simp [go_sem], (unveil DD).later ((Below.refl _ _).alloc (Nat.le_refl _) _)⟩)
  have hdl : ds.length ≤ 30 := norm_len (unveil DD).1 (unveil NN) (k := 30) (by rw [unveil VD, show ten 30 = 1000000000000000000000000000000 by decide]; omega)
  clear hbv
  go_loopw [7, 8] (fun s i wr => ∃ k : Nat, k ≤ ds.length + p + 1 ∧ (k ≤ ds.length ∨ k ≤ p + 1) ∧ i = .int .i64 k ∧ s = .string ⟨(refS p ds k).toArray⟩ ∧ TBx w wr w1.heap.size neg (.slice ao ds.length cap) ds) (fun s i _ => ds.length + p + 1 - (intOf i).toNat)
  case atStart => exact ⟨0, by omega, by omega, rfl, rfl, unveil T0⟩
  case round =>
    obtain ⟨k, hk, hk2, rfl, rfl, tb⟩ := hrel
    have TB := veil tb
    obtain ⟨_, _, sz, e0, e1, _⟩ := tb
    have AT := veil (at_any (.slice ao ds.length cap) ds k wr (by omega) (unveil TB).dg)
    have hd09 := (unveil DD).1 k
    obtain ⟨dig, hdig⟩ : ∃ dig, ds.getD k 0 = dig := ⟨_, rfl⟩
    rw [hdig] at AT hd09
    have HD := veil hdig
    clear hdig
    have cv := conv1 wr dig hd09
    have HB := veil (show UInt8.ofNat (48 + dig.toNat) = UInt8.ofNat (48 + dig.toNat) from rfl)
    have hrl := refS_len p ds k
    obtain ⟨rs, hrs⟩ : ∃ rs, refS p ds k = rs := ⟨_, rfl⟩
    rw [hrs] at hrl ⊢
    have RS := veil hrs
    clear hrs
    by_cases h1 : k < ds.length ∨ k ≤ p
    · obtain ⟨bb, hbb⟩ : ∃ bb, UInt8.ofNat (48 + dig.toNat) = bb := ⟨_, rfl⟩
      have HBB := veil hbb
      rw [hbb] at cv
      have HD : Hid (UInt8.ofNat (48 + (ds.getD k 0).toNat) = bb) := veil (by rw [unveil HD]; exact hbb)
      clear hbb
      rcases (show (p = k ∧ k < ds.length ∧ 0 < p) ∨ (k < ds.length ∧ ¬ k = p) ∨ (p = k ∧ k < ds.length ∧ ¬ 0 < p) ∨ (p = k ∧ ¬ k < ds.length ∧ 0 < p) ∨ (¬ k < ds.length ∧ k ≤ p ∧ ¬ k = p) ∨ (p = k ∧ ¬ k < ds.length ∧ ¬ 0 < p) by omega) with ⟨rfl, hh⟩ | hh | ⟨rfl, hh⟩ | ⟨rfl, hh⟩ | hh | ⟨rfl, hh⟩
      · skip
        have q1 : decide ((p : Int) < (ds.length : Int)) = true := by simp; omega
        have q1' : decide (p < ds.length) = true := by simp; omega
        have q4 : decide (0 < p) = true := by simp; omega
        have q5 : decide ((0 : Int) < (p : Int)) = true := by simp; omega
        have r0 := catS [46] rs (by simp; omega)
        have r1 := catS [bb] ([46] ++ rs) (by simp; omega)
        have Q := veil (show refS p ds (p + 1) = [bb] ++ ([46] ++ rs) by rw [refS, if_pos ⟨by omega, by omega⟩, unveil RS, unveil HD]; rfl)
        generalize [46] ++ rs = rs1 at r0 r1 Q
        generalize [bb] ++ rs1 = rs2 at r1 Q
        go_wp2_with (go_at_call 49; refine (unveil AT).mono ?_; rintro e w' ⟨rfl, rfl⟩)
        go_roundw
        case rel => exact ⟨p + 1, by omega, by omega, by go_num, by rw [unveil Q], (unveil TB).later ((Below.refl _ _).alloc (Nat.le_refl _) _)⟩
        case measure => simp [intOf]; omega
      · skip
        have q1 : decide ((k : Int) < (ds.length : Int)) = true := by simp; omega
        have q1' : decide (k < ds.length) = true := by simp; omega
        have r1 := catS [bb] rs (by simp; omega)
        have Q := veil (show refS p ds (k + 1) = [bb] ++ rs by rw [refS, if_neg (by omega), unveil RS, unveil HD]; rfl)
        generalize [bb] ++ rs = rs2 at r1 Q
        have q3 : ((k : Int) == (p : Int)) = false := by simp; omega
        have q3' : (k == p) = false := by simp; omega
        go_wp2_with (go_at_call 49; refine (unveil AT).mono ?_; rintro e w' ⟨rfl, rfl⟩)
        go_roundw
        case rel => exact ⟨k + 1, by omega, by omega, by go_num, by rw [unveil Q], (unveil TB).later ((Below.refl _ _).alloc (Nat.le_refl _) _)⟩
        case measure => simp [intOf]; omega
      · skip
        have q1 : decide ((p : Int) < (ds.length : Int)) = true := by simp; omega
        have q1' : decide (p < ds.length) = true := by simp; omega
        have r1 := catS [bb] rs (by simp; omega)
        have Q := veil (show refS p ds (p + 1) = [bb] ++ rs by rw [refS, if_neg (by omega), unveil RS, unveil HD]; rfl)
        generalize [bb] ++ rs = rs2 at r1 Q
        have q4 : decide (0 < p) = false := by simp; omega
        have q5 : decide ((0 : Int) < (p : Int)) = false := by simp; omega
        go_wp2_with (go_at_call 49; refine (unveil AT).mono ?_; rintro e w' ⟨rfl, rfl⟩)
        go_roundw
        case rel => exact ⟨p + 1, by omega, by omega, by go_num, by rw [unveil Q], (unveil TB).later ((Below.refl _ _).alloc (Nat.le_refl _) _)⟩
        case measure => simp [intOf]; omega
      · skip
        have q1 : decide ((p : Int) < (ds.length : Int)) = false := by simp; omega
        have q1' : decide (p < ds.length) = false := by simp; omega
        have q2 : decide ((p : Int) ≤ (p : Int)) = true := by simp
        have q2' : decide (p ≤ p) = true := by simp
        have q4 : decide (0 < p) = true := by simp; omega
        have q5 : decide ((0 : Int) < (p : Int)) = true := by simp; omega
        have r0 := catS [46] rs (by simp; omega)
        have r1 := catS [bb] ([46] ++ rs) (by simp; omega)
        have Q := veil (show refS p ds (p + 1) = [bb] ++ ([46] ++ rs) by rw [refS, if_pos ⟨by omega, by omega⟩, unveil RS, unveil HD]; rfl)
        generalize [46] ++ rs = rs1 at r0 r1 Q
        generalize [bb] ++ rs1 = rs2 at r1 Q
        go_wp2_with (go_at_call 49; refine (unveil AT).mono ?_; rintro e w' ⟨rfl, rfl⟩)
        go_roundw
        case rel => exact ⟨p + 1, by omega, by omega, by go_num, by rw [unveil Q], (unveil TB).later ((Below.refl _ _).alloc (Nat.le_refl _) _)⟩
        case measure => simp [intOf]; omega
      · skip
        have q1 : decide ((k : Int) < (ds.length : Int)) = false := by simp; omega
        have q1' : decide (k < ds.length) = false := by simp; omega
        have q2 : decide ((k : Int) ≤ (p : Int)) = true := by simp; omega
        have q2' : decide (k ≤ p) = true := by simp; omega
        have r1 := catS [bb] rs (by simp; omega)
        have Q := veil (show refS p ds (k + 1) = [bb] ++ rs by rw [refS, if_neg (by omega), unveil RS, unveil HD]; rfl)
        generalize [bb] ++ rs = rs2 at r1 Q
        have q3 : ((k : Int) == (p : Int)) = false := by simp; omega
        have q3' : (k == p) = false := by simp; omega
        go_wp2_with (go_at_call 49; refine (unveil AT).mono ?_; rintro e w' ⟨rfl, rfl⟩)
        go_roundw
        case rel => exact ⟨k + 1, by omega, by omega, by go_num, by rw [unveil Q], (unveil TB).later ((Below.refl _ _).alloc (Nat.le_refl _) _)⟩
        case measure => simp [intOf]; omega
      · skip
        have q1 : decide ((p : Int) < (ds.length : Int)) = false := by simp; omega
        have q1' : decide (p < ds.length) = false := by simp; omega
        have q2 : decide ((p : Int) ≤ (p : Int)) = true := by simp
        have q2' : decide (p ≤ p) = true := by simp
        have r1 := catS [bb] rs (by simp; omega)
        have Q := veil (show refS p ds (p + 1) = [bb] ++ rs by rw [refS, if_neg (by omega), unveil RS, unveil HD]; rfl)
        generalize [bb] ++ rs = rs2 at r1 Q
        have q4 : decide (0 < p) = false := by simp; omega
        have q5 : decide ((0 : Int) < (p : Int)) = false := by simp; omega
        go_wp2_with (go_at_call 49; refine (unveil AT).mono ?_; rintro e w' ⟨rfl, rfl⟩)
        go_roundw
        case rel => exact ⟨p + 1, by omega, by omega, by go_num, by rw [unveil Q], (unveil TB).later ((Below.refl _ _).alloc (Nat.le_refl _) _)⟩
        case measure => simp [intOf]; omega
    · have q1 : decide ((k : Int) < (ds.length : Int)) = false := by simp; omega
      have q1' : decide (k < ds.length) = false := by simp; omega
      have q2 : decide ((k : Int) ≤ (p : Int)) = false := by simp; omega
      have q2' : decide (k ≤ p) = false := by simp; omega
      have hK := veil (show max ds.length (p + 1) = k by omega)
      have r1 := catS [45] rs (by simp; omega)
      have Q := veil (show 45 :: rs = [45] ++ rs from rfl)
      generalize [45] ++ rs = rs2 at r1 Q
      cases neg
      · go_wp2_with fail
        go_ret2
        refine ⟨ds, ?_, (unveil TB).bel, (unveil DD).1, unveil NN, unveil VD⟩
        rw [unveil hK, unveil RS]; rfl
      · go_wp2_with fail
        go_ret2
        refine ⟨ds, ?_, (unveil TB).bel, (unveil DD).1, unveil NN, unveil VD⟩
        rw [unveil hK, unveil RS]
        show _ = Ending.returned (.tuple #[.string ⟨(45 :: rs).toArray⟩, .int .i64 0])
        rw [unveil Q]; rfl

end Go.Proofs.YtldplmchgmoopaaDoor

namespace Go.Proofs.YtldplmchgmoopaaDoor
open Go.RowKit
set_option linter.unusedVariables false

/-- The digit at place i of u. -/
def dgN (u i : Nat) : UInt8 := UInt8.ofNat (48 + u / 10 ^ i % 10)
/-- The k lowest digits of u, the highest first. -/
def digsN (u : Nat) : Nat → List UInt8
  | 0 => []
  | k + 1 => dgN u k :: digsN u k
theorem digsN_len (u k : Nat) : (digsN u k).length = k := by
  induction k with
  | zero => rfl
  | succ k ih => simp [digsN, ih]
theorem digsN_drop (u p q : Nat) : (digsN u (q + p)).drop q = digsN u p := by
  induction q with
  | zero => simp
  | succ q ih => rw [show q + 1 + p = (q + p) + 1 by omega, digsN, List.drop_succ_cons, ih]

theorem dval_pos {ds : List Int} (h : Digs ds) : 0 ≤ dval ds := by
  induction ds with
  | nil => simp [dval]
  | cons d r ih =>
    have h0 := h 0
    have := ih (fun i => by simpa using h (i + 1))
    simp at h0
    rw [dval]; omega
theorem dval_digit (ds : List Int) : ∀ (_ : Digs ds) (u : Nat) (_ : dval ds = u) (i : Nat), ds.getD i 0 = ((u / 10 ^ i % 10 : Nat) : Int) := by
  induction ds with
  | nil =>
    intro _ u hu i
    have : u = 0 := by simp [dval] at hu; omega
    subst this
    simp
  | cons d r ih =>
    intro h u hu i
    have h0 := h 0
    simp at h0
    have hr : Digs r := fun i => by simpa using h (i + 1)
    have hp := dval_pos hr
    obtain ⟨q, hq⟩ : ∃ q : Nat, dval r = q := ⟨(dval r).toNat, by omega⟩
    rw [dval, hq] at hu
    have huq : u / 10 = q := by omega
    cases i with
    | zero => simp; omega
    | succ i =>
      have := ih hr q hq i
      rw [Nat.pow_succ, Nat.mul_comm, ← Nat.div_div_eq_div_mul, huq]
      simpa using this
theorem refS_eq {ds : List Int} (h : Digs ds) {u : Nat} (hu : dval ds = u) (p k : Nat) : refS p ds k = if k ≤ p ∨ p = 0 then digsN u k else (digsN u k).take (k - p) ++ 46 :: digsN u p := by
  induction k with
  | zero => simp [refS, digsN]
  | succ k ih =>
    have hd : UInt8.ofNat (48 + (ds.getD k 0).toNat) = dgN u k := by rw [dval_digit ds h u hu k]; rfl
    rw [refS, ih, hd]
    by_cases h1 : k + 1 ≤ p ∨ p = 0
    · rw [if_pos h1, if_neg (show ¬ (k = p ∧ 0 < p) by omega), if_pos (show k ≤ p ∨ p = 0 by omega)]; rfl
    · rw [if_neg h1]
      by_cases h2 : k = p
      · subst h2
        rw [if_pos ⟨rfl, by omega⟩, if_pos (by omega), show k + 1 - k = 1 by omega]; rfl
      · rw [if_neg (by omega), if_neg (by omega), show k + 1 - p = (k - p) + 1 by omega, digsN, List.take_succ_cons]; rfl
theorem digsN_pad (u n c : Nat) (h : u < 10 ^ n) : digsN u (n + c) = List.replicate c 48 ++ digsN u n := by
  induction c with
  | zero => simp
  | succ c ih =>
    have : dgN u (n + c) = 48 := by
      unfold dgN
      rw [Nat.div_eq_of_lt (Nat.lt_of_lt_of_le h (Nat.pow_le_pow_right (by omega) (by omega)))]
      rfl
    rw [← Nat.add_assoc, digsN, this, ih, List.replicate_succ]; rfl
theorem dec_digsN (u : Nat) : Lib.decDigits u = digsN u (Lib.nDigits u) := by
  rw [Lib.decDigits_eq]
  generalize Lib.nDigits u = n
  induction n with
  | zero => rfl
  | succ n ih =>
    rw [List.range_succ_eq_map, List.map_cons, List.map_map, digsN, ← ih]
    congr 1
    refine List.map_congr_left fun t ht => ?_
    show Lib.dg u (n + 1 - 1 - (t + 1)) = Lib.dg u (n - 1 - t)
    rw [show n + 1 - 1 - (t + 1) = n - 1 - t by omega]
theorem pad_digsN (p u : Nat) : padTo p (Lib.decDigits u) = digsN u (max (Lib.nDigits u) (p + 1)) := by
  unfold padTo
  rw [Lib.decDigits_length, dec_digsN, ← digsN_pad u _ _ (Lib.lt_pow_nDigits u)]
  congr 1
  omega
theorem len_nDigits {ds : List Int} (h : Digs ds) (hn : Norm ds) {u : Nat} (hu : dval ds = u) (p : Nat) : max (Lib.nDigits u) (p + 1) = max ds.length (p + 1) := by
  by_cases h0 : ds.length = 0
  · have : ds = [] := List.eq_nil_of_length_eq_zero h0
    subst this
    have : u = 0 := by simp [dval] at hu; omega
    subst this
    rw [Lib.nDigits_small (by omega), h0]
    omega
  · have l1 := norm_le h hn (by omega)
    have l2 := (dval_bd ds h).2
    obtain ⟨n, hl⟩ : ∃ n, ds.length = n + 1 := ⟨ds.length - 1, by omega⟩
    rw [hl, show n + 1 - 1 = n by omega, hu] at l1
    rw [hl, hu] at l2
    unfold ten at l1 l2
    rw [Lib.nDigits_unique n u (by exact_mod_cast l1) (by exact_mod_cast l2), hl]
theorem texts_one {ds : List Int} (h : Digs ds) (hn : Norm ds) {u : Nat} (hu : dval ds = u) (neg : Bool) (p : Nat) :
    decS neg p (Lib.decDigits u) = if neg then 45 :: refS p ds (max ds.length (p + 1)) else refS p ds (max ds.length (p + 1)) := by
  have e : pointed p (padTo p (Lib.decDigits u)) = refS p ds (max ds.length (p + 1)) := by
    rw [pad_digsN, len_nDigits h hn hu p, refS_eq h hu]
    obtain ⟨q, hq⟩ : ∃ q, max ds.length (p + 1) = q + p := ⟨max ds.length (p + 1) - p, by omega⟩
    rw [hq]
    unfold pointed
    by_cases h0 : p = 0
    · rw [if_pos h0, if_pos (Or.inr h0)]
    · rw [if_neg h0, if_neg (by omega), digsN_len, show q + p - p = q by omega, digsN_drop]
  unfold decS
  rw [e]

end Go.Proofs.YtldplmchgmoopaaDoor

namespace Go.Proofs.YtldplmchgmoopaaDoor
open Go.RowKit
set_option linter.unusedVariables false
set_option linter.unusedSimpArgs false

theorem valid_out {ss : List ByteArray} {rs : List (List Cl)} (h : validE ss rs = 0) : ss.length ≤ 64 ∧ rs.length ≤ 4096 ∧ (∀ s ∈ ss, s.size ≤ 31) ∧ ∀ r ∈ rs, r.length = ss.length := by
  unfold validE at h
  split at h
  · omega
  · rename_i h1
    split at h
    · omega
    · rename_i h2
      split at h
      · omega
      · rename_i h3
        refine ⟨by omega, by omega, fun s hs => ?_, fun r hr => ?_⟩
        · simp only [Bool.or_eq_true, Bool.not_eq_true'] at h3
          have : ss.all nameB = true := by
            cases q : ss.all nameB with
            | true => rfl
            | false => exact absurd (.inl q) h3
          have := List.all_eq_true.1 this s hs
          unfold nameB at this
          simp only [Bool.and_eq_true, decide_eq_true_eq] at this
          exact this.1.2
        · refine Classical.byContradiction fun hc => h1 ?_
          rw [List.any_eq_true]; exact ⟨r, hr, decide_eq_true hc⟩
end Go.Proofs.YtldplmchgmoopaaDoor

namespace Go.Proofs.YtldplmchgmoopaaDoor
open Go.RowKit
set_option linter.unusedVariables false
set_option linter.unusedSimpArgs false

end Go.Proofs.YtldplmchgmoopaaDoor

namespace Go.Proofs.YtldplmchgmoopaaDoor
open Go.RowKit
set_option linter.unusedVariables false
set_option linter.unusedSimpArgs false

/-- The byte at a place; -1 at the end. -/
def bt (s : ByteArray) (i : Nat) : Int := if h : i < s.size then (s[i].toNat : Int) else -1
theorem bt_lt {s : ByteArray} {i : Nat} (h : i < s.size) : bt s i = (s[i].toNat : Int) := by unfold bt; rw [dif_pos h]
theorem bt_end {s : ByteArray} {i : Nat} (h : ¬ i < s.size) : bt s i = -1 := by unfold bt; rw [dif_neg h]
def blB (c : Int) : Bool := c == 32 || c == 9 || c == 13
def wdB (c : Int) : Bool := decide (0 ≤ c) && !(blB c) && c != 35 && c != 10
/-- The reader in block g. -/
structure TR (w : World) (g : Nat) (s : ByteArray) (at_ pl : Nat) (m nm rw : Value) : Prop where
  hb : w.heap[g]? = some (.cells #[.string s, .int .i64 at_, .int .i64 pl, m, nm, rw] 55)
  sz : s.size ≤ 1048576
  le : at_ ≤ s.size
theorem TR.lt {w : World} {g : Nat} {s : ByteArray} {at_ pl : Nat} {m nm rw : Value} (h : TR w g s at_ pl m nm rw) : g < w.heap.size := (Array.getElem?_eq_some_iff.1 h.hb).1
theorem TR.c {w : World} {g : Nat} {s : ByteArray} {at_ pl : Nat} {m nm rw : Value} (h : TR w g s at_ pl m nm rw) :
    w.cell? ⟨g, 0, none⟩ = some (.string s) ∧ w.cell? ⟨g, 1, none⟩ = some (.int .i64 at_) ∧ w.cell? ⟨g, 2, none⟩ = some (.int .i64 pl) ∧ w.cell? ⟨g, 3, none⟩ = some m ∧ w.cell? ⟨g, 4, none⟩ = some nm ∧ w.cell? ⟨g, 5, none⟩ = some rw := by
  refine ⟨?_, ?_, ?_, ?_, ?_, ?_⟩ <;> simp [World.cell?, h.hb]
theorem TR.f {w : World} {g : Nat} {s : ByteArray} {at_ pl : Nat} {m nm rw : Value} (h : TR w g s at_ pl m nm rw) (i : Nat) : w.frozen? ⟨g, i, none⟩ = false := Joins.unfrozen_of_block h.hb i
theorem TR.drewN {w : World} {g : Nat} {s : ByteArray} {at_ pl : Nat} {m nm rw : Value} (h : TR w g s at_ pl m nm rw) (n : Nat) : TR (w.drewN n) g s at_ pl m nm rw := ⟨h.hb, h.sz, h.le⟩
theorem TR.setAt {w : World} {g : Nat} {s : ByteArray} {at_ pl : Nat} {m nm rw : Value} (h : TR w g s at_ pl m nm rw) (k : Nat) (hk : k ≤ s.size) : TR (w.setCell ⟨g, 1, none⟩ (.int .i64 k)) g s k pl m nm rw :=
  ⟨Joins.block_setCell h.hb _, h.sz, hk⟩
theorem TR.setPl {w : World} {g : Nat} {s : ByteArray} {at_ pl : Nat} {m nm rw : Value} (h : TR w g s at_ pl m nm rw) (k : Nat) : TR (w.setCell ⟨g, 2, none⟩ (.int .i64 k)) g s at_ k m nm rw :=
  ⟨Joins.block_setCell h.hb _, h.sz, h.le⟩
/-- At most the block g has turned. -/
def Gr (g : Nat) (w w' : World) : Prop := w.grownBy w' (some g)
theorem Gr.refl (g : Nat) (w : World) : Gr g w w := ⟨rfl, rfl, rfl, Nat.le_refl _, fun _ _ _ => rfl⟩
theorem Gr.trans {g : Nat} {a b c : World} (h : Gr g a b) (k : Gr g b c) : Gr g a c :=
  ⟨k.os.trans h.os, k.tape.trans h.tape, k.output.trans h.output, Nat.le_trans h.size k.size, fun i hi hn => (k.block i (Nat.lt_of_lt_of_le hi h.size) hn).trans (h.block i hi hn)⟩
theorem Gr.drewN {g : Nat} {a b : World} (h : Gr g a b) (n : Nat) : Gr g a (b.drewN n) := ⟨h.os, h.tape, h.output, h.size, h.block⟩
theorem Gr.set {g : Nat} {a b : World} (h : Gr g a b) (o : Nat) (v : Value) : Gr g a (b.setCell ⟨g, o, none⟩ v) := by
  refine h.trans ⟨rfl, rfl, rfl, by simp, fun i hi hn => ?_⟩
  have hp : ¬ g = i := fun e => hn (by rw [e])
  simp [World.setCell, Array.getElem?_modify, hp]
def posT (g : Nat) (w : World) : Nat := match w.cell? ⟨g, 1, none⟩ with | some (.int _ z) => z.toNat | _ => 0
theorem TR.pos {w : World} {g : Nat} {s : ByteArray} {at_ pl : Nat} {m nm rw : Value} (h : TR w g s at_ pl m nm rw) : posT g w = at_ := by unfold posT; rw [h.c.2.1]; simp
theorem isBlank_any (c : Int) (w : World) : Calls Tryd.prog 27 #[.int .u8 c] w fun e w' => e = .returned (.bool (blB c)) ∧ w' = w := by
  by_cases h1 : c = 32
  · subst h1
    go_enter Tryd.func27, Tryd.ntmps27
    go_wp2
    go_ret
    exact ⟨rfl, rfl⟩
  · have e1 : (c == 32) = false := by rw [beq_eq_false_iff_ne]; exact h1
    by_cases h2 : c = 9
    · subst h2
      go_enter Tryd.func27, Tryd.ntmps27
      go_wp2
      go_ret
      exact ⟨rfl, rfl⟩
    · have e2 : (c == 9) = false := by rw [beq_eq_false_iff_ne]; exact h2
      have e : blB c = (c == 13) := by unfold blB; rw [e1, e2]; rfl
      rw [e]
      clear e
      go_enter Tryd.func27, Tryd.ntmps27
      go_wp2
      go_ret
      exact ⟨rfl, rfl⟩
theorem isOfWord_any (c : Int) (h0 : 0 ≤ c) (w : World) : Calls Tryd.prog 29 #[.int .u8 c] w fun e w' => e = .returned (.bool (wdB c)) ∧ w' = w := by
  have K := Lib.hid (isBlank_any c w)
  have e : wdB c = (!(blB c) && c != 35 && c != 10) := by unfold wdB; rw [decide_eq_true h0]; rfl
  rw [e]
  clear e
  cases hb : blB c with
  | true =>
    rw [hb] at K
    go_enter Tryd.func29, Tryd.ntmps29
    go_wp2_with (go_at_call 27; refine K.out.mono ?_; rintro e w1 ⟨rfl, rfl⟩)
    go_ret
    exact ⟨rfl, rfl⟩
  | false =>
    rw [hb] at K
    by_cases h1 : c = 35
    · subst h1
      go_enter Tryd.func29, Tryd.ntmps29
      go_wp2_with (go_at_call 27; refine K.out.mono ?_; rintro e w1 ⟨rfl, rfl⟩)
      go_ret
      exact ⟨rfl, rfl⟩
    · have e1 : (c != 35) = true := by rw [bne_iff_ne]; exact h1
      rw [e1]
      go_enter Tryd.func29, Tryd.ntmps29
      go_wp2_with (go_at_call 27; refine K.out.mono ?_; rintro e w1 ⟨rfl, rfl⟩)
      go_ret
      exact ⟨rfl, rfl⟩
end Go.Proofs.YtldplmchgmoopaaDoor

namespace Go.Proofs.YtldplmchgmoopaaDoor
open Go.RowKit
set_option linter.unusedVariables false

def isD (c : UInt8) : Prop := 48 ≤ c.toNat ∧ c.toNat ≤ 57
theorem ofNat_d {k : Nat} (h : k ≤ 9) : (UInt8.ofNat (48 + k)).toNat = 48 + k := by rw [UInt8.toNat_ofNat']; omega
theorem dec_d (u : Nat) : ∀ c ∈ Lib.decDigits u, isD c := by
  induction u using Nat.strongRecOn with
  | ind u ih =>
    rw [Lib.decDigits]
    split
    · rename_i h
      intro c hc
      rw [List.mem_singleton.1 hc]; unfold isD; rw [ofNat_d (by omega)]; omega
    · intro c hc
      rw [List.mem_append] at hc
      rcases hc with hc | hc
      · exact ih (u / 10) (by omega) c hc
      · rw [List.mem_singleton.1 hc]; unfold isD; rw [ofNat_d (by omega)]; omega
theorem dec_len (k : Nat) : ∀ u, u < 10 ^ (k + 1) → (Lib.decDigits u).length ≤ k + 1 := by
  induction k with
  | zero => intro u h; rw [Lib.decDigits, dif_pos (by simpa using h)]; simp
  | succ k ih =>
    intro u h
    rw [Lib.decDigits]
    split
    · simp
    · have := ih (u / 10) (by rw [Nat.pow_succ] at h; omega)
      simp; omega
theorem pu_append (a b : List UInt8) : ∀ acc, Lib.parseUint10 acc (a ++ b) = match Lib.parseUint10 acc a with | .ok m => Lib.parseUint10 m b | .syntax => .syntax | .range => .range := by
  induction a with
  | nil => intro acc; simp [Lib.parseUint10]
  | cons c r ih =>
    intro acc
    simp only [List.cons_append, Lib.parseUint10]
    split
    · split
      · rfl
      · split
        · rfl
        · exact ih _
    · rfl
theorem pu_zero (k : Nat) (r : List UInt8) : Lib.parseUint10 0 (List.replicate k 48 ++ r) = Lib.parseUint10 0 r := by
  induction k with
  | zero => simp
  | succ k ih =>
    rw [List.replicate_succ, List.cons_append, Lib.parseUint10]
    rw [if_pos (by decide), if_neg (by omega), if_neg (by decide)]
    exact ih
theorem pu_dec (u : Nat) (h : u < 18446744073709551616) : Lib.parseUint10 0 (Lib.decDigits u) = .ok u := by
  induction u using Nat.strongRecOn with
  | ind u ih =>
    rw [Lib.decDigits]
    split
    · rename_i g
      rw [Lib.parseUint10, ofNat_d (by omega), if_pos (by omega), if_neg (by omega), if_neg (by omega), Lib.parseUint10]
      congr 1; omega
    · rename_i g
      rw [pu_append, ih (u / 10) (by omega) (by omega)]
      simp only
      rw [Lib.parseUint10, ofNat_d (by omega), if_pos (by omega), if_neg (by omega), if_neg (by omega), Lib.parseUint10]
      congr 1; omega

/-- Without the byte ahead of the decimals. -/
def wst (p : Nat) (l : List UInt8) : List UInt8 := if p = 0 ∨ l.length < p + 1 then l else l.take (l.length - p - 1) ++ l.drop (l.length - p)
/-- A number's text. -/
def dtx (v : Int) (p : Nat) : List UInt8 := decS (decide (v < 0)) p (Lib.decDigits (absI v).toNat)
def sg (v : Int) : List UInt8 := if v < 0 then [45] else []
theorem dtx_eq (v : Int) (p : Nat) : dtx v p = sg v ++ pointed p (padTo p (Lib.decDigits (absI v).toNat)) := by
  unfold dtx decS sg
  by_cases h : v < 0
  · rw [if_pos (decide_eq_true h), if_pos h]; rfl
  · rw [if_neg (by simp [h]), if_neg h]; rfl
theorem pad_len (p : Nat) (ds : List UInt8) : p + 1 ≤ (padTo p ds).length := by unfold padTo; simp; omega
theorem wst_pointed (p : Nat) (s L : List UInt8) (h : p + 1 ≤ L.length) : wst p (s ++ pointed p L) = s ++ L := by
  unfold wst pointed
  by_cases hp : p = 0
  · rw [if_pos hp, if_pos (.inl hp)]
  · rw [if_neg hp]
    have len : (s ++ (L.take (L.length - p) ++ 46 :: L.drop (L.length - p))).length = s.length + L.length + 1 := by simp; omega
    rw [if_neg (by rw [len]; omega), len]
    have n : s.length + L.length + 1 - p - 1 = (s ++ L.take (L.length - p)).length := by simp; omega
    have m : s.length + L.length + 1 - p = ((s ++ L.take (L.length - p)) ++ [46]).length := by simp; omega
    have e1 : s ++ (L.take (L.length - p) ++ 46 :: L.drop (L.length - p)) = (s ++ L.take (L.length - p)) ++ (46 :: L.drop (L.length - p)) := by simp
    have e2 : s ++ (L.take (L.length - p) ++ 46 :: L.drop (L.length - p)) = ((s ++ L.take (L.length - p)) ++ [46]) ++ L.drop (L.length - p) := by simp
    rw [n, m]
    rw [show List.take (s ++ L.take (L.length - p)).length (s ++ (L.take (L.length - p) ++ 46 :: L.drop (L.length - p))) = s ++ L.take (L.length - p) by rw [e1, List.take_left]]
    rw [e2, List.drop_left, List.append_assoc, List.take_append_drop]
theorem pad_d (p : Nat) (u : Nat) : ∀ c ∈ padTo p (Lib.decDigits u), isD c := by
  intro c hc
  unfold padTo at hc
  rw [List.mem_append] at hc
  rcases hc with hc | hc
  · rw [(List.mem_replicate.1 hc).2]; exact ⟨by decide, by decide⟩
  · exact dec_d u c hc
theorem pu_pad (p u : Nat) (h : u < 18446744073709551616) : Lib.parseMag (padTo p (Lib.decDigits u)) = .ok u := by
  unfold Lib.parseMag
  rw [if_neg (by intro e; have := pad_len p (Lib.decDigits u); rw [e] at this; simp at this)]
  unfold padTo
  rw [pu_zero, pu_dec u h]
/-- A text without its stop is read as its number. -/
theorem atoi_back (v : Int) (hv : inR v) (p : Nat) : Lib.atoiAll (wst p (dtx v p)) = .ok v := by
  obtain ⟨b1, b2⟩ := absI_bd v hv
  obtain ⟨u, hu⟩ : ∃ u : Nat, absI v = u := ⟨(absI v).toNat, by omega⟩
  rw [dtx_eq, wst_pointed _ _ _ (pad_len _ _), hu, Int.toNat_natCast]
  have pm := pu_pad p u (by omega)
  by_cases h : v < 0
  · have e : v = -(u : Int) := by rw [absI_neg h] at hu; omega
    unfold sg; rw [if_pos h]
    simp only [List.cons_append, List.nil_append, Lib.atoiAll]
    rw [if_pos (by decide), pm]
    simp only
    rw [if_neg (by simp), if_neg (by omega), if_pos (by decide), e]
  · have e : v = (u : Int) := by rw [absI_pos h] at hu; omega
    unfold sg; rw [if_neg h, List.nil_append]
    obtain ⟨c, r, hL⟩ : ∃ c r, padTo p (Lib.decDigits u) = c :: r := by
      cases hq : padTo p (Lib.decDigits u) with
      | nil => have := pad_len p (Lib.decDigits u); rw [hq] at this; simp at this
      | cons c r => exact ⟨c, r, rfl⟩
    have hc := pad_d p u c (by rw [hL]; simp)
    unfold isD at hc
    rw [hL] at pm ⊢
    simp only [Lib.atoiAll]
    rw [if_neg (by omega), pm]
    simp only
    unfold inR at hv
    rw [if_neg (by omega), if_neg (by omega), if_neg (by omega), e]

theorem dtx_len (v : Int) (hv : inR v) (p : Nat) (hp : p ≤ 18) : (dtx v p).length ≤ 21 := by
  obtain ⟨b1, b2⟩ := absI_bd v hv
  have dl := dec_len 18 (absI v).toNat (by have : (10 : Nat) ^ 19 = 10000000000000000000 := by decide
                                           omega)
  rw [dtx_eq]
  have pl : (padTo p (Lib.decDigits (absI v).toNat)).length ≤ 19 := by unfold padTo; simp; omega
  have ql : (pointed p (padTo p (Lib.decDigits (absI v).toNat))).length ≤ 20 := by
    unfold pointed; split
    · omega
    · simp; omega
  have sl : (sg v).length ≤ 1 := by unfold sg; split <;> simp
  simp; omega
theorem wst_len (p : Nat) (l : List UInt8) : (wst p l).length ≤ l.length := by
  unfold wst; split
  · omega
  · simp; omega
/-- What Parse reads. -/
def prs (p : Nat) (l : List UInt8) : Option Int := match Lib.atoiAll (wst p l) with | .ok v => if dtx v p = l then some v else none | _ => none
theorem prs_back (v : Int) (hv : inR v) (p : Nat) : prs p (dtx v p) = some v := by unfold prs; rw [atoi_back v hv p]; simp
theorem prs_some {p : Nat} {l : List UInt8} {v : Int} (h : prs p l = some v) : dtx v p = l ∧ Lib.atoiAll (wst p l) = .ok v := by
  unfold prs at h
  split at h
  · rename_i v' hv'
    split at h
    · rename_i e; cases h; exact ⟨e, hv'⟩
    · cases h
  · cases h
end Go.Proofs.YtldplmchgmoopaaDoor
