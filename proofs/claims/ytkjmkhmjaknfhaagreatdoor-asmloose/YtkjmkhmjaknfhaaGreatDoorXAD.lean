import Derived.Test.YtkjmkhmjaknfhaaGreatDoorXAB
import Derived.Test.YtkjmkhmjaknfhaaGreatDoorXAC
import Derived.Deep.RegionHeld3
namespace Go.Proofs.YtkjmkhmjaknfhaaGreatDoor
open Go.RowKit
set_option linter.unusedVariables false

/-- At least one digit ahead of the decimals. -/
def padTo (p : Nat) (ds : List UInt8) : List UInt8 := List.replicate (p + 1 - ds.length) 48 ++ ds
/-- The full stop ahead of the last p digits. -/
def pointed (p : Nat) (ls : List UInt8) : List UInt8 := if p = 0 then ls else ls.take (ls.length - p) ++ 46 :: ls.drop (ls.length - p)
/-- The text of a number with the digits ds. -/
def decS (neg : Bool) (p : Nat) (ds : List UInt8) : List UInt8 := if neg then 45 :: pointed p (padTo p ds) else pointed p (padTo p ds)

theorem ba_append (a b : List UInt8) : (⟨a.toArray⟩ : ByteArray) ++ ⟨b.toArray⟩ = ⟨(a ++ b).toArray⟩ := by
  apply ByteArray.ext
  rw [ByteArray.data_append]
  simp
theorem ba_take (l : List UInt8) (k : Nat) (hk : k ≤ l.length) : (⟨l.toArray⟩ : ByteArray).extract 0 k = ⟨(l.take k).toArray⟩ := by
  apply ByteArray.ext
  rw [ByteArray.data_extract]
  simp
theorem ba_drop (l : List UInt8) (k n : Nat) (hn : n = l.length) : (⟨l.toArray⟩ : ByteArray).extract k n = ⟨(l.drop k).toArray⟩ := by
  subst hn
  apply ByteArray.ext
  rw [ByteArray.data_extract]
  simp
  exact List.take_of_length_le (by simp)
theorem cutH (l : List UInt8) (k : Int) (h0 : 0 ≤ k) (hk : k ≤ l.length) (W : World) : (Instr.slice 9 (.string ⟨l.toArray⟩) none (some (.int .i64 k)) none).run Tryz.prog W = .ok (.string ⟨(l.take k.toNat).toArray⟩) W := by
  rw [run_slice_string_h W 9 _ (by kernel_rfl) .i64 k h0 (by simpa [ByteArray.size] using hk), ba_take _ _ (by omega)]
theorem cutL (l : List UInt8) (k : Int) (h0 : 0 ≤ k) (hk : k ≤ l.length) (W : World) : (Instr.slice 9 (.string ⟨l.toArray⟩) (some (.int .i64 k)) none none).run Tryz.prog W = .ok (.string ⟨(l.drop k.toNat).toArray⟩) W := by
  rw [run_slice_string_l W 9 _ (by kernel_rfl) .i64 k h0 (by simpa [ByteArray.size] using hk), ba_drop _ _ _ (by simp [ByteArray.size])]
theorem rep48 (c : Nat) (hc : c ≤ 100) (w : World) : Calls Tryz.prog 130 #[.string ⟨#[48]⟩, .int .i64 (c : Int)] w fun e w' => e = .returned (.string ⟨(List.replicate c (48 : UInt8)).toArray⟩) ∧ Below w.heap.size w w' := by
  refine (Tryz.strings_Repeat ⟨#[48]⟩ c w (by omega) (by simp [ByteArray.size]; omega)).mono ?_
  rintro e w' ⟨rfl, hb⟩
  refine ⟨?_, hb⟩
  have : ∀ c, Lib.repeatL [(48 : UInt8)] c = List.replicate c 48 := fun c => by
    induction c with
    | zero => rfl
    | succ c ih => rw [Lib.repeatL, ih]; rfl
  rw [show (⟨#[48]⟩ : ByteArray).data.toList = [48] from rfl, this]
theorem catS (a b : List UInt8) (h : a.length + b.length ≤ 1000) (W : World) : (Op.stringOp .add ⟨a.toArray⟩ ⟨b.toArray⟩).run Tryz.prog W = .ok (.string ⟨(a ++ b).toArray⟩) W := by
  rw [← ba_append]
  have h1 : ((⟨a.toArray⟩ : ByteArray).size : Int) ≤ 8388608 := by simp [ByteArray.size]; omega
  have h2 : ((⟨b.toArray⟩ : ByteArray).size : Int) ≤ 8388608 := by simp [ByteArray.size]; omega
  exact run_string_add W _ _ h1 h2
theorem below_nqD {B : Nat} {a w : World} (h : Below B a w) (n : Nat) : Below B a (w.drewN n) := ⟨h.os, h.tape, h.output, h.size, h.block⟩
theorem dd_len (u : Nat) (hu : u < 18446744073709551616) : (Lib.decDigits u).length ≤ 20 := by
  rw [Lib.decDigits_length]
  by_cases h1 : 1 ≤ u
  · exact nDigits_le u h1 hu
  · have : u = 0 := by omega
    subst this
    rw [Lib.nDigits_small (by omega)]
    omega


set_option maxHeartbeats 400000 in
set_option maxRecDepth 100000 in
theorem decimal_lzu (v : Int) (hv : inR v) (u : Nat) (hu : absI v = u) (p : Nat) (hp : p ≤ 18) (w : World) (ht : Pows w) (hs : ¬ (Lib.decDigits u).length < p + 1) (hp0 : p = 0) (hneg : ¬ v < 0) :
    Calls Tryz.prog 113 #[.int .i64 v, .int .i64 p] w fun e w' => e = .returned (.string ⟨(decS (decide (v < 0)) p (Lib.decDigits u)).toArray⟩) ∧ Below w.heap.size w w' := by
  have hb := absI_bd v hv
  have hu64 : u < 18446744073709551616 := by omega
  have SZ := veil (fun w => sizeOf_any v hv w)
  rw [hu] at SZ
  have FU := veil (fmtUint u hu64 w ht)
  have hl := dd_len u hu64
  generalize Lib.decDigits u = ds at FU hl hs ⊢
  clear hu hb hu64 ht
  have d1 : decide ((ds.length : Int) < (p : Int) + 1) = false := by simp; omega
  have d3 : decide (v < 0) = false := by simp; omega
  obtain ⟨ls, hls⟩ : ∃ ls, ds = ls := ⟨_, rfl⟩
  have hpad : padTo p ds = ls := by unfold padTo; rw [show p + 1 - ds.length = 0 by omega]; simpa using hls
  have hll : p + 1 ≤ ls.length := by rw [← hls]; omega
  have hl2 : ls.length ≤ 40 := by rw [← hls]; omega
  rw [show decS (decide (v < 0)) p ds = pointed p ls by unfold decS; rw [d3, hpad]; rfl]
  have hpt : pointed p ls = ls := by unfold pointed; rw [if_pos hp0]
  rw [hpt]
  subst hp0
  clear hpt hpad
  subst hls
  go_enter Tryz.func113, Tryz.ntmps113
  go_wp2_with (first | (go_at_call 129; refine (unveil SZ _).mono ?_; rintro e w' ⟨rfl, rfl⟩) | (go_at_call 128; refine (unveil FU).mono ?_; rintro e w1 ⟨rfl, hb1⟩) | (go_at_call 130; refine (unveil RP _).mono ?_; rintro e w2 ⟨rfl, hb2⟩))
  go_ret
  exact ⟨rfl, hb1⟩

set_option maxHeartbeats 400000 in
set_option maxRecDepth 100000 in
theorem decimal_lzn (v : Int) (hv : inR v) (u : Nat) (hu : absI v = u) (p : Nat) (hp : p ≤ 18) (w : World) (ht : Pows w) (hs : ¬ (Lib.decDigits u).length < p + 1) (hp0 : p = 0) (hneg : v < 0) :
    Calls Tryz.prog 113 #[.int .i64 v, .int .i64 p] w fun e w' => e = .returned (.string ⟨(decS (decide (v < 0)) p (Lib.decDigits u)).toArray⟩) ∧ Below w.heap.size w w' := by
  have hb := absI_bd v hv
  have hu64 : u < 18446744073709551616 := by omega
  have SZ := veil (fun w => sizeOf_any v hv w)
  rw [hu] at SZ
  have FU := veil (fmtUint u hu64 w ht)
  have hl := dd_len u hu64
  generalize Lib.decDigits u = ds at FU hl hs ⊢
  clear hu hb hu64 ht
  have d1 : decide ((ds.length : Int) < (p : Int) + 1) = false := by simp; omega
  have d3 : decide (v < 0) = true := by simp; omega
  obtain ⟨ls, hls⟩ : ∃ ls, ds = ls := ⟨_, rfl⟩
  have hpad : padTo p ds = ls := by unfold padTo; rw [show p + 1 - ds.length = 0 by omega]; simpa using hls
  have hll : p + 1 ≤ ls.length := by rw [← hls]; omega
  have hl2 : ls.length ≤ 40 := by rw [← hls]; omega
  rw [show decS (decide (v < 0)) p ds = 45 :: pointed p ls by unfold decS; rw [d3, hpad]; rfl]
  have hpt : pointed p ls = ls := by unfold pointed; rw [if_pos hp0]
  rw [hpt]
  subst hp0
  have r3 := catS [45] ls (by simp; omega)
  rw [show [45] ++ ls = 45 :: ls from rfl] at r3
  generalize 45 :: ls = l4 at r3 ⊢
  clear hpt hpad
  subst hls
  go_enter Tryz.func113, Tryz.ntmps113
  go_wp2_with (first | (go_at_call 129; refine (unveil SZ _).mono ?_; rintro e w' ⟨rfl, rfl⟩) | (go_at_call 128; refine (unveil FU).mono ?_; rintro e w1 ⟨rfl, hb1⟩) | (go_at_call 130; refine (unveil RP _).mono ?_; rintro e w2 ⟨rfl, hb2⟩))
  go_ret
  exact ⟨rfl, hb1⟩

set_option maxHeartbeats 400000 in
set_option maxRecDepth 100000 in
theorem decimal_lpu (v : Int) (hv : inR v) (u : Nat) (hu : absI v = u) (p : Nat) (hp : p ≤ 18) (w : World) (ht : Pows w) (hs : ¬ (Lib.decDigits u).length < p + 1) (hp0 : 0 < p) (hneg : ¬ v < 0) :
    Calls Tryz.prog 113 #[.int .i64 v, .int .i64 p] w fun e w' => e = .returned (.string ⟨(decS (decide (v < 0)) p (Lib.decDigits u)).toArray⟩) ∧ Below w.heap.size w w' := by
  have hb := absI_bd v hv
  have hu64 : u < 18446744073709551616 := by omega
  have SZ := veil (fun w => sizeOf_any v hv w)
  rw [hu] at SZ
  have FU := veil (fmtUint u hu64 w ht)
  have hl := dd_len u hu64
  generalize Lib.decDigits u = ds at FU hl hs ⊢
  clear hu hb hu64 ht
  have d1 : decide ((ds.length : Int) < (p : Int) + 1) = false := by simp; omega
  have d3 : decide (v < 0) = false := by simp; omega
  have d2 : decide (0 < p) = true := by simp; omega
  obtain ⟨ls, hls⟩ : ∃ ls, ds = ls := ⟨_, rfl⟩
  have hpad : padTo p ds = ls := by unfold padTo; rw [show p + 1 - ds.length = 0 by omega]; simpa using hls
  have hll : p + 1 ≤ ls.length := by rw [← hls]; omega
  have hl2 : ls.length ≤ 40 := by rw [← hls]; omega
  rw [show decS (decide (v < 0)) p ds = pointed p ls by unfold decS; rw [d3, hpad]; rfl]
  have hpt : pointed p ls = ls.take ((ls.length : Int) - p).toNat ++ (46 :: ls.drop ((ls.length : Int) - p).toNat) := by unfold pointed; rw [if_neg (by omega), show ((ls.length : Int) - p).toNat = ls.length - p by omega]
  rw [hpt]
  have s1 := cutH ls ((ls.length : Int) - p) (by omega) (by omega)
  have s2 := cutL ls ((ls.length : Int) - p) (by omega) (by omega)
  have n1 : (ls.take ((ls.length : Int) - p).toNat).length ≤ 40 := by simp; omega
  have n2 : (ls.drop ((ls.length : Int) - p).toNat).length ≤ 40 := by simp; omega
  generalize ls.take ((ls.length : Int) - p).toNat = l1 at s1 hpt n1 ⊢
  generalize ls.drop ((ls.length : Int) - p).toNat = l2 at s2 hpt n2 ⊢
  have r1 := catS l1 [46] (by simp; omega)
  have r2 := catS (l1 ++ [46]) l2 (by simp; omega)
  have n3 : (l1 ++ [46] ++ l2).length ≤ 90 := by simp; omega
  rw [show l1 ++ 46 :: l2 = l1 ++ [46] ++ l2 by simp]
  generalize l1 ++ [46] = l12 at r1 r2 n3 ⊢
  generalize l12 ++ l2 = l3 at r2 n3 ⊢
  clear hpt hpad
  subst hls
  go_enter Tryz.func113, Tryz.ntmps113
  go_wp2_with (first | (go_at_call 129; refine (unveil SZ _).mono ?_; rintro e w' ⟨rfl, rfl⟩) | (go_at_call 128; refine (unveil FU).mono ?_; rintro e w1 ⟨rfl, hb1⟩) | (go_at_call 130; refine (unveil RP _).mono ?_; rintro e w2 ⟨rfl, hb2⟩))
  go_region_held3 (fun _ => True) (exact trivial) (fail)
  all_goals go_wp2_with fail
  go_ret
  exact ⟨rfl, below_nqD hb1 _⟩

set_option maxHeartbeats 400000 in
set_option maxRecDepth 100000 in
theorem decimal_lpn (v : Int) (hv : inR v) (u : Nat) (hu : absI v = u) (p : Nat) (hp : p ≤ 18) (w : World) (ht : Pows w) (hs : ¬ (Lib.decDigits u).length < p + 1) (hp0 : 0 < p) (hneg : v < 0) :
    Calls Tryz.prog 113 #[.int .i64 v, .int .i64 p] w fun e w' => e = .returned (.string ⟨(decS (decide (v < 0)) p (Lib.decDigits u)).toArray⟩) ∧ Below w.heap.size w w' := by
  have hb := absI_bd v hv
  have hu64 : u < 18446744073709551616 := by omega
  have SZ := veil (fun w => sizeOf_any v hv w)
  rw [hu] at SZ
  have FU := veil (fmtUint u hu64 w ht)
  have hl := dd_len u hu64
  generalize Lib.decDigits u = ds at FU hl hs ⊢
  clear hu hb hu64 ht
  have d1 : decide ((ds.length : Int) < (p : Int) + 1) = false := by simp; omega
  have d3 : decide (v < 0) = true := by simp; omega
  have d2 : decide (0 < p) = true := by simp; omega
  obtain ⟨ls, hls⟩ : ∃ ls, ds = ls := ⟨_, rfl⟩
  have hpad : padTo p ds = ls := by unfold padTo; rw [show p + 1 - ds.length = 0 by omega]; simpa using hls
  have hll : p + 1 ≤ ls.length := by rw [← hls]; omega
  have hl2 : ls.length ≤ 40 := by rw [← hls]; omega
  rw [show decS (decide (v < 0)) p ds = 45 :: pointed p ls by unfold decS; rw [d3, hpad]; rfl]
  have hpt : pointed p ls = ls.take ((ls.length : Int) - p).toNat ++ (46 :: ls.drop ((ls.length : Int) - p).toNat) := by unfold pointed; rw [if_neg (by omega), show ((ls.length : Int) - p).toNat = ls.length - p by omega]
  rw [hpt]
  have s1 := cutH ls ((ls.length : Int) - p) (by omega) (by omega)
  have s2 := cutL ls ((ls.length : Int) - p) (by omega) (by omega)
  have n1 : (ls.take ((ls.length : Int) - p).toNat).length ≤ 40 := by simp; omega
  have n2 : (ls.drop ((ls.length : Int) - p).toNat).length ≤ 40 := by simp; omega
  generalize ls.take ((ls.length : Int) - p).toNat = l1 at s1 hpt n1 ⊢
  generalize ls.drop ((ls.length : Int) - p).toNat = l2 at s2 hpt n2 ⊢
  have r1 := catS l1 [46] (by simp; omega)
  have r2 := catS (l1 ++ [46]) l2 (by simp; omega)
  have n3 : (l1 ++ [46] ++ l2).length ≤ 90 := by simp; omega
  rw [show l1 ++ 46 :: l2 = l1 ++ [46] ++ l2 by simp]
  generalize l1 ++ [46] = l12 at r1 r2 n3 ⊢
  generalize l12 ++ l2 = l3 at r2 n3 ⊢
  have r3 := catS [45] l3 (by simp; omega)
  rw [show [45] ++ l3 = 45 :: l3 from rfl] at r3
  generalize 45 :: l3 = l4 at r3 ⊢
  clear hpt hpad
  subst hls
  go_enter Tryz.func113, Tryz.ntmps113
  go_wp2_with (first | (go_at_call 129; refine (unveil SZ _).mono ?_; rintro e w' ⟨rfl, rfl⟩) | (go_at_call 128; refine (unveil FU).mono ?_; rintro e w1 ⟨rfl, hb1⟩) | (go_at_call 130; refine (unveil RP _).mono ?_; rintro e w2 ⟨rfl, hb2⟩))
  go_region_held3 (fun _ => True) (exact trivial) (fail)
  all_goals go_wp2_with fail
  go_ret
  exact ⟨rfl, below_nqD hb1 _⟩

set_option maxHeartbeats 400000 in
set_option maxRecDepth 100000 in
theorem decimal_spu (v : Int) (hv : inR v) (u : Nat) (hu : absI v = u) (p : Nat) (hp : p ≤ 18) (w : World) (ht : Pows w) (hs : (Lib.decDigits u).length < p + 1) (hp0 : 0 < p) (hneg : ¬ v < 0) :
    Calls Tryz.prog 113 #[.int .i64 v, .int .i64 p] w fun e w' => e = .returned (.string ⟨(decS (decide (v < 0)) p (Lib.decDigits u)).toArray⟩) ∧ Below w.heap.size w w' := by
  have hb := absI_bd v hv
  have hu64 : u < 18446744073709551616 := by omega
  have SZ := veil (fun w => sizeOf_any v hv w)
  rw [hu] at SZ
  have FU := veil (fmtUint u hu64 w ht)
  have hl := dd_len u hu64
  generalize Lib.decDigits u = ds at FU hl hs ⊢
  clear hu hb hu64 ht
  have d1 : decide ((ds.length : Int) < (p : Int) + 1) = true := by simp; omega
  have d3 : decide (v < 0) = false := by simp; omega
  have d2 : decide (0 < p) = true := by simp; omega
  obtain ⟨c, hc⟩ : ∃ c : Nat, p + 1 - ds.length = c := ⟨_, rfl⟩
  have hci : (p : Int) + 1 - ds.length = (c : Int) := by omega
  have hc0 : decide (0 < (c : Int)) = true := by simp; omega
  have hc1 : decide (0 < c) = true := by simp; omega
  have RP := veil (fun w => rep48 c (by omega) w)
  obtain ⟨zs, hzs⟩ : ∃ zs, List.replicate c (48 : UInt8) = zs := ⟨_, rfl⟩
  have hzl : zs.length = c := by rw [← hzs]; simp
  rw [hzs] at RP
  have hcat := catS zs ds (by omega)
  obtain ⟨ls, hls⟩ : ∃ ls, zs ++ ds = ls := ⟨_, rfl⟩
  have hll : p + 1 ≤ ls.length := by rw [← hls]; simp; omega
  have hl2 : ls.length ≤ 40 := by rw [← hls]; simp; omega
  rw [hls] at hcat
  have hpad : padTo p ds = ls := by unfold padTo; rw [hc, hzs, hls]
  rw [show decS (decide (v < 0)) p ds = pointed p ls by unfold decS; rw [d3, hpad]; rfl]
  have hpt : pointed p ls = ls.take ((ls.length : Int) - p).toNat ++ (46 :: ls.drop ((ls.length : Int) - p).toNat) := by unfold pointed; rw [if_neg (by omega), show ((ls.length : Int) - p).toNat = ls.length - p by omega]
  rw [hpt]
  have s1 := cutH ls ((ls.length : Int) - p) (by omega) (by omega)
  have s2 := cutL ls ((ls.length : Int) - p) (by omega) (by omega)
  have n1 : (ls.take ((ls.length : Int) - p).toNat).length ≤ 40 := by simp; omega
  have n2 : (ls.drop ((ls.length : Int) - p).toNat).length ≤ 40 := by simp; omega
  generalize ls.take ((ls.length : Int) - p).toNat = l1 at s1 hpt n1 ⊢
  generalize ls.drop ((ls.length : Int) - p).toNat = l2 at s2 hpt n2 ⊢
  have r1 := catS l1 [46] (by simp; omega)
  have r2 := catS (l1 ++ [46]) l2 (by simp; omega)
  have n3 : (l1 ++ [46] ++ l2).length ≤ 90 := by simp; omega
  rw [show l1 ++ 46 :: l2 = l1 ++ [46] ++ l2 by simp]
  generalize l1 ++ [46] = l12 at r1 r2 n3 ⊢
  generalize l12 ++ l2 = l3 at r2 n3 ⊢
  clear hpt hpad
  clear hls hzs hzl hc
  go_enter Tryz.func113, Tryz.ntmps113
  go_wp2_with (first | (go_at_call 129; refine (unveil SZ _).mono ?_; rintro e w' ⟨rfl, rfl⟩) | (go_at_call 128; refine (unveil FU).mono ?_; rintro e w1 ⟨rfl, hb1⟩) | (go_at_call 130; refine (unveil RP _).mono ?_; rintro e w2 ⟨rfl, hb2⟩))
  go_region_held3 (fun _ => True) (exact trivial) (fail)
  all_goals go_wp2_with fail
  go_ret
  exact ⟨rfl, below_nqD (hb1.trans (hb2.mono hb1.size)) _⟩

set_option maxHeartbeats 400000 in
set_option maxRecDepth 100000 in
theorem decimal_spn (v : Int) (hv : inR v) (u : Nat) (hu : absI v = u) (p : Nat) (hp : p ≤ 18) (w : World) (ht : Pows w) (hs : (Lib.decDigits u).length < p + 1) (hp0 : 0 < p) (hneg : v < 0) :
    Calls Tryz.prog 113 #[.int .i64 v, .int .i64 p] w fun e w' => e = .returned (.string ⟨(decS (decide (v < 0)) p (Lib.decDigits u)).toArray⟩) ∧ Below w.heap.size w w' := by
  have hb := absI_bd v hv
  have hu64 : u < 18446744073709551616 := by omega
  have SZ := veil (fun w => sizeOf_any v hv w)
  rw [hu] at SZ
  have FU := veil (fmtUint u hu64 w ht)
  have hl := dd_len u hu64
  generalize Lib.decDigits u = ds at FU hl hs ⊢
  clear hu hb hu64 ht
  have d1 : decide ((ds.length : Int) < (p : Int) + 1) = true := by simp; omega
  have d3 : decide (v < 0) = true := by simp; omega
  have d2 : decide (0 < p) = true := by simp; omega
  obtain ⟨c, hc⟩ : ∃ c : Nat, p + 1 - ds.length = c := ⟨_, rfl⟩
  have hci : (p : Int) + 1 - ds.length = (c : Int) := by omega
  have hc0 : decide (0 < (c : Int)) = true := by simp; omega
  have hc1 : decide (0 < c) = true := by simp; omega
  have RP := veil (fun w => rep48 c (by omega) w)
  obtain ⟨zs, hzs⟩ : ∃ zs, List.replicate c (48 : UInt8) = zs := ⟨_, rfl⟩
  have hzl : zs.length = c := by rw [← hzs]; simp
  rw [hzs] at RP
  have hcat := catS zs ds (by omega)
  obtain ⟨ls, hls⟩ : ∃ ls, zs ++ ds = ls := ⟨_, rfl⟩
  have hll : p + 1 ≤ ls.length := by rw [← hls]; simp; omega
  have hl2 : ls.length ≤ 40 := by rw [← hls]; simp; omega
  rw [hls] at hcat
  have hpad : padTo p ds = ls := by unfold padTo; rw [hc, hzs, hls]
  rw [show decS (decide (v < 0)) p ds = 45 :: pointed p ls by unfold decS; rw [d3, hpad]; rfl]
  have hpt : pointed p ls = ls.take ((ls.length : Int) - p).toNat ++ (46 :: ls.drop ((ls.length : Int) - p).toNat) := by unfold pointed; rw [if_neg (by omega), show ((ls.length : Int) - p).toNat = ls.length - p by omega]
  rw [hpt]
  have s1 := cutH ls ((ls.length : Int) - p) (by omega) (by omega)
  have s2 := cutL ls ((ls.length : Int) - p) (by omega) (by omega)
  have n1 : (ls.take ((ls.length : Int) - p).toNat).length ≤ 40 := by simp; omega
  have n2 : (ls.drop ((ls.length : Int) - p).toNat).length ≤ 40 := by simp; omega
  generalize ls.take ((ls.length : Int) - p).toNat = l1 at s1 hpt n1 ⊢
  generalize ls.drop ((ls.length : Int) - p).toNat = l2 at s2 hpt n2 ⊢
  have r1 := catS l1 [46] (by simp; omega)
  have r2 := catS (l1 ++ [46]) l2 (by simp; omega)
  have n3 : (l1 ++ [46] ++ l2).length ≤ 90 := by simp; omega
  rw [show l1 ++ 46 :: l2 = l1 ++ [46] ++ l2 by simp]
  generalize l1 ++ [46] = l12 at r1 r2 n3 ⊢
  generalize l12 ++ l2 = l3 at r2 n3 ⊢
  have r3 := catS [45] l3 (by simp; omega)
  rw [show [45] ++ l3 = 45 :: l3 from rfl] at r3
  generalize 45 :: l3 = l4 at r3 ⊢
  clear hpt hpad
  clear hls hzs hzl hc
  go_enter Tryz.func113, Tryz.ntmps113
  go_wp2_with (first | (go_at_call 129; refine (unveil SZ _).mono ?_; rintro e w' ⟨rfl, rfl⟩) | (go_at_call 128; refine (unveil FU).mono ?_; rintro e w1 ⟨rfl, hb1⟩) | (go_at_call 130; refine (unveil RP _).mono ?_; rintro e w2 ⟨rfl, hb2⟩))
  go_region_held3 (fun _ => True) (exact trivial) (fail)
  all_goals go_wp2_with fail
  go_ret
  exact ⟨rfl, below_nqD (hb1.trans (hb2.mono hb1.size)) _⟩

theorem decimal_any (v : Int) (hv : inR v) (u : Nat) (hu : absI v = u) (p : Nat) (hp : p ≤ 18) (w : World) (ht : Pows w) :
    Calls Tryz.prog 113 #[.int .i64 v, .int .i64 p] w fun e w' => e = .returned (.string ⟨(decS (decide (v < 0)) p (Lib.decDigits u)).toArray⟩) ∧ Below w.heap.size w w' := by
  by_cases hs : (Lib.decDigits u).length < p + 1
  · by_cases hp0 : p = 0
    · exfalso
      rw [Lib.decDigits_length] at hs
      have h1 : 1 ≤ Lib.nDigits u := by rw [Lib.nDigits]; split <;> omega
      omega
    · by_cases hn : v < 0
      · exact decimal_spn v hv u hu p hp w ht hs (by omega) hn
      · exact decimal_spu v hv u hu p hp w ht hs (by omega) hn
  · by_cases hp0 : p = 0
    · by_cases hn : v < 0
      · exact decimal_lzn v hv u hu p hp w ht hs hp0 hn
      · exact decimal_lzu v hv u hu p hp w ht hs hp0 hn
    · by_cases hn : v < 0
      · exact decimal_lpn v hv u hu p hp w ht hs (by omega) hn
      · exact decimal_lpu v hv u hu p hp w ht hs (by omega) hn

theorem fit_any (p : Int) (w : World) : Calls Tryz.prog 112 #[.int .i64 p] w fun e w' => e = .returned (.bool (decide (0 ≤ p ∧ p ≤ 18))) ∧ w = w' := by
  by_cases h : 0 ≤ p ∧ p ≤ 18
  · rw [decide_eq_true h]
    obtain ⟨h1, h2⟩ := h
    go_enter Tryz.func112, Tryz.ntmps112
    go_wp2
    go_ret
    simp
  · rw [decide_eq_false h]
    by_cases h1 : 0 ≤ p
    · have h2 : ¬ p ≤ 18 := fun h2 => h ⟨h1, h2⟩
      clear h
      go_enter Tryz.func112, Tryz.ntmps112
      go_wp2
      go_ret
      simp
    · clear h
      go_enter Tryz.func112, Tryz.ntmps112
      go_wp2
      go_ret
      simp

theorem text_in (v : Int) (hv : inR v) (u : Nat) (hu : absI v = u) (p : Nat) (hp : p ≤ 18) (w : World) (ht : Pows w) :
    Calls Tryz.prog 89 #[.int .i64 v, .int .i64 p] w fun e w' => e = .returned (.tuple #[.string ⟨(decS (decide (v < 0)) p (Lib.decDigits u)).toArray⟩, .int .i64 0]) ∧ Below w.heap.size w w' := by
  have D := veil (decimal_any v hv u hu p hp w ht)
  generalize decS (decide (v < 0)) p (Lib.decDigits u) = s at D ⊢
  have F := veil (fit_any (p : Int))
  rw [decide_eq_true (show (0 : Int) ≤ p ∧ (p : Int) ≤ 18 by omega)] at F
  clear ht hu
  go_enter Tryz.func89, Tryz.ntmps89
  go_wp2_with (first | (go_at_call 112; refine (unveil F _).mono ?_; rintro e w' ⟨rfl, rfl⟩) | (go_at_call 113; refine (unveil D).mono ?_; rintro e w1 ⟨rfl, hb1⟩))
  go_ret2
  exact ⟨rfl, hb1⟩

end Go.Proofs.YtkjmkhmjaknfhaaGreatDoor
