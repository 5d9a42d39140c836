import Derived.Test.YtccjeipkljdhdaaGreatDoorXAB
import Derived.Test.YtccjeipkljdhdaaGreatDoorXAC
import Derived.Deep.RegionHeld3
import Derived.Lib.AtoiAll
namespace Go.Proofs.YtccjeipkljdhdaaGreatDoor
open Go.RowKit
set_option linter.unusedVariables false

/-- At least one digit ahead of the decimals. -/
def padTo (p : Nat) (ds : List UInt8) : List UInt8 := List.replicate (p + 1 - ds.length) 48 ++ ds
/-- The full stop ahead of the last p digits. -/
def pointed (p : Nat) (ls : List UInt8) : List UInt8 := if p = 0 then ls else ls.take (ls.length - p) ++ 46 :: ls.drop (ls.length - p)
/-- The text of a number with the digits ds. -/
def decS (neg : Bool) (p : Nat) (ds : List UInt8) : List UInt8 := if neg then 45 :: pointed p (padTo p ds) else pointed p (padTo p ds)

theorem ba_append (a b : List UInt8) : (⟨a.toArray⟩ : ByteArray) ++ ⟨b.toArray⟩ = ⟨(a ++ b).toArray⟩ := by
  apply ByteArray.ext
  rw [ByteArray.data_append]
  simp
theorem ba_take (l : List UInt8) (k : Nat) (hk : k ≤ l.length) : (⟨l.toArray⟩ : ByteArray).extract 0 k = ⟨(l.take k).toArray⟩ := by
  apply ByteArray.ext
  rw [ByteArray.data_extract]
  simp
theorem ba_drop (l : List UInt8) (k n : Nat) (hn : n = l.length) : (⟨l.toArray⟩ : ByteArray).extract k n = ⟨(l.drop k).toArray⟩ := by
  subst hn
  apply ByteArray.ext
  rw [ByteArray.data_extract]
  simp
  exact List.take_of_length_le (by simp)
theorem cutH (l : List UInt8) (k : Int) (h0 : 0 ≤ k) (hk : k ≤ l.length) (W : World) : (Instr.slice 9 (.string ⟨l.toArray⟩) none (some (.int .i64 k)) none).run Tryz.prog W = .ok (.string ⟨(l.take k.toNat).toArray⟩) W := by
  rw [run_slice_string_h W 9 _ (by kernel_rfl) .i64 k h0 (by simpa [ByteArray.size] using hk), ba_take _ _ (by omega)]
theorem cutL (l : List UInt8) (k : Int) (h0 : 0 ≤ k) (hk : k ≤ l.length) (W : World) : (Instr.slice 9 (.string ⟨l.toArray⟩) (some (.int .i64 k)) none none).run Tryz.prog W = .ok (.string ⟨(l.drop k.toNat).toArray⟩) W := by
  rw [run_slice_string_l W 9 _ (by kernel_rfl) .i64 k h0 (by simpa [ByteArray.size] using hk), ba_drop _ _ _ (by simp [ByteArray.size])]
theorem rep48 (c : Nat) (hc : c ≤ 100) (w : World) : Calls Tryz.prog 126 #[.string ⟨#[48]⟩, .int .i64 (c : Int)] w fun e w' => e = .returned (.string ⟨(List.replicate c (48 : UInt8)).toArray⟩) ∧ Below w.heap.size w w' := by
  refine (Tryz.strings_Repeat ⟨#[48]⟩ c w (by omega) (by simp [ByteArray.size]; omega)).mono ?_
  rintro e w' ⟨rfl, hb⟩
  refine ⟨?_, hb⟩
  have : ∀ c, Lib.repeatL [(48 : UInt8)] c = List.replicate c 48 := fun c => by
    induction c with
    | zero => rfl
    | succ c ih => rw [Lib.repeatL, ih]; rfl
  rw [show (⟨#[48]⟩ : ByteArray).data.toList = [48] from rfl, this]
theorem catS (a b : List UInt8) (h : a.length + b.length ≤ 1000) (W : World) : (Op.stringOp .add ⟨a.toArray⟩ ⟨b.toArray⟩).run Tryz.prog W = .ok (.string ⟨(a ++ b).toArray⟩) W := by
  rw [← ba_append]
  have h1 : ((⟨a.toArray⟩ : ByteArray).size : Int) ≤ 8388608 := by simp [ByteArray.size]; omega
  have h2 : ((⟨b.toArray⟩ : ByteArray).size : Int) ≤ 8388608 := by simp [ByteArray.size]; omega
  exact run_string_add W _ _ h1 h2
theorem below_nqD {B : Nat} {a w : World} (h : Below B a w) (n : Nat) : Below B a (w.drewN n) := ⟨h.os, h.tape, h.output, h.size, h.block⟩
theorem dd_len (u : Nat) (hu : u < 18446744073709551616) : (Lib.decDigits u).length ≤ 20 := by
  rw [Lib.decDigits_length]
  by_cases h1 : 1 ≤ u
  · exact nDigits_le u h1 hu
  · have : u = 0 := by omega
    subst this
    rw [Lib.nDigits_small (by omega)]
    omega


set_option maxHeartbeats 400000 in
set_option maxRecDepth 100000 in
theorem decimal_lzu (v : Int) (hv : inR v) (u : Nat) (hu : absI v = u) (p : Nat) (hp : p ≤ 18) (w : World) (ht : Pows w) (hs : ¬ (Lib.decDigits u).length < p + 1) (hp0 : p = 0) (hneg : ¬ v < 0) :
    Calls Tryz.prog 109 #[.int .i64 v, .int .i64 p] w fun e w' => e = .returned (.string ⟨(decS (decide (v < 0)) p (Lib.decDigits u)).toArray⟩) ∧ Below w.heap.size w w' := by
  have hb := absI_bd v hv
  have hu64 : u < 18446744073709551616 := by omega
  have SZ := veil (fun w => sizeOf_any v hv w)
  rw [hu] at SZ
  have FU := veil (fmtUint u hu64 w ht)
  have hl := dd_len u hu64
  generalize Lib.decDigits u = ds at FU hl hs ⊢
  clear hu hb hu64 ht
  have d1 : decide ((ds.length : Int) < (p : Int) + 1) = false := by simp; omega
  have d3 : decide (v < 0) = false := by simp; omega
  obtain ⟨ls, hls⟩ : ∃ ls, ds = ls := ⟨_, rfl⟩
  have hpad : padTo p ds = ls := by unfold padTo; rw [show p + 1 - ds.length = 0 by omega]; simpa using hls
  have hll : p + 1 ≤ ls.length := by rw [← hls]; omega
  have hl2 : ls.length ≤ 40 := by rw [← hls]; omega
  rw [show decS (decide (v < 0)) p ds = pointed p ls by unfold decS; rw [d3, hpad]; rfl]
  have hpt : pointed p ls = ls := by unfold pointed; rw [if_pos hp0]
  rw [hpt]
  subst hp0
  clear hpt hpad
  subst hls
  go_enter Tryz.func109, Tryz.ntmps109
  go_wp2_with (first | (go_at_call 125; refine (unveil SZ _).mono ?_; rintro e w' ⟨rfl, rfl⟩) | (go_at_call 124; refine (unveil FU).mono ?_; rintro e w1 ⟨rfl, hb1⟩) | (go_at_call 126; refine (unveil RP _).mono ?_; rintro e w2 ⟨rfl, hb2⟩))
  go_ret
  exact ⟨rfl, hb1⟩

set_option maxHeartbeats 400000 in
set_option maxRecDepth 100000 in
theorem decimal_lzn (v : Int) (hv : inR v) (u : Nat) (hu : absI v = u) (p : Nat) (hp : p ≤ 18) (w : World) (ht : Pows w) (hs : ¬ (Lib.decDigits u).length < p + 1) (hp0 : p = 0) (hneg : v < 0) :
    Calls Tryz.prog 109 #[.int .i64 v, .int .i64 p] w fun e w' => e = .returned (.string ⟨(decS (decide (v < 0)) p (Lib.decDigits u)).toArray⟩) ∧ Below w.heap.size w w' := by
  have hb := absI_bd v hv
  have hu64 : u < 18446744073709551616 := by omega
  have SZ := veil (fun w => sizeOf_any v hv w)
  rw [hu] at SZ
  have FU := veil (fmtUint u hu64 w ht)
  have hl := dd_len u hu64
  generalize Lib.decDigits u = ds at FU hl hs ⊢
  clear hu hb hu64 ht
  have d1 : decide ((ds.length : Int) < (p : Int) + 1) = false := by simp; omega
  have d3 : decide (v < 0) = true := by simp; omega
  obtain ⟨ls, hls⟩ : ∃ ls, ds = ls := ⟨_, rfl⟩
  have hpad : padTo p ds = ls := by unfold padTo; rw [show p + 1 - ds.length = 0 by omega]; simpa using hls
  have hll : p + 1 ≤ ls.length := by rw [← hls]; omega
  have hl2 : ls.length ≤ 40 := by rw [← hls]; omega
  rw [show decS (decide (v < 0)) p ds = 45 :: pointed p ls by unfold decS; rw [d3, hpad]; rfl]
  have hpt : pointed p ls = ls := by unfold pointed; rw [if_pos hp0]
  rw [hpt]
  subst hp0
  have r3 := catS [45] ls (by simp; omega)
  rw [show [45] ++ ls = 45 :: ls from rfl] at r3
  generalize 45 :: ls = l4 at r3 ⊢
  clear hpt hpad
  subst hls
  go_enter Tryz.func109, Tryz.ntmps109
  go_wp2_with (first | (go_at_call 125; refine (unveil SZ _).mono ?_; rintro e w' ⟨rfl, rfl⟩) | (go_at_call 124; refine (unveil FU).mono ?_; rintro e w1 ⟨rfl, hb1⟩) | (go_at_call 126; refine (unveil RP _).mono ?_; rintro e w2 ⟨rfl, hb2⟩))
  go_ret
  exact ⟨rfl, hb1⟩

set_option maxHeartbeats 400000 in
set_option maxRecDepth 100000 in
theorem decimal_lpu (v : Int) (hv : inR v) (u : Nat) (hu : absI v = u) (p : Nat) (hp : p ≤ 18) (w : World) (ht : Pows w) (hs : ¬ (Lib.decDigits u).length < p + 1) (hp0 : 0 < p) (hneg : ¬ v < 0) :
    Calls Tryz.prog 109 #[.int .i64 v, .int .i64 p] w fun e w' => e = .returned (.string ⟨(decS (decide (v < 0)) p (Lib.decDigits u)).toArray⟩) ∧ Below w.heap.size w w' := by
  have hb := absI_bd v hv
  have hu64 : u < 18446744073709551616 := by omega
  have SZ := veil (fun w => sizeOf_any v hv w)
  rw [hu] at SZ
  have FU := veil (fmtUint u hu64 w ht)
  have hl := dd_len u hu64
  generalize Lib.decDigits u = ds at FU hl hs ⊢
  clear hu hb hu64 ht
  have d1 : decide ((ds.length : Int) < (p : Int) + 1) = false := by simp; omega
  have d3 : decide (v < 0) = false := by simp; omega
  have d2 : decide (0 < p) = true := by simp; omega
  obtain ⟨ls, hls⟩ : ∃ ls, ds = ls := ⟨_, rfl⟩
  have hpad : padTo p ds = ls := by unfold padTo; rw [show p + 1 - ds.length = 0 by omega]; simpa using hls
  have hll : p + 1 ≤ ls.length := by rw [← hls]; omega
  have hl2 : ls.length ≤ 40 := by rw [← hls]; omega
  rw [show decS (decide (v < 0)) p ds = pointed p ls by unfold decS; rw [d3, hpad]; rfl]
  have hpt : pointed p ls = ls.take ((ls.length : Int) - p).toNat ++ (46 :: ls.drop ((ls.length : Int) - p).toNat) := by unfold pointed; rw [if_neg (by omega), show ((ls.length : Int) - p).toNat = ls.length - p by omega]
  rw [hpt]
  have s1 := cutH ls ((ls.length : Int) - p) (by omega) (by omega)
  have s2 := cutL ls ((ls.length : Int) - p) (by omega) (by omega)
  have n1 : (ls.take ((ls.length : Int) - p).toNat).length ≤ 40 := by simp; omega
  have n2 : (ls.drop ((ls.length : Int) - p).toNat).length ≤ 40 := by simp; omega
  generalize ls.take ((ls.length : Int) - p).toNat = l1 at s1 hpt n1 ⊢
  generalize ls.drop ((ls.length : Int) - p).toNat = l2 at s2 hpt n2 ⊢
  have r1 := catS l1 [46] (by simp; omega)
  have r2 := catS (l1 ++ [46]) l2 (by simp; omega)
  have n3 : (l1 ++ [46] ++ l2).length ≤ 90 := by simp; omega
  rw [show l1 ++ 46 :: l2 = l1 ++ [46] ++ l2 by simp]
  generalize l1 ++ [46] = l12 at r1 r2 n3 ⊢
  generalize l12 ++ l2 = l3 at r2 n3 ⊢
  clear hpt hpad
  subst hls
  go_enter Tryz.func109, Tryz.ntmps109
  go_wp2_with (first | (go_at_call 125; refine (unveil SZ _).mono ?_; rintro e w' ⟨rfl, rfl⟩) | (go_at_call 124; refine (unveil FU).mono ?_; rintro e w1 ⟨rfl, hb1⟩) | (go_at_call 126; refine (unveil RP _).mono ?_; rintro e w2 ⟨rfl, hb2⟩))
  go_region_held3 (fun _ => True) (exact trivial) (fail)
  all_goals go_wp2_with fail
  go_ret
  exact ⟨rfl, below_nqD hb1 _⟩

set_option maxHeartbeats 400000 in
set_option maxRecDepth 100000 in
theorem decimal_lpn (v : Int) (hv : inR v) (u : Nat) (hu : absI v = u) (p : Nat) (hp : p ≤ 18) (w : World) (ht : Pows w) (hs : ¬ (Lib.decDigits u).length < p + 1) (hp0 : 0 < p) (hneg : v < 0) :
    Calls Tryz.prog 109 #[.int .i64 v, .int .i64 p] w fun e w' => e = .returned (.string ⟨(decS (decide (v < 0)) p (Lib.decDigits u)).toArray⟩) ∧ Below w.heap.size w w' := by
  have hb := absI_bd v hv
  have hu64 : u < 18446744073709551616 := by omega
  have SZ := veil (fun w => sizeOf_any v hv w)
  rw [hu] at SZ
  have FU := veil (fmtUint u hu64 w ht)
  have hl := dd_len u hu64
  generalize Lib.decDigits u = ds at FU hl hs ⊢
  clear hu hb hu64 ht
  have d1 : decide ((ds.length : Int) < (p : Int) + 1) = false := by simp; omega
  have d3 : decide (v < 0) = true := by simp; omega
  have d2 : decide (0 < p) = true := by simp; omega
  obtain ⟨ls, hls⟩ : ∃ ls, ds = ls := ⟨_, rfl⟩
  have hpad : padTo p ds = ls := by unfold padTo; rw [show p + 1 - ds.length = 0 by omega]; simpa using hls
  have hll : p + 1 ≤ ls.length := by rw [← hls]; omega
  have hl2 : ls.length ≤ 40 := by rw [← hls]; omega
  rw [show decS (decide (v < 0)) p ds = 45 :: pointed p ls by unfold decS; rw [d3, hpad]; rfl]
  have hpt : pointed p ls = ls.take ((ls.length : Int) - p).toNat ++ (46 :: ls.drop ((ls.length : Int) - p).toNat) := by unfold pointed; rw [if_neg (by omega), show ((ls.length : Int) - p).toNat = ls.length - p by omega]
  rw [hpt]
  have s1 := cutH ls ((ls.length : Int) - p) (by omega) (by omega)
  have s2 := cutL ls ((ls.length : Int) - p) (by omega) (by omega)
  have n1 : (ls.take ((ls.length : Int) - p).toNat).length ≤ 40 := by simp; omega
  have n2 : (ls.drop ((ls.length : Int) - p).toNat).length ≤ 40 := by simp; omega
  generalize ls.take ((ls.length : Int) - p).toNat = l1 at s1 hpt n1 ⊢
  generalize ls.drop ((ls.length : Int) - p).toNat = l2 at s2 hpt n2 ⊢
  have r1 := catS l1 [46] (by simp; omega)
  have r2 := catS (l1 ++ [46]) l2 (by simp; omega)
  have n3 : (l1 ++ [46] ++ l2).length ≤ 90 := by simp; omega
  rw [show l1 ++ 46 :: l2 = l1 ++ [46] ++ l2 by simp]
  generalize l1 ++ [46] = l12 at r1 r2 n3 ⊢
  generalize l12 ++ l2 = l3 at r2 n3 ⊢
  have r3 := catS [45] l3 (by simp; omega)
  rw [show [45] ++ l3 = 45 :: l3 from rfl] at r3
  generalize 45 :: l3 = l4 at r3 ⊢
  clear hpt hpad
  subst hls
  go_enter Tryz.func109, Tryz.ntmps109
  go_wp2_with (first | (go_at_call 125; refine (unveil SZ _).mono ?_; rintro e w' ⟨rfl, rfl⟩) | (go_at_call 124; refine (unveil FU).mono ?_; rintro e w1 ⟨rfl, hb1⟩) | (go_at_call 126; refine (unveil RP _).mono ?_; rintro e w2 ⟨rfl, hb2⟩))
  go_region_held3 (fun _ => True) (exact trivial) (fail)
  all_goals go_wp2_with fail
  go_ret
  exact ⟨rfl, below_nqD hb1 _⟩

set_option maxHeartbeats 400000 in
set_option maxRecDepth 100000 in
theorem decimal_spu (v : Int) (hv : inR v) (u : Nat) (hu : absI v = u) (p : Nat) (hp : p ≤ 18) (w : World) (ht : Pows w) (hs : (Lib.decDigits u).length < p + 1) (hp0 : 0 < p) (hneg : ¬ v < 0) :
    Calls Tryz.prog 109 #[.int .i64 v, .int .i64 p] w fun e w' => e = .returned (.string ⟨(decS (decide (v < 0)) p (Lib.decDigits u)).toArray⟩) ∧ Below w.heap.size w w' := by
  have hb := absI_bd v hv
  have hu64 : u < 18446744073709551616 := by omega
  have SZ := veil (fun w => sizeOf_any v hv w)
  rw [hu] at SZ
  have FU := veil (fmtUint u hu64 w ht)
  have hl := dd_len u hu64
  generalize Lib.decDigits u = ds at FU hl hs ⊢
  clear hu hb hu64 ht
  have d1 : decide ((ds.length : Int) < (p : Int) + 1) = true := by simp; omega
  have d3 : decide (v < 0) = false := by simp; omega
  have d2 : decide (0 < p) = true := by simp; omega
  obtain ⟨c, hc⟩ : ∃ c : Nat, p + 1 - ds.length = c := ⟨_, rfl⟩
  have hci : (p : Int) + 1 - ds.length = (c : Int) := by omega
  have hc0 : decide (0 < (c : Int)) = true := by simp; omega
  have hc1 : decide (0 < c) = true := by simp; omega
  have RP := veil (fun w => rep48 c (by omega) w)
  obtain ⟨zs, hzs⟩ : ∃ zs, List.replicate c (48 : UInt8) = zs := ⟨_, rfl⟩
  have hzl : zs.length = c := by rw [← hzs]; simp
  rw [hzs] at RP
  have hcat := catS zs ds (by omega)
  obtain ⟨ls, hls⟩ : ∃ ls, zs ++ ds = ls := ⟨_, rfl⟩
  have hll : p + 1 ≤ ls.length := by rw [← hls]; simp; omega
  have hl2 : ls.length ≤ 40 := by rw [← hls]; simp; omega
  rw [hls] at hcat
  have hpad : padTo p ds = ls := by unfold padTo; rw [hc, hzs, hls]
  rw [show decS (decide (v < 0)) p ds = pointed p ls by unfold decS; rw [d3, hpad]; rfl]
  have hpt : pointed p ls = ls.take ((ls.length : Int) - p).toNat ++ (46 :: ls.drop ((ls.length : Int) - p).toNat) := by unfold pointed; rw [if_neg (by omega), show ((ls.length : Int) - p).toNat = ls.length - p by omega]
  rw [hpt]
  have s1 := cutH ls ((ls.length : Int) - p) (by omega) (by omega)
  have s2 := cutL ls ((ls.length : Int) - p) (by omega) (by omega)
  have n1 : (ls.take ((ls.length : Int) - p).toNat).length ≤ 40 := by simp; omega
  have n2 : (ls.drop ((ls.length : Int) - p).toNat).length ≤ 40 := by simp; omega
  generalize ls.take ((ls.length : Int) - p).toNat = l1 at s1 hpt n1 ⊢
  generalize ls.drop ((ls.length : Int) - p).toNat = l2 at s2 hpt n2 ⊢
  have r1 := catS l1 [46] (by simp; omega)
  have r2 := catS (l1 ++ [46]) l2 (by simp; omega)
  have n3 : (l1 ++ [46] ++ l2).length ≤ 90 := by simp; omega
  rw [show l1 ++ 46 :: l2 = l1 ++ [46] ++ l2 by simp]
  generalize l1 ++ [46] = l12 at r1 r2 n3 ⊢
  generalize l12 ++ l2 = l3 at r2 n3 ⊢
  clear hpt hpad
  clear hls hzs hzl hc
  go_enter Tryz.func109, Tryz.ntmps109
  go_wp2_with (first | (go_at_call 125; refine (unveil SZ _).mono ?_; rintro e w' ⟨rfl, rfl⟩) | (go_at_call 124; refine (unveil FU).mono ?_; rintro e w1 ⟨rfl, hb1⟩) | (go_at_call 126; refine (unveil RP _).mono ?_; rintro e w2 ⟨rfl, hb2⟩))
  go_region_held3 (fun _ => True) (exact trivial) (fail)
  all_goals go_wp2_with fail
  go_ret
  exact ⟨rfl, below_nqD (hb1.trans (hb2.mono hb1.size)) _⟩

set_option maxHeartbeats 400000 in
set_option maxRecDepth 100000 in
theorem decimal_spn (v : Int) (hv : inR v) (u : Nat) (hu : absI v = u) (p : Nat) (hp : p ≤ 18) (w : World) (ht : Pows w) (hs : (Lib.decDigits u).length < p + 1) (hp0 : 0 < p) (hneg : v < 0) :
    Calls Tryz.prog 109 #[.int .i64 v, .int .i64 p] w fun e w' => e = .returned (.string ⟨(decS (decide (v < 0)) p (Lib.decDigits u)).toArray⟩) ∧ Below w.heap.size w w' := by
  have hb := absI_bd v hv
  have hu64 : u < 18446744073709551616 := by omega
  have SZ := veil (fun w => sizeOf_any v hv w)
  rw [hu] at SZ
  have FU := veil (fmtUint u hu64 w ht)
  have hl := dd_len u hu64
  generalize Lib.decDigits u = ds at FU hl hs ⊢
  clear hu hb hu64 ht
  have d1 : decide ((ds.length : Int) < (p : Int) + 1) = true := by simp; omega
  have d3 : decide (v < 0) = true := by simp; omega
  have d2 : decide (0 < p) = true := by simp; omega
  obtain ⟨c, hc⟩ : ∃ c : Nat, p + 1 - ds.length = c := ⟨_, rfl⟩
  have hci : (p : Int) + 1 - ds.length = (c : Int) := by omega
  have hc0 : decide (0 < (c : Int)) = true := by simp; omega
  have hc1 : decide (0 < c) = true := by simp; omega
  have RP := veil (fun w => rep48 c (by omega) w)
  obtain ⟨zs, hzs⟩ : ∃ zs, List.replicate c (48 : UInt8) = zs := ⟨_, rfl⟩
  have hzl : zs.length = c := by rw [← hzs]; simp
  rw [hzs] at RP
  have hcat := catS zs ds (by omega)
  obtain ⟨ls, hls⟩ : ∃ ls, zs ++ ds = ls := ⟨_, rfl⟩
  have hll : p + 1 ≤ ls.length := by rw [← hls]; simp; omega
  have hl2 : ls.length ≤ 40 := by rw [← hls]; simp; omega
  rw [hls] at hcat
  have hpad : padTo p ds = ls := by unfold padTo; rw [hc, hzs, hls]
  rw [show decS (decide (v < 0)) p ds = 45 :: pointed p ls by unfold decS; rw [d3, hpad]; rfl]
  have hpt : pointed p ls = ls.take ((ls.length : Int) - p).toNat ++ (46 :: ls.drop ((ls.length : Int) - p).toNat) := by unfold pointed; rw [if_neg (by omega), show ((ls.length : Int) - p).toNat = ls.length - p by omega]
  rw [hpt]
  have s1 := cutH ls ((ls.length : Int) - p) (by omega) (by omega)
  have s2 := cutL ls ((ls.length : Int) - p) (by omega) (by omega)
  have n1 : (ls.take ((ls.length : Int) - p).toNat).length ≤ 40 := by simp; omega
  have n2 : (ls.drop ((ls.length : Int) - p).toNat).length ≤ 40 := by simp; omega
  generalize ls.take ((ls.length : Int) - p).toNat = l1 at s1 hpt n1 ⊢
  generalize ls.drop ((ls.length : Int) - p).toNat = l2 at s2 hpt n2 ⊢
  have r1 := catS l1 [46] (by simp; omega)
  have r2 := catS (l1 ++ [46]) l2 (by simp; omega)
  have n3 : (l1 ++ [46] ++ l2).length ≤ 90 := by simp; omega
  rw [show l1 ++ 46 :: l2 = l1 ++ [46] ++ l2 by simp]
  generalize l1 ++ [46] = l12 at r1 r2 n3 ⊢
  generalize l12 ++ l2 = l3 at r2 n3 ⊢
  have r3 := catS [45] l3 (by simp; omega)
  rw [show [45] ++ l3 = 45 :: l3 from rfl] at r3
  generalize 45 :: l3 = l4 at r3 ⊢
  clear hpt hpad
  clear hls hzs hzl hc
  go_enter Tryz.func109, Tryz.ntmps109
  go_wp2_with (first | (go_at_call 125; refine (unveil SZ _).mono ?_; rintro e w' ⟨rfl, rfl⟩) | (go_at_call 124; refine (unveil FU).mono ?_; rintro e w1 ⟨rfl, hb1⟩) | (go_at_call 126; refine (unveil RP _).mono ?_; rintro e w2 ⟨rfl, hb2⟩))
  go_region_held3 (fun _ => True) (exact trivial) (fail)
  all_goals go_wp2_with fail
  go_ret
  exact ⟨rfl, below_nqD (hb1.trans (hb2.mono hb1.size)) _⟩

theorem decimal_any (v : Int) (hv : inR v) (u : Nat) (hu : absI v = u) (p : Nat) (hp : p ≤ 18) (w : World) (ht : Pows w) :
    Calls Tryz.prog 109 #[.int .i64 v, .int .i64 p] w fun e w' => e = .returned (.string ⟨(decS (decide (v < 0)) p (Lib.decDigits u)).toArray⟩) ∧ Below w.heap.size w w' := by
  by_cases hs : (Lib.decDigits u).length < p + 1
  · by_cases hp0 : p = 0
    · exfalso
      rw [Lib.decDigits_length] at hs
      have h1 : 1 ≤ Lib.nDigits u := by rw [Lib.nDigits]; split <;> omega
      omega
    · by_cases hn : v < 0
      · exact decimal_spn v hv u hu p hp w ht hs (by omega) hn
      · exact decimal_spu v hv u hu p hp w ht hs (by omega) hn
  · by_cases hp0 : p = 0
    · by_cases hn : v < 0
      · exact decimal_lzn v hv u hu p hp w ht hs hp0 hn
      · exact decimal_lzu v hv u hu p hp w ht hs hp0 hn
    · by_cases hn : v < 0
      · exact decimal_lpn v hv u hu p hp w ht hs (by omega) hn
      · exact decimal_lpu v hv u hu p hp w ht hs (by omega) hn

theorem fit_any (p : Int) (w : World) : Calls Tryz.prog 108 #[.int .i64 p] w fun e w' => e = .returned (.bool (decide (0 ≤ p ∧ p ≤ 18))) ∧ w = w' := by
  by_cases h : 0 ≤ p ∧ p ≤ 18
  · rw [decide_eq_true h]
    obtain ⟨h1, h2⟩ := h
    go_enter Tryz.func108, Tryz.ntmps108
    go_wp2
    go_ret
    simp
  · rw [decide_eq_false h]
    by_cases h1 : 0 ≤ p
    · have h2 : ¬ p ≤ 18 := fun h2 => h ⟨h1, h2⟩
      clear h
      go_enter Tryz.func108, Tryz.ntmps108
      go_wp2
      go_ret
      simp
    · clear h
      go_enter Tryz.func108, Tryz.ntmps108
      go_wp2
      go_ret
      simp

end Go.Proofs.YtccjeipkljdhdaaGreatDoor

namespace Go.Proofs.YtccjeipkljdhdaaGreatDoor
open Go.RowKit
set_option linter.unusedVariables false

def isD (c : UInt8) : Prop := 48 ≤ c.toNat ∧ c.toNat ≤ 57
theorem ofNat_d {k : Nat} (h : k ≤ 9) : (UInt8.ofNat (48 + k)).toNat = 48 + k := by rw [UInt8.toNat_ofNat']; omega
theorem dec_d (u : Nat) : ∀ c ∈ Lib.decDigits u, isD c := by
  induction u using Nat.strongRecOn with
  | ind u ih =>
    rw [Lib.decDigits]
    split
    · rename_i h
      intro c hc
      rw [List.mem_singleton.1 hc]; unfold isD; rw [ofNat_d (by omega)]; omega
    · intro c hc
      rw [List.mem_append] at hc
      rcases hc with hc | hc
      · exact ih (u / 10) (by omega) c hc
      · rw [List.mem_singleton.1 hc]; unfold isD; rw [ofNat_d (by omega)]; omega
theorem dec_neB (u : Nat) : Lib.decDigits u ≠ [] := by
  rw [Lib.decDigits]; split <;> simp
theorem dec_len (k : Nat) : ∀ u, u < 10 ^ (k + 1) → (Lib.decDigits u).length ≤ k + 1 := by
  induction k with
  | zero => intro u h; rw [Lib.decDigits, dif_pos (by simpa using h)]; simp
  | succ k ih =>
    intro u h
    rw [Lib.decDigits]
    split
    · simp
    · have := ih (u / 10) (by rw [Nat.pow_succ] at h; omega)
      simp; omega
theorem pu_append (a b : List UInt8) : ∀ acc, Lib.parseUint10 acc (a ++ b) = match Lib.parseUint10 acc a with | .ok m => Lib.parseUint10 m b | .syntax => .syntax | .range => .range := by
  induction a with
  | nil => intro acc; simp [Lib.parseUint10]
  | cons c r ih =>
    intro acc
    simp only [List.cons_append, Lib.parseUint10]
    split
    · split
      · rfl
      · split
        · rfl
        · exact ih _
    · rfl
theorem pu_zero (k : Nat) (r : List UInt8) : Lib.parseUint10 0 (List.replicate k 48 ++ r) = Lib.parseUint10 0 r := by
  induction k with
  | zero => simp
  | succ k ih =>
    rw [List.replicate_succ, List.cons_append, Lib.parseUint10]
    rw [if_pos (by decide), if_neg (by omega), if_neg (by decide)]
    exact ih
theorem pu_dec (u : Nat) (h : u < 18446744073709551616) : Lib.parseUint10 0 (Lib.decDigits u) = .ok u := by
  induction u using Nat.strongRecOn with
  | ind u ih =>
    rw [Lib.decDigits]
    split
    · rename_i g
      rw [Lib.parseUint10, ofNat_d (by omega), if_pos (by omega), if_neg (by omega), if_neg (by omega), Lib.parseUint10]
      congr 1; omega
    · rename_i g
      rw [pu_append, ih (u / 10) (by omega) (by omega)]
      simp only
      rw [Lib.parseUint10, ofNat_d (by omega), if_pos (by omega), if_neg (by omega), if_neg (by omega), Lib.parseUint10]
      congr 1; omega

/-- Without the byte ahead of the decimals. -/
def wst (p : Nat) (l : List UInt8) : List UInt8 := if p = 0 ∨ l.length < p + 1 then l else l.take (l.length - p - 1) ++ l.drop (l.length - p)
/-- A number's text. -/
def dtx (v : Int) (p : Nat) : List UInt8 := decS (decide (v < 0)) p (Lib.decDigits (absI v).toNat)
def sg (v : Int) : List UInt8 := if v < 0 then [45] else []
theorem dtx_eq (v : Int) (p : Nat) : dtx v p = sg v ++ pointed p (padTo p (Lib.decDigits (absI v).toNat)) := by
  unfold dtx decS sg
  by_cases h : v < 0
  · rw [if_pos (decide_eq_true h), if_pos h]; rfl
  · rw [if_neg (by simp [h]), if_neg h]; rfl
theorem pad_len (p : Nat) (ds : List UInt8) : p + 1 ≤ (padTo p ds).length := by unfold padTo; simp; omega
theorem wst_pointed (p : Nat) (s L : List UInt8) (h : p + 1 ≤ L.length) : wst p (s ++ pointed p L) = s ++ L := by
  unfold wst pointed
  by_cases hp : p = 0
  · rw [if_pos hp, if_pos (.inl hp)]
  · rw [if_neg hp]
    have len : (s ++ (L.take (L.length - p) ++ 46 :: L.drop (L.length - p))).length = s.length + L.length + 1 := by simp; omega
    rw [if_neg (by rw [len]; omega), len]
    have n : s.length + L.length + 1 - p - 1 = (s ++ L.take (L.length - p)).length := by simp; omega
    have m : s.length + L.length + 1 - p = ((s ++ L.take (L.length - p)) ++ [46]).length := by simp; omega
    have e1 : s ++ (L.take (L.length - p) ++ 46 :: L.drop (L.length - p)) = (s ++ L.take (L.length - p)) ++ (46 :: L.drop (L.length - p)) := by simp
    have e2 : s ++ (L.take (L.length - p) ++ 46 :: L.drop (L.length - p)) = ((s ++ L.take (L.length - p)) ++ [46]) ++ L.drop (L.length - p) := by simp
    rw [n, m]
    rw [show List.take (s ++ L.take (L.length - p)).length (s ++ (L.take (L.length - p) ++ 46 :: L.drop (L.length - p))) = s ++ L.take (L.length - p) by rw [e1, List.take_left]]
    rw [e2, List.drop_left, List.append_assoc, List.take_append_drop]
theorem pad_d (p : Nat) (u : Nat) : ∀ c ∈ padTo p (Lib.decDigits u), isD c := by
  intro c hc
  unfold padTo at hc
  rw [List.mem_append] at hc
  rcases hc with hc | hc
  · rw [(List.mem_replicate.1 hc).2]; exact ⟨by decide, by decide⟩
  · exact dec_d u c hc
theorem pu_pad (p u : Nat) (h : u < 18446744073709551616) : Lib.parseMag (padTo p (Lib.decDigits u)) = .ok u := by
  unfold Lib.parseMag
  rw [if_neg (by intro e; have := pad_len p (Lib.decDigits u); rw [e] at this; simp at this)]
  unfold padTo
  rw [pu_zero, pu_dec u h]
/-- A text without its stop is read as its number. -/
theorem atoi_back (v : Int) (hv : inR v) (p : Nat) : Lib.atoiAll (wst p (dtx v p)) = .ok v := by
  obtain ⟨b1, b2⟩ := absI_bd v hv
  obtain ⟨u, hu⟩ : ∃ u : Nat, absI v = u := ⟨(absI v).toNat, by omega⟩
  rw [dtx_eq, wst_pointed _ _ _ (pad_len _ _), hu, Int.toNat_natCast]
  have pm := pu_pad p u (by omega)
  by_cases h : v < 0
  · have e : v = -(u : Int) := by rw [absI_neg h] at hu; omega
    unfold sg; rw [if_pos h]
    simp only [List.cons_append, List.nil_append, Lib.atoiAll]
    rw [if_pos (by decide), pm]
    simp only
    rw [if_neg (by simp), if_neg (by omega), if_pos (by decide), e]
  · have e : v = (u : Int) := by rw [absI_pos h] at hu; omega
    unfold sg; rw [if_neg h, List.nil_append]
    obtain ⟨c, r, hL⟩ : ∃ c r, padTo p (Lib.decDigits u) = c :: r := by
      cases hq : padTo p (Lib.decDigits u) with
      | nil => have := pad_len p (Lib.decDigits u); rw [hq] at this; simp at this
      | cons c r => exact ⟨c, r, rfl⟩
    have hc := pad_d p u c (by rw [hL]; simp)
    unfold isD at hc
    rw [hL] at pm ⊢
    simp only [Lib.atoiAll]
    rw [if_neg (by omega), pm]
    simp only
    unfold inR at hv
    rw [if_neg (by omega), if_neg (by omega), if_neg (by omega), e]

theorem dtx_len (v : Int) (hv : inR v) (p : Nat) (hp : p ≤ 18) : (dtx v p).length ≤ 21 := by
  obtain ⟨b1, b2⟩ := absI_bd v hv
  have dl := dec_len 18 (absI v).toNat (by have : (10 : Nat) ^ 19 = 10000000000000000000 := by decide
                                           omega)
  rw [dtx_eq]
  have pl : (padTo p (Lib.decDigits (absI v).toNat)).length ≤ 19 := by unfold padTo; simp; omega
  have ql : (pointed p (padTo p (Lib.decDigits (absI v).toNat))).length ≤ 20 := by
    unfold pointed; split
    · omega
    · simp; omega
  have sl : (sg v).length ≤ 1 := by unfold sg; split <;> simp
  simp; omega
theorem wst_len (p : Nat) (l : List UInt8) : (wst p l).length ≤ l.length := by
  unfold wst; split
  · omega
  · simp; omega
/-- What Parse reads. -/
def prs (p : Nat) (l : List UInt8) : Option Int := match Lib.atoiAll (wst p l) with | .ok v => if dtx v p = l then some v else none | _ => none
theorem prs_back (v : Int) (hv : inR v) (p : Nat) : prs p (dtx v p) = some v := by unfold prs; rw [atoi_back v hv p]; simp
theorem prs_some {p : Nat} {l : List UInt8} {v : Int} (h : prs p l = some v) : dtx v p = l ∧ Lib.atoiAll (wst p l) = .ok v := by
  unfold prs at h
  split at h
  · rename_i v' hv'
    split at h
    · rename_i e; cases h; exact ⟨e, hv'⟩
    · cases h
  · cases h
end Go.Proofs.YtccjeipkljdhdaaGreatDoor
