/-
  WALKS: the document's answer (payoffref01): Text.
-/
import Derived.Test.YthkeoeobpdminaaDoorWRefFrom
import Derived.Test.YthkeoeobpdminaaDoorWDecimal
namespace Go.Proofs.YthkeoeobpdminaaDoor
open Go.RowKit
set_option linter.unusedVariables false

/-- The text as it grows, digit by digit. -/
def refS (p : Nat) (ds : List Int) : Nat → List UInt8
  | 0 => []
  | k + 1 => UInt8.ofNat (48 + (ds.getD k 0).toNat) :: ((if k = p ∧ 0 < p then [46] else []) ++ refS p ds k)

/-- The number in its own block, and its digits. -/
structure TBx (w wr : World) (B : Nat) (neg : Bool) (o : Value) (ds : List Int) : Prop where
  bel : Below w.heap.size w wr
  low : w.heap.size ≤ B
  size : B < wr.heap.size
  c0 : wr.cell? ⟨B, 0, none⟩ = some (.bool neg)
  c1 : wr.cell? ⟨B, 1, none⟩ = some o
  dg : Dg wr o ds
theorem TBx.later {w wr wr' : World} {B : Nat} {neg : Bool} {o : Value} {ds : List Int} (h : TBx w wr B neg o ds) (hb : Below wr.heap.size wr wr') : TBx w wr' B neg o ds :=
  ⟨h.bel.trans (hb.mono h.bel.size), h.low, Nat.lt_of_lt_of_le h.size hb.size, by rw [← h.c0]; exact hb.cell h.size, by rw [← h.c1]; exact hb.cell h.size, h.dg.later hb⟩

theorem refS_len (p : Nat) (ds : List Int) (k : Nat) : (refS p ds k).length ≤ 2 * k := by
  induction k with
  | zero => simp [refS]
  | succ k ih => rw [refS]; split <;> simp <;> omega
theorem conv1 (wr : World) (dig : Int) (h : 0 ≤ dig ∧ dig ≤ 9) : (convert 53 9 (.slice (some ⟨wr.heap.size, 0, none⟩) 1 1)).run Tryd.prog (wr.alloc (.cells #[.int .u8 (48 + dig)] 5)) = .ok (.string ⟨[UInt8.ofNat (48 + dig.toNat)].toArray⟩) (wr.alloc (.cells #[.int .u8 (48 + dig)] 5)) := by
  refine run_convert_bytes_back (P := Tryd.prog) _ 53 9 5 ⟨wr.heap.size, 0, none⟩ 1 [UInt8.ofNat (48 + dig.toNat)] (by kernel_rfl) (by kernel_rfl) (by kernel_rfl) (fun j hj => ?_)
  have : j = 0 := by simpa using hj
  subst this
  rw [Lib.add_plain, World.cell?_alloc_new]
  obtain ⟨n, rfl⟩ : ∃ n : Nat, dig = n := ⟨dig.toNat, by omega⟩
  have hn : n ≤ 9 := by omega
  simp
  omega
set_option maxHeartbeats 3200000 in
set_option maxRecDepth 100000 in
theorem refText_in (v : Int) (hv : inR v) (p : Nat) (hp : p ≤ 18) (w : World) :
    Calls Tryd.prog 32 #[.int .i64 v, .int .i64 p] w fun e w' => ∃ ds : List Int, e = .returned (.tuple #[.string ⟨(if decide (v < 0) then 45 :: refS p ds (max ds.length (p + 1)) else refS p ds (max ds.length (p + 1))).toArray⟩, .int .i64 0]) ∧ Below w.heap.size w w' ∧ Digs ds ∧ Norm ds ∧ dval ds = absI v := by
  have F := veil (from_any v hv w)
  have d1 : decide ((p : Int) < 0) = false := by simp
  have d2 : decide (18 < (p : Int)) = false := by simp; omega
  have d3 : decide (18 < p) = false := by simp; omega
  have hbv := absI_bd v hv
  generalize hneg : decide (v < 0) = neg
  go_enter Tryd.func32, Tryd.ntmps32
  go_wp2_with (go_at_call 49; refine (unveil F).mono ?_; rintro e w1 ⟨x, rfl, hb1, hx⟩; obtain ⟨o1, rfl, ds, dd, nn, vd⟩ := hx; obtain ⟨_, _, ao, cap, rfl, _⟩ := id dd; have DD := veil dd; have NN := veil nn; have VD := veil vd; clear dd nn vd; rw [hneg])
  have T0 := veil (show TBx w (w1.alloc (.cells #[.bool neg, .slice ao ds.length cap] 76)) w1.heap.size neg (.slice ao ds.length cap) ds from ⟨hb1.alloc hb1.size _, hb1.size, by simp, by simp [go_sem], by simp [go_sem], (unveil DD).later ((Below.refl _ _).alloc (Nat.le_refl _) _)⟩)
  have hdl : ds.length ≤ 30 := norm_len (unveil DD).1 (unveil NN) (k := 30) (by rw [unveil VD, show ten 30 = 1000000000000000000000000000000 by decide]; omega)
  clear hbv
  go_loopw [7, 8] (fun s i wr => ∃ k : Nat, k ≤ ds.length + p + 1 ∧ (k ≤ ds.length ∨ k ≤ p + 1) ∧ i = .int .i64 k ∧ s = .string ⟨(refS p ds k).toArray⟩ ∧ TBx w wr w1.heap.size neg (.slice ao ds.length cap) ds) (fun s i _ => ds.length + p + 1 - (intOf i).toNat)
  case atStart => exact ⟨0, by omega, by omega, rfl, rfl, unveil T0⟩
  case round =>
    obtain ⟨k, hk, hk2, rfl, rfl, tb⟩ := hrel
    have TB := veil tb
    obtain ⟨_, _, sz, e0, e1, _⟩ := tb
    have AT := veil (at_any (.slice ao ds.length cap) ds k wr (by omega) (unveil TB).dg)
    have hd09 := (unveil DD).1 k
    obtain ⟨dig, hdig⟩ : ∃ dig, ds.getD k 0 = dig := ⟨_, rfl⟩
    rw [hdig] at AT hd09
    have HD := veil hdig
    clear hdig
    have cv := conv1 wr dig hd09
    have HB := veil (show UInt8.ofNat (48 + dig.toNat) = UInt8.ofNat (48 + dig.toNat) from rfl)
    have hrl := refS_len p ds k
    obtain ⟨rs, hrs⟩ : ∃ rs, refS p ds k = rs := ⟨_, rfl⟩
    rw [hrs] at hrl ⊢
    have RS := veil hrs
    clear hrs
    by_cases h1 : k < ds.length ∨ k ≤ p
    · obtain ⟨bb, hbb⟩ : ∃ bb, UInt8.ofNat (48 + dig.toNat) = bb := ⟨_, rfl⟩
      have HBB := veil hbb
      rw [hbb] at cv
      have HD : Hid (UInt8.ofNat (48 + (ds.getD k 0).toNat) = bb) := veil (by rw [unveil HD]; exact hbb)
      clear hbb
      rcases (show (p = k ∧ k < ds.length ∧ 0 < p) ∨ (k < ds.length ∧ ¬ k = p) ∨ (p = k ∧ k < ds.length ∧ ¬ 0 < p) ∨ (p = k ∧ ¬ k < ds.length ∧ 0 < p) ∨ (¬ k < ds.length ∧ k ≤ p ∧ ¬ k = p) ∨ (p = k ∧ ¬ k < ds.length ∧ ¬ 0 < p) by omega) with ⟨rfl, hh⟩ | hh | ⟨rfl, hh⟩ | ⟨rfl, hh⟩ | hh | ⟨rfl, hh⟩
      · skip
        have q1 : decide ((p : Int) < (ds.length : Int)) = true := by simp; omega
        have q1' : decide (p < ds.length) = true := by simp; omega
        have q4 : decide (0 < p) = true := by simp; omega
        have q5 : decide ((0 : Int) < (p : Int)) = true := by simp; omega
        have r0 := catS [46] rs (by simp; omega)
        have r1 := catS [bb] ([46] ++ rs) (by simp; omega)
        have Q := veil (show refS p ds (p + 1) = [bb] ++ ([46] ++ rs) by rw [refS, if_pos ⟨by omega, by omega⟩, unveil RS, unveil HD]; rfl)
        generalize [46] ++ rs = rs1 at r0 r1 Q
        generalize [bb] ++ rs1 = rs2 at r1 Q
        go_wp2_with (go_at_call 50; refine (unveil AT).mono ?_; rintro e w' ⟨rfl, rfl⟩)
        go_roundw
        case rel => exact ⟨p + 1, by omega, by omega, by go_num, by rw [unveil Q], (unveil TB).later ((Below.refl _ _).alloc (Nat.le_refl _) _)⟩
        case measure => simp [intOf]; omega
      · skip
        have q1 : decide ((k : Int) < (ds.length : Int)) = true := by simp; omega
        have q1' : decide (k < ds.length) = true := by simp; omega
        have r1 := catS [bb] rs (by simp; omega)
        have Q := veil (show refS p ds (k + 1) = [bb] ++ rs by rw [refS, if_neg (by omega), unveil RS, unveil HD]; rfl)
        generalize [bb] ++ rs = rs2 at r1 Q
        have q3 : ((k : Int) == (p : Int)) = false := by simp; omega
        have q3' : (k == p) = false := by simp; omega
        go_wp2_with (go_at_call 50; refine (unveil AT).mono ?_; rintro e w' ⟨rfl, rfl⟩)
        go_roundw
        case rel => exact ⟨k + 1, by omega, by omega, by go_num, by rw [unveil Q], (unveil TB).later ((Below.refl _ _).alloc (Nat.le_refl _) _)⟩
        case measure => simp [intOf]; omega
      · skip
        have q1 : decide ((p : Int) < (ds.length : Int)) = true := by simp; omega
        have q1' : decide (p < ds.length) = true := by simp; omega
        have r1 := catS [bb] rs (by simp; omega)
        have Q := veil (show refS p ds (p + 1) = [bb] ++ rs by rw [refS, if_neg (by omega), unveil RS, unveil HD]; rfl)
        generalize [bb] ++ rs = rs2 at r1 Q
        have q4 : decide (0 < p) = false := by simp; omega
        have q5 : decide ((0 : Int) < (p : Int)) = false := by simp; omega
        go_wp2_with (go_at_call 50; refine (unveil AT).mono ?_; rintro e w' ⟨rfl, rfl⟩)
        go_roundw
        case rel => exact ⟨p + 1, by omega, by omega, by go_num, by rw [unveil Q], (unveil TB).later ((Below.refl _ _).alloc (Nat.le_refl _) _)⟩
        case measure => simp [intOf]; omega
      · skip
        have q1 : decide ((p : Int) < (ds.length : Int)) = false := by simp; omega
        have q1' : decide (p < ds.length) = false := by simp; omega
        have q2 : decide ((p : Int) ≤ (p : Int)) = true := by simp
        have q2' : decide (p ≤ p) = true := by simp
        have q4 : decide (0 < p) = true := by simp; omega
        have q5 : decide ((0 : Int) < (p : Int)) = true := by simp; omega
        have r0 := catS [46] rs (by simp; omega)
        have r1 := catS [bb] ([46] ++ rs) (by simp; omega)
        have Q := veil (show refS p ds (p + 1) = [bb] ++ ([46] ++ rs) by rw [refS, if_pos ⟨by omega, by omega⟩, unveil RS, unveil HD]; rfl)
        generalize [46] ++ rs = rs1 at r0 r1 Q
        generalize [bb] ++ rs1 = rs2 at r1 Q
        go_wp2_with (go_at_call 50; refine (unveil AT).mono ?_; rintro e w' ⟨rfl, rfl⟩)
        go_roundw
        case rel => exact ⟨p + 1, by omega, by omega, by go_num, by rw [unveil Q], (unveil TB).later ((Below.refl _ _).alloc (Nat.le_refl _) _)⟩
        case measure => simp [intOf]; omega
      · skip
        have q1 : decide ((k : Int) < (ds.length : Int)) = false := by simp; omega
        have q1' : decide (k < ds.length) = false := by simp; omega
        have q2 : decide ((k : Int) ≤ (p : Int)) = true := by simp; omega
        have q2' : decide (k ≤ p) = true := by simp; omega
        have r1 := catS [bb] rs (by simp; omega)
        have Q := veil (show refS p ds (k + 1) = [bb] ++ rs by rw [refS, if_neg (by omega), unveil RS, unveil HD]; rfl)
        generalize [bb] ++ rs = rs2 at r1 Q
        have q3 : ((k : Int) == (p : Int)) = false := by simp; omega
        have q3' : (k == p) = false := by simp; omega
        go_wp2_with (go_at_call 50; refine (unveil AT).mono ?_; rintro e w' ⟨rfl, rfl⟩)
        go_roundw
        case rel => exact ⟨k + 1, by omega, by omega, by go_num, by rw [unveil Q], (unveil TB).later ((Below.refl _ _).alloc (Nat.le_refl _) _)⟩
        case measure => simp [intOf]; omega
      · skip
        have q1 : decide ((p : Int) < (ds.length : Int)) = false := by simp; omega
        have q1' : decide (p < ds.length) = false := by simp; omega
        have q2 : decide ((p : Int) ≤ (p : Int)) = true := by simp
        have q2' : decide (p ≤ p) = true := by simp
        have r1 := catS [bb] rs (by simp; omega)
        have Q := veil (show refS p ds (p + 1) = [bb] ++ rs by rw [refS, if_neg (by omega), unveil RS, unveil HD]; rfl)
        generalize [bb] ++ rs = rs2 at r1 Q
        have q4 : decide (0 < p) = false := by simp; omega
        have q5 : decide ((0 : Int) < (p : Int)) = false := by simp; omega
        go_wp2_with (go_at_call 50; refine (unveil AT).mono ?_; rintro e w' ⟨rfl, rfl⟩)
        go_roundw
        case rel => exact ⟨p + 1, by omega, by omega, by go_num, by rw [unveil Q], (unveil TB).later ((Below.refl _ _).alloc (Nat.le_refl _) _)⟩
        case measure => simp [intOf]; omega
    · have q1 : decide ((k : Int) < (ds.length : Int)) = false := by simp; omega
      have q1' : decide (k < ds.length) = false := by simp; omega
      have q2 : decide ((k : Int) ≤ (p : Int)) = false := by simp; omega
      have q2' : decide (k ≤ p) = false := by simp; omega
      have hK := veil (show max ds.length (p + 1) = k by omega)
      have r1 := catS [45] rs (by simp; omega)
      have Q := veil (show 45 :: rs = [45] ++ rs from rfl)
      generalize [45] ++ rs = rs2 at r1 Q
      cases neg
      · go_wp2_with fail
        go_ret2
        refine ⟨ds, ?_, (unveil TB).bel, (unveil DD).1, unveil NN, unveil VD⟩
        rw [unveil hK, unveil RS]; rfl
      · go_wp2_with fail
        go_ret2
        refine ⟨ds, ?_, (unveil TB).bel, (unveil DD).1, unveil NN, unveil VD⟩
        rw [unveil hK, unveil RS]
        show _ = Ending.returned (.tuple #[.string ⟨(45 :: rs).toArray⟩, .int .i64 0])
        rw [unveil Q]; rfl

end Go.Proofs.YthkeoeobpdminaaDoor
