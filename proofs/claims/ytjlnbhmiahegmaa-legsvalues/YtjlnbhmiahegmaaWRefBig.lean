/-
  WALKS: the document's answer (payoffref01): Minus, Plus.
-/
import Derived.Test.YtjlnbhmiahegmaaWRefOut
import Derived.Test.YtjlnbhmiahegmaaPBox
import Derived.Test.YtjlnbhmiahegmaaWRefMinus
import Derived.Deep.RegionHeld3
namespace Go.Proofs.Ytjlnbhmiahegmaa
open Go.RowKit
set_option linter.unusedVariables false

theorem absI_opp (a : Int) : absI (-a) = absI a := by unfold absI; split <;> split <;> omega

theorem minusB_any (x : Value) (z : Int) (w : World) (hx : BigR w x z) :
    Calls Try.prog 57 #[x] w fun e w' => ∃ y, e = .returned y ∧ Below w.heap.size w w' ∧ BigR w' y (-z) := by
  obtain ⟨o, rfl, ds, hd, hn, hv⟩ := hx
  obtain ⟨_, _, ao, cap, rfl, _⟩ := id hd
  have Hd := veil hd
  have HV := veil hv
  have HS := veil (show ¬ -z = 0 → (!decide (z < 0)) = decide (-z < 0) by
    intro h; by_cases h1 : z < 0 <;> simp [h1] <;> omega)
  clear hd hv
  generalize decide (z < 0) = neg at *
  go_enter Try.func57, Try.ntmps57
  go_wp2_with fail
  refine (sign_any _ _ ds _ ((unveil Hd).later (((Below.refl _ _).alloc (Nat.le_refl _) _).alloc (by simp) _))).mono ?_
  rintro e w1 ⟨rfl, hb⟩
  have f0 := box_later hb (k := w.heap.size + 1) (j := 0) (by simp)
  have f1 := box_later hb (k := w.heap.size + 1) (j := 1) (by simp)
  obtain ⟨f00, f01⟩ := f0
  obtain ⟨f10, f11⟩ := f1
  simp [go_sem] at f00 f01 f10 f11
  have bel : Below w.heap.size w w1 := (((Below.refl _ _).alloc (Nat.le_refl _) _).alloc (by simp) _).trans (hb.mono (by simp; omega))
  have D1 := veil ((unveil Hd).later bel)
  clear hb
  go_wp2_with fail
  have fin : Below w.heap.size w ((w1.setCell ⟨w.heap.size + 1, 0, none⟩ (.bool (!neg && decide (0 < ds.length)))).setCell ⟨w.heap.size + 1, 1, none⟩ (.slice ao ds.length cap)) := (bel.setCell (by simp) _).setCell (by simp) _
  refine bodyPost_ret (v := .agg #[.bool (!neg && decide (0 < ds.length)), .slice ao ds.length cap]) (by simp [results, Try.results57, go_sem, f00, f10]) rfl ?_
  exact ⟨_, rfl, fin, bigR_sign ((unveil Hd).later fin) hn (by rw [unveil HV, absI_opp]) (unveil HS)⟩

set_option maxHeartbeats 1600000 in
theorem plusB_same (na : Bool) (oa ob : Option Addr) (ca cb : Nat) (a b : List Int) (w : World) (ha : Dg w (.slice oa a.length ca) a) (hb : Dg w (.slice ob b.length cb) b)  (la : a.length ≤ 399) (lb : b.length ≤ 399) :
    Calls Try.prog 59 #[.agg #[.bool na, .slice oa a.length ca], .agg #[.bool na, .slice ob b.length cb]] w fun e w' => ∃ v, ∃ ds, e = .returned (.agg #[.bool (na && decide (0 < ds.length)), v]) ∧ Below w.heap.size w w' ∧ Dg w' v ds ∧ dval ds = dval a + dval b ∧ Norm ds ∧ Fresh w.heap.size v := by
  have Ha := veil ha
  have Hb := veil hb
  have PM := PBox.made w na na (.slice oa a.length ca) (.slice ob b.length cb)
  clear ha hb
  go_enter Try.func59, Try.ntmps59
  go_wp2_with fail
  generalize (((w.alloc (.cells #[.bool na, .slice oa a.length ca] 98)).alloc (.cells #[.bool na, .slice ob b.length cb] 98)).alloc (.cells #[.bool false, .slice none 0 0] 98)) = W at *
  have PV := veil PM
  obtain ⟨s, bel, a0, a1, b0, b1, r0, r1, q0, q1⟩ := PM
  have CP := veil (plus_any _ _ a b W.drew ((unveil Ha).later bel.drew) ((unveil Hb).later bel.drew) 399 la lb (by omega))
  have PD := veil (unveil PV).drew
  go_region_held3 (fun w' => w'.cell? ⟨w.heap.size, 0, none⟩ = some (.bool na) ∧ w'.cell? ⟨w.heap.size, 1, none⟩ = some (.slice oa a.length ca) ∧ w'.cell? ⟨w.heap.size + 1, 0, none⟩ = some (.bool na) ∧ w'.cell? ⟨w.heap.size + 1, 1, none⟩ = some (.slice ob b.length cb)) (refine ⟨?_, ?_, ?_, ?_⟩ <;> first | assumption | (rw [World.cell?_setCell_other _ _ _ _ (by simp), World.cell?_setCell_other _ _ _ _ (by simp)]; assumption) | (simp [*]; done)) (first | (go_at_call 79; refine (unveil CP).mono ?_; rintro e w3 ⟨v, rfl, hb3, ds, d3, v3, n3, f3⟩; have P3 := (unveil PD).later hb3; obtain ⟨s3, bel3, a03, a13, b03, b13, r03, r13, q03, q13⟩ := id P3; obtain ⟨_, _, o3, c3, rfl, _⟩ := id d3; have D3 := veil d3; have V3 := veil v3; have N3 := veil n3; have F3 := veil f3; have P3' := veil P3; clear d3 v3 n3 P3 hb3 f3) | (go_at_call 63; refine (sign_any _ _ ds w3 (unveil D3)).mono ?_; rintro e w4 ⟨rfl, hb4⟩; have P4 := (unveil P3').later hb4; obtain ⟨s4, bel4, a04, a14, b04, b14, r04, r14, q04, q14⟩ := id P4; have D4 := veil ((unveil D3).later hb4); clear hb4 P4))
  all_goals go_wp2_with fail
  all_goals
    refine bodyPost_ret (v := .agg #[.bool (na && decide (0 < ds.length)), .slice o3 ds.length c3]) (by simp [results, Try.results59, go_sem, r04, r14]) rfl ?_
    exact ⟨_, ds, rfl, (bel4.setCell (by simp; omega) _).setCell (by simp; omega) _, ((unveil D4).set (unveil F3) s _).set (unveil F3) s _, unveil V3, unveil N3, (unveil F3).mono (Nat.le_of_lt (Nat.lt_of_le_of_lt (by omega) s))⟩

set_option maxHeartbeats 1600000 in
theorem plusB_up_true (oa ob : Option Addr) (ca cb : Nat) (a b : List Int) (w : World) (ha : Dg w (.slice oa a.length ca) a) (hb : Dg w (.slice ob b.length cb) b) (na : Norm a) (nb : Norm b) (hgt : dval a < dval b) (hle : a.length ≤ b.length) (la : a.length ≤ 399) (lb : b.length ≤ 399) :
    Calls Try.prog 59 #[.agg #[.bool true, .slice oa a.length ca], .agg #[.bool false, .slice ob b.length cb]] w fun e w' => ∃ v, ∃ ds, e = .returned (.agg #[.bool (false && decide (0 < ds.length)), v]) ∧ Below w.heap.size w w' ∧ Dg w' v ds ∧ dval ds = dval b - dval a ∧ Norm ds ∧ Fresh w.heap.size v := by
  have Ha := veil ha
  have Hb := veil hb
  have PM := PBox.made w true false (.slice oa a.length ca) (.slice ob b.length cb)
  clear ha hb
  go_enter Try.func59, Try.ntmps59
  go_wp2_with fail
  generalize (((w.alloc (.cells #[.bool true, .slice oa a.length ca] 98)).alloc (.cells #[.bool false, .slice ob b.length cb] 98)).alloc (.cells #[.bool false, .slice none 0 0] 98)) = W at *
  refine (above_any _ _ b a W ((unveil Hb).later PM.bel) ((unveil Ha).later PM.bel) nb na).mono ?_
  rintro e W2 ⟨rfl, n2, hW2⟩
  rw [show decide (dval a < dval b) = true by simp; omega]
  have PM2 : PBox w W2 (.slice oa a.length ca) (.slice ob b.length cb) (.bool true) (.bool false) := by rw [hW2]; exact PM.drewN n2
  clear hW2 PM
  go_wp2_with fail
  have PV := veil PM2
  obtain ⟨s, bel, a0, a1, b0, b1, r0, r1, q0, q1⟩ := PM2
  have CP := veil (minus_any _ _ b a W2.drew ((unveil Hb).later bel.drew) ((unveil Ha).later bel.drew) (by omega) hle (by omega))
  have PD := veil (unveil PV).drew
  go_region_held3 (fun w' => w'.cell? ⟨w.heap.size, 0, none⟩ = some (.bool true) ∧ w'.cell? ⟨w.heap.size, 1, none⟩ = some (.slice oa a.length ca) ∧ w'.cell? ⟨w.heap.size + 1, 0, none⟩ = some (.bool false) ∧ w'.cell? ⟨w.heap.size + 1, 1, none⟩ = some (.slice ob b.length cb)) (refine ⟨?_, ?_, ?_, ?_⟩ <;> first | assumption | (rw [World.cell?_setCell_other _ _ _ _ (by simp), World.cell?_setCell_other _ _ _ _ (by simp)]; assumption) | (simp [*]; done)) (first | (go_at_call 81; refine (unveil CP).mono ?_; rintro e w3 ⟨v, rfl, hb3, ds, d3, v3, n3, f3⟩; have P3 := (unveil PD).later hb3; obtain ⟨s3, bel3, a03, a13, b03, b13, r03, r13, q03, q13⟩ := id P3; obtain ⟨_, _, o3, c3, rfl, _⟩ := id d3; have D3 := veil d3; have V3 := veil v3; have N3 := veil n3; have F3 := veil f3; have P3' := veil P3; clear d3 v3 n3 P3 hb3 f3) | (go_at_call 63; refine (sign_any _ _ ds w3 (unveil D3)).mono ?_; rintro e w4 ⟨rfl, hb4⟩; have P4 := (unveil P3').later hb4; obtain ⟨s4, bel4, a04, a14, b04, b14, r04, r14, q04, q14⟩ := id P4; have D4 := veil ((unveil D3).later hb4); clear hb4 P4))
  all_goals go_wp2_with fail
  all_goals
    refine bodyPost_ret (v := .agg #[.bool (false && decide (0 < ds.length)), .slice o3 ds.length c3]) (by simp [results, Try.results59, go_sem, r04, r14]) rfl ?_
    exact ⟨_, ds, rfl, (bel4.setCell (by simp; omega) _).setCell (by simp; omega) _, ((unveil D4).set (unveil F3) s _).set (unveil F3) s _, unveil V3, unveil N3, (unveil F3).mono (Nat.le_of_lt (Nat.lt_of_le_of_lt (by omega) s))⟩

set_option maxHeartbeats 1600000 in
theorem plusB_down_true (oa ob : Option Addr) (ca cb : Nat) (a b : List Int) (w : World) (ha : Dg w (.slice oa a.length ca) a) (hb : Dg w (.slice ob b.length cb) b) (na : Norm a) (nb : Norm b) (hgt : dval b ≤ dval a) (hle : b.length ≤ a.length) (la : a.length ≤ 399) (lb : b.length ≤ 399) :
    Calls Try.prog 59 #[.agg #[.bool true, .slice oa a.length ca], .agg #[.bool false, .slice ob b.length cb]] w fun e w' => ∃ v, ∃ ds, e = .returned (.agg #[.bool (true && decide (0 < ds.length)), v]) ∧ Below w.heap.size w w' ∧ Dg w' v ds ∧ dval ds = dval a - dval b ∧ Norm ds ∧ Fresh w.heap.size v := by
  have Ha := veil ha
  have Hb := veil hb
  have PM := PBox.made w true false (.slice oa a.length ca) (.slice ob b.length cb)
  clear ha hb
  go_enter Try.func59, Try.ntmps59
  go_wp2_with fail
  generalize (((w.alloc (.cells #[.bool true, .slice oa a.length ca] 98)).alloc (.cells #[.bool false, .slice ob b.length cb] 98)).alloc (.cells #[.bool false, .slice none 0 0] 98)) = W at *
  refine (above_any _ _ b a W ((unveil Hb).later PM.bel) ((unveil Ha).later PM.bel) nb na).mono ?_
  rintro e W2 ⟨rfl, n2, hW2⟩
  rw [show decide (dval a < dval b) = false by simp; omega]
  have PM2 : PBox w W2 (.slice oa a.length ca) (.slice ob b.length cb) (.bool true) (.bool false) := by rw [hW2]; exact PM.drewN n2
  clear hW2 PM
  go_wp2_with fail
  have PV := veil PM2
  obtain ⟨s, bel, a0, a1, b0, b1, r0, r1, q0, q1⟩ := PM2
  have CP := veil (minus_any _ _ a b W2.drew ((unveil Ha).later bel.drew) ((unveil Hb).later bel.drew) (by omega) hle (by omega))
  have PD := veil (unveil PV).drew
  go_region_held3 (fun w' => w'.cell? ⟨w.heap.size, 0, none⟩ = some (.bool true) ∧ w'.cell? ⟨w.heap.size, 1, none⟩ = some (.slice oa a.length ca) ∧ w'.cell? ⟨w.heap.size + 1, 0, none⟩ = some (.bool false) ∧ w'.cell? ⟨w.heap.size + 1, 1, none⟩ = some (.slice ob b.length cb)) (refine ⟨?_, ?_, ?_, ?_⟩ <;> first | assumption | (rw [World.cell?_setCell_other _ _ _ _ (by simp), World.cell?_setCell_other _ _ _ _ (by simp)]; assumption) | (simp [*]; done)) (first | (go_at_call 81; refine (unveil CP).mono ?_; rintro e w3 ⟨v, rfl, hb3, ds, d3, v3, n3, f3⟩; have P3 := (unveil PD).later hb3; obtain ⟨s3, bel3, a03, a13, b03, b13, r03, r13, q03, q13⟩ := id P3; obtain ⟨_, _, o3, c3, rfl, _⟩ := id d3; have D3 := veil d3; have V3 := veil v3; have N3 := veil n3; have F3 := veil f3; have P3' := veil P3; clear d3 v3 n3 P3 hb3 f3) | (go_at_call 63; refine (sign_any _ _ ds w3 (unveil D3)).mono ?_; rintro e w4 ⟨rfl, hb4⟩; have P4 := (unveil P3').later hb4; obtain ⟨s4, bel4, a04, a14, b04, b14, r04, r14, q04, q14⟩ := id P4; have D4 := veil ((unveil D3).later hb4); clear hb4 P4))
  all_goals go_wp2_with fail
  all_goals
    refine bodyPost_ret (v := .agg #[.bool (true && decide (0 < ds.length)), .slice o3 ds.length c3]) (by simp [results, Try.results59, go_sem, r04, r14]) rfl ?_
    exact ⟨_, ds, rfl, (bel4.setCell (by simp; omega) _).setCell (by simp; omega) _, ((unveil D4).set (unveil F3) s _).set (unveil F3) s _, unveil V3, unveil N3, (unveil F3).mono (Nat.le_of_lt (Nat.lt_of_le_of_lt (by omega) s))⟩

set_option maxHeartbeats 1600000 in
theorem plusB_up_false (oa ob : Option Addr) (ca cb : Nat) (a b : List Int) (w : World) (ha : Dg w (.slice oa a.length ca) a) (hb : Dg w (.slice ob b.length cb) b) (na : Norm a) (nb : Norm b) (hgt : dval a < dval b) (hle : a.length ≤ b.length) (la : a.length ≤ 399) (lb : b.length ≤ 399) :
    Calls Try.prog 59 #[.agg #[.bool false, .slice oa a.length ca], .agg #[.bool true, .slice ob b.length cb]] w fun e w' => ∃ v, ∃ ds, e = .returned (.agg #[.bool (true && decide (0 < ds.length)), v]) ∧ Below w.heap.size w w' ∧ Dg w' v ds ∧ dval ds = dval b - dval a ∧ Norm ds ∧ Fresh w.heap.size v := by
  have Ha := veil ha
  have Hb := veil hb
  have PM := PBox.made w false true (.slice oa a.length ca) (.slice ob b.length cb)
  clear ha hb
  go_enter Try.func59, Try.ntmps59
  go_wp2_with fail
  generalize (((w.alloc (.cells #[.bool false, .slice oa a.length ca] 98)).alloc (.cells #[.bool true, .slice ob b.length cb] 98)).alloc (.cells #[.bool false, .slice none 0 0] 98)) = W at *
  refine (above_any _ _ b a W ((unveil Hb).later PM.bel) ((unveil Ha).later PM.bel) nb na).mono ?_
  rintro e W2 ⟨rfl, n2, hW2⟩
  rw [show decide (dval a < dval b) = true by simp; omega]
  have PM2 : PBox w W2 (.slice oa a.length ca) (.slice ob b.length cb) (.bool false) (.bool true) := by rw [hW2]; exact PM.drewN n2
  clear hW2 PM
  go_wp2_with fail
  have PV := veil PM2
  obtain ⟨s, bel, a0, a1, b0, b1, r0, r1, q0, q1⟩ := PM2
  have CP := veil (minus_any _ _ b a W2.drew ((unveil Hb).later bel.drew) ((unveil Ha).later bel.drew) (by omega) hle (by omega))
  have PD := veil (unveil PV).drew
  go_region_held3 (fun w' => w'.cell? ⟨w.heap.size, 0, none⟩ = some (.bool false) ∧ w'.cell? ⟨w.heap.size, 1, none⟩ = some (.slice oa a.length ca) ∧ w'.cell? ⟨w.heap.size + 1, 0, none⟩ = some (.bool true) ∧ w'.cell? ⟨w.heap.size + 1, 1, none⟩ = some (.slice ob b.length cb)) (refine ⟨?_, ?_, ?_, ?_⟩ <;> first | assumption | (rw [World.cell?_setCell_other _ _ _ _ (by simp), World.cell?_setCell_other _ _ _ _ (by simp)]; assumption) | (simp [*]; done)) (first | (go_at_call 81; refine (unveil CP).mono ?_; rintro e w3 ⟨v, rfl, hb3, ds, d3, v3, n3, f3⟩; have P3 := (unveil PD).later hb3; obtain ⟨s3, bel3, a03, a13, b03, b13, r03, r13, q03, q13⟩ := id P3; obtain ⟨_, _, o3, c3, rfl, _⟩ := id d3; have D3 := veil d3; have V3 := veil v3; have N3 := veil n3; have F3 := veil f3; have P3' := veil P3; clear d3 v3 n3 P3 hb3 f3) | (go_at_call 63; refine (sign_any _ _ ds w3 (unveil D3)).mono ?_; rintro e w4 ⟨rfl, hb4⟩; have P4 := (unveil P3').later hb4; obtain ⟨s4, bel4, a04, a14, b04, b14, r04, r14, q04, q14⟩ := id P4; have D4 := veil ((unveil D3).later hb4); clear hb4 P4))
  all_goals go_wp2_with fail
  all_goals
    refine bodyPost_ret (v := .agg #[.bool (true && decide (0 < ds.length)), .slice o3 ds.length c3]) (by simp [results, Try.results59, go_sem, r04, r14]) rfl ?_
    exact ⟨_, ds, rfl, (bel4.setCell (by simp; omega) _).setCell (by simp; omega) _, ((unveil D4).set (unveil F3) s _).set (unveil F3) s _, unveil V3, unveil N3, (unveil F3).mono (Nat.le_of_lt (Nat.lt_of_le_of_lt (by omega) s))⟩

set_option maxHeartbeats 1600000 in
theorem plusB_down_false (oa ob : Option Addr) (ca cb : Nat) (a b : List Int) (w : World) (ha : Dg w (.slice oa a.length ca) a) (hb : Dg w (.slice ob b.length cb) b) (na : Norm a) (nb : Norm b) (hgt : dval b ≤ dval a) (hle : b.length ≤ a.length) (la : a.length ≤ 399) (lb : b.length ≤ 399) :
    Calls Try.prog 59 #[.agg #[.bool false, .slice oa a.length ca], .agg #[.bool true, .slice ob b.length cb]] w fun e w' => ∃ v, ∃ ds, e = .returned (.agg #[.bool (false && decide (0 < ds.length)), v]) ∧ Below w.heap.size w w' ∧ Dg w' v ds ∧ dval ds = dval a - dval b ∧ Norm ds ∧ Fresh w.heap.size v := by
  have Ha := veil ha
  have Hb := veil hb
  have PM := PBox.made w false true (.slice oa a.length ca) (.slice ob b.length cb)
  clear ha hb
  go_enter Try.func59, Try.ntmps59
  go_wp2_with fail
  generalize (((w.alloc (.cells #[.bool false, .slice oa a.length ca] 98)).alloc (.cells #[.bool true, .slice ob b.length cb] 98)).alloc (.cells #[.bool false, .slice none 0 0] 98)) = W at *
  refine (above_any _ _ b a W ((unveil Hb).later PM.bel) ((unveil Ha).later PM.bel) nb na).mono ?_
  rintro e W2 ⟨rfl, n2, hW2⟩
  rw [show decide (dval a < dval b) = false by simp; omega]
  have PM2 : PBox w W2 (.slice oa a.length ca) (.slice ob b.length cb) (.bool false) (.bool true) := by rw [hW2]; exact PM.drewN n2
  clear hW2 PM
  go_wp2_with fail
  have PV := veil PM2
  obtain ⟨s, bel, a0, a1, b0, b1, r0, r1, q0, q1⟩ := PM2
  have CP := veil (minus_any _ _ a b W2.drew ((unveil Ha).later bel.drew) ((unveil Hb).later bel.drew) (by omega) hle (by omega))
  have PD := veil (unveil PV).drew
  go_region_held3 (fun w' => w'.cell? ⟨w.heap.size, 0, none⟩ = some (.bool false) ∧ w'.cell? ⟨w.heap.size, 1, none⟩ = some (.slice oa a.length ca) ∧ w'.cell? ⟨w.heap.size + 1, 0, none⟩ = some (.bool true) ∧ w'.cell? ⟨w.heap.size + 1, 1, none⟩ = some (.slice ob b.length cb)) (refine ⟨?_, ?_, ?_, ?_⟩ <;> first | assumption | (rw [World.cell?_setCell_other _ _ _ _ (by simp), World.cell?_setCell_other _ _ _ _ (by simp)]; assumption) | (simp [*]; done)) (first | (go_at_call 81; refine (unveil CP).mono ?_; rintro e w3 ⟨v, rfl, hb3, ds, d3, v3, n3, f3⟩; have P3 := (unveil PD).later hb3; obtain ⟨s3, bel3, a03, a13, b03, b13, r03, r13, q03, q13⟩ := id P3; obtain ⟨_, _, o3, c3, rfl, _⟩ := id d3; have D3 := veil d3; have V3 := veil v3; have N3 := veil n3; have F3 := veil f3; have P3' := veil P3; clear d3 v3 n3 P3 hb3 f3) | (go_at_call 63; refine (sign_any _ _ ds w3 (unveil D3)).mono ?_; rintro e w4 ⟨rfl, hb4⟩; have P4 := (unveil P3').later hb4; obtain ⟨s4, bel4, a04, a14, b04, b14, r04, r14, q04, q14⟩ := id P4; have D4 := veil ((unveil D3).later hb4); clear hb4 P4))
  all_goals go_wp2_with fail
  all_goals
    refine bodyPost_ret (v := .agg #[.bool (false && decide (0 < ds.length)), .slice o3 ds.length c3]) (by simp [results, Try.results59, go_sem, r04, r14]) rfl ?_
    exact ⟨_, ds, rfl, (bel4.setCell (by simp; omega) _).setCell (by simp; omega) _, ((unveil D4).set (unveil F3) s _).set (unveil F3) s _, unveil V3, unveil N3, (unveil F3).mono (Nat.le_of_lt (Nat.lt_of_le_of_lt (by omega) s))⟩

end Go.Proofs.Ytjlnbhmiahegmaa
