/-
  WALK: take (made by gen_wcan8.py).
-/
import Derived.Test.YteedkcmjhdabeaaDoorWCan7
namespace Go.Proofs.YteedkcmjhdabeaaDoor
open Go.RowKit
set_option linter.unusedVariables false
set_option linter.unusedSimpArgs false
theorem bel_drB {B : Nat} {w W : World} (b : Below B w W) (q : Nat) : Below B w (W.drewN q) := ⟨b.os, b.tape, b.output, b.size, b.block⟩
theorem gr_bel {B g : Nat} {W : World} (i : Nat) (v : Value) (h : B ≤ g) (hs : B ≤ W.heap.size) : Below B W (W.setCell ⟨g, i, none⟩ v) := (Below.refl B W).grown (setCell_gr W g i v) hs (fun k e => by injection e with e; omega)
set_option maxRecDepth 100000 in
set_option maxHeartbeats 2000000 in
theorem take1_any (w : World) (p : Pg) (B ub gn gu gp : Nat) (bn bu bp : List Bool) (x y : Nat) (h : US w p B ub gn gu gp bn bu bp) (hB : B ≤ w.heap.size) (hx : x ≤ 262143) :
    Calls Tryd.prog 51 #[.pointer (some ⟨ub, 0, none⟩), .agg #[.int .i64 1, .int .i64 (x : Int), .int .i64 (y : Int)]] w fun e w' => TkE w p B ub gn gu gp bn bu bp ⟨1, x, y⟩ e w' := by
  have H0 := Lib.hid (h.later (allocBP w (.cells #[.int .i64 1, .int .i64 (x : Int), .int .i64 (y : Int)] 38)))
  have H1 := Lib.hid ((h.later (allocBP w (.cells #[.int .i64 1, .int .i64 (x : Int), .int .i64 (y : Int)] 38))).later (drew1B _))
  have BD := Lib.hid (p := Below B w (w.alloc (.cells #[.int .i64 1, .int .i64 (x : Int), .int .i64 (y : Int)] 38)).drew) ((((Below.refl B w).alloc hB _)).drew)
  have TI := Lib.hid (p := BkP (w.alloc (.cells #[.int .i64 1, .int .i64 (x : Int), .int .i64 (y : Int)] 38)) w.heap.size #[.int .i64 1, .int .i64 (x : Int), .int .i64 (y : Int)] 38) (heapN _ _)
  obtain ⟨u0, u1, u2, u3, u4⟩ := box_all5P ((h.later (allocBP w (.cells #[.int .i64 1, .int .i64 (x : Int), .int .i64 (y : Int)] 38))).box)
  have i1 := TI.out.cell 1
  simp at i1
  have GL := Lib.hid (World.ownsRow.lt h.rp gp rfl).2
  by_cases hlt : x < bp.length
  · have KN := Lib.hid (p := ∀ W, RBo W B gp bp → Calls Tryd.prog 57 #[.slice (some ⟨gp, 0, none⟩) bp.length bp.length, .int .i64 (x : Int)] W fun e w' => e = .returned (.bool true) ∧ w' = W.setCell ⟨gp, x, none⟩ (.bool true)) (fun W q => by
      refine (note_any x q (by omega)).mono ?_
      rintro e w' (⟨_, h1, h2⟩ | ⟨h0, _, _⟩)
      · exact ⟨h1, h2⟩
      · exact absurd hlt h0)
    have IB := Lib.hid (p := inB p ⟨1, x, y⟩) (by have := h.lp; refine ⟨?_, ?_, ?_, ?_, ?_⟩ <;> intro q <;> simp at q ⊢ <;> omega)
    have BX := Lib.hid (gr_bel (W := (w.alloc (.cells #[.int .i64 1, .int .i64 (x : Int), .int .i64 (y : Int)] 38)).drew) x (.bool true) (show B ≤ gp from h.bb.2.2.2) (Nat.le_trans hB BD.out.size))
    clear h hB
    go_enter Tryd.func51, Tryd.ntmps51
    go_wp2
    go_region_held3 (fun w' => w'.cell? ⟨ub, 2, none⟩ = some (.slice (some ⟨gp, 0, none⟩) bp.length bp.length) ∧ w'.cell? ⟨w.heap.size, 1, none⟩ = some (.int .i64 (x : Int)))
      (refine ⟨?_, ?_⟩ <;> first | assumption | (go_simp; done))
      (first
      | (go_at_call 57; refine (KN.out _ H1.out.rp).mono ?_; rintro e w3 ⟨rfl, h2⟩; subst h2; have z1 := (H1.out.setP x).box; obtain ⟨v0, v1, v2, v3, v4⟩ := box_all5P z1; have z2 := (TI.out.laterP (drew1B _)).other gp x (.bool true) (by have := GL.out; omega); have z3 := z2.cell 1; simp at z3 v0 v1 v2))
    go_wp2
    go_ret
    exact ⟨⟨true, rfl, ⟨fun _ => IB.out, fun _ => rfl⟩, fun _ => by simpa [mkB] using (H0.out.setP x).later (drew1B _)⟩, BD.out.trans BX.out⟩
  · have KN := Lib.hid (p := ∀ W, RBo W B gp bp → Calls Tryd.prog 57 #[.slice (some ⟨gp, 0, none⟩) bp.length bp.length, .int .i64 (x : Int)] W fun e w' => e = .returned (.bool false) ∧ w' = W) (fun W q => by
      refine (note_any x q (by omega)).mono ?_
      rintro e w' (⟨h0, _, _⟩ | ⟨_, h1, h2⟩)
      · exact absurd h0 hlt
      · exact ⟨h1, h2⟩)
    have IB := Lib.hid (p := ¬ inB p ⟨1, x, y⟩) (by
      intro q
      have q2 := q.1 rfl
      have := h.lp
      simp at q2
      omega)
    have j1 := (TI.out.laterP (drew1B _)).cell 1
    obtain ⟨v0, v1, v2, v3, v4⟩ := box_all5P H1.out.box
    simp at j1
    clear h hB
    go_enter Tryd.func51, Tryd.ntmps51
    go_wp2
    go_region_held3 (fun w' => w'.cell? ⟨ub, 2, none⟩ = some (.slice (some ⟨gp, 0, none⟩) bp.length bp.length) ∧ w'.cell? ⟨w.heap.size, 1, none⟩ = some (.int .i64 (x : Int)))
      (refine ⟨?_, ?_⟩ <;> first | assumption | (go_simp; done))
      (first
      | (go_at_call 57; refine (KN.out _ H1.out.rp).mono ?_; rintro e w3 ⟨rfl, h2⟩; subst h2))
    go_wp2
    go_ret
    exact ⟨⟨false, rfl, ⟨(fun e => by cases e), fun q => absurd q IB.out⟩, (fun e => by cases e)⟩, BD.out⟩
set_option maxRecDepth 100000 in
set_option maxHeartbeats 2000000 in
theorem take3_any (w : World) (p : Pg) (B ub gn gu gp : Nat) (bn bu bp : List Bool) (x y : Nat) (h : US w p B ub gn gu gp bn bu bp) (hB : B ≤ w.heap.size) (hx : x ≤ 262143) :
    Calls Tryd.prog 51 #[.pointer (some ⟨ub, 0, none⟩), .agg #[.int .i64 3, .int .i64 (x : Int), .int .i64 (y : Int)]] w fun e w' => TkE w p B ub gn gu gp bn bu bp ⟨3, x, y⟩ e w' := by
  have H0 := Lib.hid (h.later (allocBP w (.cells #[.int .i64 3, .int .i64 (x : Int), .int .i64 (y : Int)] 38)))
  have H1 := Lib.hid ((h.later (allocBP w (.cells #[.int .i64 3, .int .i64 (x : Int), .int .i64 (y : Int)] 38))).later (drew1B _))
  have BD := Lib.hid (p := Below B w (w.alloc (.cells #[.int .i64 3, .int .i64 (x : Int), .int .i64 (y : Int)] 38)).drew) ((((Below.refl B w).alloc hB _)).drew)
  have TI := Lib.hid (p := BkP (w.alloc (.cells #[.int .i64 3, .int .i64 (x : Int), .int .i64 (y : Int)] 38)) w.heap.size #[.int .i64 3, .int .i64 (x : Int), .int .i64 (y : Int)] 38) (heapN _ _)
  obtain ⟨u0, u1, u2, u3, u4⟩ := box_all5P ((h.later (allocBP w (.cells #[.int .i64 3, .int .i64 (x : Int), .int .i64 (y : Int)] 38))).box)
  have i1 := TI.out.cell 1
  simp at i1
  have GL := Lib.hid (World.ownsRow.lt h.rn gn rfl).2
  by_cases hlt : x < bn.length
  · have KN := Lib.hid (p := ∀ W, RBo W B gn bn → Calls Tryd.prog 57 #[.slice (some ⟨gn, 0, none⟩) bn.length bn.length, .int .i64 (x : Int)] W fun e w' => e = .returned (.bool true) ∧ w' = W.setCell ⟨gn, x, none⟩ (.bool true)) (fun W q => by
      refine (note_any x q (by omega)).mono ?_
      rintro e w' (⟨_, h1, h2⟩ | ⟨h0, _, _⟩)
      · exact ⟨h1, h2⟩
      · exact absurd hlt h0)
    have IB := Lib.hid (p := inB p ⟨3, x, y⟩) (by have := h.ln; refine ⟨?_, ?_, ?_, ?_, ?_⟩ <;> intro q <;> simp at q ⊢ <;> omega)
    have BX := Lib.hid (gr_bel (W := (w.alloc (.cells #[.int .i64 3, .int .i64 (x : Int), .int .i64 (y : Int)] 38)).drew) x (.bool true) (show B ≤ gn from h.bb.2.1) (Nat.le_trans hB BD.out.size))
    clear h hB
    go_enter Tryd.func51, Tryd.ntmps51
    go_wp2
    go_region_held3 (fun w' => w'.cell? ⟨ub, 0, none⟩ = some (.slice (some ⟨gn, 0, none⟩) bn.length bn.length) ∧ w'.cell? ⟨w.heap.size, 1, none⟩ = some (.int .i64 (x : Int)))
      (refine ⟨?_, ?_⟩ <;> first | assumption | (go_simp; done))
      (first
      | (go_at_call 57; refine (KN.out _ H1.out.rn).mono ?_; rintro e w3 ⟨rfl, h2⟩; subst h2; have z1 := (H1.out.setN x).box; obtain ⟨v0, v1, v2, v3, v4⟩ := box_all5P z1; have z2 := (TI.out.laterP (drew1B _)).other gn x (.bool true) (by have := GL.out; omega); have z3 := z2.cell 1; simp at z3 v0 v1 v2))
    go_wp2
    go_ret
    exact ⟨⟨true, rfl, ⟨fun _ => IB.out, fun _ => rfl⟩, fun _ => by simpa [mkB] using (H0.out.setN x).later (drew1B _)⟩, BD.out.trans BX.out⟩
  · have KN := Lib.hid (p := ∀ W, RBo W B gn bn → Calls Tryd.prog 57 #[.slice (some ⟨gn, 0, none⟩) bn.length bn.length, .int .i64 (x : Int)] W fun e w' => e = .returned (.bool false) ∧ w' = W) (fun W q => by
      refine (note_any x q (by omega)).mono ?_
      rintro e w' (⟨h0, _, _⟩ | ⟨_, h1, h2⟩)
      · exact absurd h0 hlt
      · exact ⟨h1, h2⟩)
    have IB := Lib.hid (p := ¬ inB p ⟨3, x, y⟩) (by
      intro q
      have q2 := q.2.1 rfl
      have := h.ln
      simp at q2
      omega)
    have j1 := (TI.out.laterP (drew1B _)).cell 1
    obtain ⟨v0, v1, v2, v3, v4⟩ := box_all5P H1.out.box
    simp at j1
    clear h hB
    go_enter Tryd.func51, Tryd.ntmps51
    go_wp2
    go_region_held3 (fun w' => w'.cell? ⟨ub, 0, none⟩ = some (.slice (some ⟨gn, 0, none⟩) bn.length bn.length) ∧ w'.cell? ⟨w.heap.size, 1, none⟩ = some (.int .i64 (x : Int)))
      (refine ⟨?_, ?_⟩ <;> first | assumption | (go_simp; done))
      (first
      | (go_at_call 57; refine (KN.out _ H1.out.rn).mono ?_; rintro e w3 ⟨rfl, h2⟩; subst h2))
    go_wp2
    go_ret
    exact ⟨⟨false, rfl, ⟨(fun e => by cases e), fun q => absurd q IB.out⟩, (fun e => by cases e)⟩, BD.out⟩
set_option maxRecDepth 100000 in
set_option maxHeartbeats 2000000 in
theorem take28_any (w : World) (p : Pg) (B ub gn gu gp : Nat) (bn bu bp : List Bool) (x y : Nat) (h : US w p B ub gn gu gp bn bu bp) (hB : B ≤ w.heap.size) (hx : x ≤ 262143) :
    Calls Tryd.prog 51 #[.pointer (some ⟨ub, 0, none⟩), .agg #[.int .i64 28, .int .i64 (x : Int), .int .i64 (y : Int)]] w fun e w' => TkE w p B ub gn gu gp bn bu bp ⟨28, x, y⟩ e w' := by
  have H0 := Lib.hid (h.later (allocBP w (.cells #[.int .i64 28, .int .i64 (x : Int), .int .i64 (y : Int)] 38)))
  have H1 := Lib.hid ((h.later (allocBP w (.cells #[.int .i64 28, .int .i64 (x : Int), .int .i64 (y : Int)] 38))).later (drew1B _))
  have BD := Lib.hid (p := Below B w (w.alloc (.cells #[.int .i64 28, .int .i64 (x : Int), .int .i64 (y : Int)] 38)).drew) ((((Below.refl B w).alloc hB _)).drew)
  have TI := Lib.hid (p := BkP (w.alloc (.cells #[.int .i64 28, .int .i64 (x : Int), .int .i64 (y : Int)] 38)) w.heap.size #[.int .i64 28, .int .i64 (x : Int), .int .i64 (y : Int)] 38) (heapN _ _)
  obtain ⟨u0, u1, u2, u3, u4⟩ := box_all5P ((h.later (allocBP w (.cells #[.int .i64 28, .int .i64 (x : Int), .int .i64 (y : Int)] 38))).box)
  have i1 := TI.out.cell 1
  simp at i1
  have GL := Lib.hid (World.ownsRow.lt h.ru gu rfl).2
  by_cases hlt : x < bu.length
  · have KN := Lib.hid (p := ∀ W, RBo W B gu bu → Calls Tryd.prog 57 #[.slice (some ⟨gu, 0, none⟩) bu.length bu.length, .int .i64 (x : Int)] W fun e w' => e = .returned (.bool true) ∧ w' = W.setCell ⟨gu, x, none⟩ (.bool true)) (fun W q => by
      refine (note_any x q (by omega)).mono ?_
      rintro e w' (⟨_, h1, h2⟩ | ⟨h0, _, _⟩)
      · exact ⟨h1, h2⟩
      · exact absurd hlt h0)
    have IB := Lib.hid (p := inB p ⟨28, x, y⟩) (by have := h.lu; refine ⟨?_, ?_, ?_, ?_, ?_⟩ <;> intro q <;> simp at q ⊢ <;> omega)
    have BX := Lib.hid (gr_bel (W := (w.alloc (.cells #[.int .i64 28, .int .i64 (x : Int), .int .i64 (y : Int)] 38)).drew) x (.bool true) (show B ≤ gu from h.bb.2.2.1) (Nat.le_trans hB BD.out.size))
    clear h hB
    go_enter Tryd.func51, Tryd.ntmps51
    go_wp2
    go_region_held3 (fun w' => w'.cell? ⟨ub, 1, none⟩ = some (.slice (some ⟨gu, 0, none⟩) bu.length bu.length) ∧ w'.cell? ⟨w.heap.size, 1, none⟩ = some (.int .i64 (x : Int)))
      (refine ⟨?_, ?_⟩ <;> first | assumption | (go_simp; done))
      (first
      | (go_at_call 57; refine (KN.out _ H1.out.ru).mono ?_; rintro e w3 ⟨rfl, h2⟩; subst h2; have z1 := (H1.out.setU x).box; obtain ⟨v0, v1, v2, v3, v4⟩ := box_all5P z1; have z2 := (TI.out.laterP (drew1B _)).other gu x (.bool true) (by have := GL.out; omega); have z3 := z2.cell 1; simp at z3 v0 v1 v2))
    go_wp2
    go_ret
    exact ⟨⟨true, rfl, ⟨fun _ => IB.out, fun _ => rfl⟩, fun _ => by simpa [mkB] using (H0.out.setU x).later (drew1B _)⟩, BD.out.trans BX.out⟩
  · have KN := Lib.hid (p := ∀ W, RBo W B gu bu → Calls Tryd.prog 57 #[.slice (some ⟨gu, 0, none⟩) bu.length bu.length, .int .i64 (x : Int)] W fun e w' => e = .returned (.bool false) ∧ w' = W) (fun W q => by
      refine (note_any x q (by omega)).mono ?_
      rintro e w' (⟨h0, _, _⟩ | ⟨_, h1, h2⟩)
      · exact absurd h0 hlt
      · exact ⟨h1, h2⟩)
    have IB := Lib.hid (p := ¬ inB p ⟨28, x, y⟩) (by
      intro q
      have q2 := q.2.2.1 rfl
      have := h.lu
      simp at q2
      omega)
    have j1 := (TI.out.laterP (drew1B _)).cell 1
    obtain ⟨v0, v1, v2, v3, v4⟩ := box_all5P H1.out.box
    simp at j1
    clear h hB
    go_enter Tryd.func51, Tryd.ntmps51
    go_wp2
    go_region_held3 (fun w' => w'.cell? ⟨ub, 1, none⟩ = some (.slice (some ⟨gu, 0, none⟩) bu.length bu.length) ∧ w'.cell? ⟨w.heap.size, 1, none⟩ = some (.int .i64 (x : Int)))
      (refine ⟨?_, ?_⟩ <;> first | assumption | (go_simp; done))
      (first
      | (go_at_call 57; refine (KN.out _ H1.out.ru).mono ?_; rintro e w3 ⟨rfl, h2⟩; subst h2))
    go_wp2
    go_ret
    exact ⟨⟨false, rfl, ⟨(fun e => by cases e), fun q => absurd q IB.out⟩, (fun e => by cases e)⟩, BD.out⟩
set_option maxRecDepth 100000 in
set_option maxHeartbeats 2000000 in
theorem take4_any (w : World) (p : Pg) (B ub gn gu gp : Nat) (bn bu bp : List Bool) (x y : Nat) (h : US w p B ub gn gu gp bn bu bp) (hB : B ≤ w.heap.size) (hx : x ≤ 262143) :
    Calls Tryd.prog 51 #[.pointer (some ⟨ub, 0, none⟩), .agg #[.int .i64 4, .int .i64 (x : Int), .int .i64 (y : Int)]] w fun e w' => TkE w p B ub gn gu gp bn bu bp ⟨4, x, y⟩ e w' := by
  have U1 := Lib.hid (h.later (allocBP w (.cells #[.int .i64 4, .int .i64 (x : Int), .int .i64 (y : Int)] 38)))
  have BD := Lib.hid (p := Below B w (w.alloc (.cells #[.int .i64 4, .int .i64 (x : Int), .int .i64 (y : Int)] 38))) ((Below.refl B w).alloc hB _)
  have TI := Lib.hid (p := BkP (w.alloc (.cells #[.int .i64 4, .int .i64 (x : Int), .int .i64 (y : Int)] 38)) w.heap.size #[.int .i64 4, .int .i64 (x : Int), .int .i64 (y : Int)] 38) (heapN _ _)
  obtain ⟨u0, u1, u2, u3, u4⟩ := box_all5P U1.out.box
  have IB := Lib.hid (p := inB p ⟨4, x, y⟩ ↔ (x : Int) < p.cells) (by unfold inB; simp)
  by_cases hlt : (x : Int) < p.cells
  · have b1 : decide ((x : Int) < p.cells) = true := decide_eq_true hlt
    clear h hB
    go_enter Tryd.func51, Tryd.ntmps51
    go_wp2
    generalize hW : w.alloc (.cells #[.int .i64 4, .int .i64 (x : Int), .int .i64 (y : Int)] 38) = W1 at *
    clear hW
    have i1 := TI.out.cell 1
    simp at i1
    go_quiet (fail)
    go_wp2
    go_ret
    exact ⟨⟨true, rfl, ⟨fun _ => IB.out.2 hlt, fun _ => rfl⟩, fun _ => by simpa [mkB] using U1.out.later (drewBP _ _)⟩, bel_drB BD.out _⟩
  · have b1 : decide ((x : Int) < p.cells) = false := decide_eq_false hlt
    clear h hB
    go_enter Tryd.func51, Tryd.ntmps51
    go_wp2
    generalize hW : w.alloc (.cells #[.int .i64 4, .int .i64 (x : Int), .int .i64 (y : Int)] 38) = W1 at *
    clear hW
    have i1 := TI.out.cell 1
    simp at i1
    go_quiet (fail)
    go_wp2
    go_ret
    exact ⟨⟨false, rfl, ⟨(fun e => by cases e), fun q => absurd (IB.out.1 q) (by omega)⟩, (fun e => by cases e)⟩, bel_drB BD.out _⟩
set_option maxRecDepth 100000 in
set_option maxHeartbeats 2000000 in
theorem take5_any (w : World) (p : Pg) (B ub gn gu gp : Nat) (bn bu bp : List Bool) (x y : Nat) (h : US w p B ub gn gu gp bn bu bp) (hB : B ≤ w.heap.size) (hx : x ≤ 262143) :
    Calls Tryd.prog 51 #[.pointer (some ⟨ub, 0, none⟩), .agg #[.int .i64 5, .int .i64 (x : Int), .int .i64 (y : Int)]] w fun e w' => TkE w p B ub gn gu gp bn bu bp ⟨5, x, y⟩ e w' := by
  have U1 := Lib.hid (h.later (allocBP w (.cells #[.int .i64 5, .int .i64 (x : Int), .int .i64 (y : Int)] 38)))
  have BD := Lib.hid (p := Below B w (w.alloc (.cells #[.int .i64 5, .int .i64 (x : Int), .int .i64 (y : Int)] 38))) ((Below.refl B w).alloc hB _)
  have TI := Lib.hid (p := BkP (w.alloc (.cells #[.int .i64 5, .int .i64 (x : Int), .int .i64 (y : Int)] 38)) w.heap.size #[.int .i64 5, .int .i64 (x : Int), .int .i64 (y : Int)] 38) (heapN _ _)
  obtain ⟨u0, u1, u2, u3, u4⟩ := box_all5P U1.out.box
  have IB := Lib.hid (p := inB p ⟨5, x, y⟩ ↔ (x : Int) < p.cells) (by unfold inB; simp)
  by_cases hlt : (x : Int) < p.cells
  · have b1 : decide ((x : Int) < p.cells) = true := decide_eq_true hlt
    clear h hB
    go_enter Tryd.func51, Tryd.ntmps51
    go_wp2
    generalize hW : w.alloc (.cells #[.int .i64 5, .int .i64 (x : Int), .int .i64 (y : Int)] 38) = W1 at *
    clear hW
    have i1 := TI.out.cell 1
    simp at i1
    go_quiet (fail)
    go_wp2
    go_ret
    exact ⟨⟨true, rfl, ⟨fun _ => IB.out.2 hlt, fun _ => rfl⟩, fun _ => by simpa [mkB] using U1.out.later (drewBP _ _)⟩, bel_drB BD.out _⟩
  · have b1 : decide ((x : Int) < p.cells) = false := decide_eq_false hlt
    clear h hB
    go_enter Tryd.func51, Tryd.ntmps51
    go_wp2
    generalize hW : w.alloc (.cells #[.int .i64 5, .int .i64 (x : Int), .int .i64 (y : Int)] 38) = W1 at *
    clear hW
    have i1 := TI.out.cell 1
    simp at i1
    go_quiet (fail)
    go_wp2
    go_ret
    exact ⟨⟨false, rfl, ⟨(fun e => by cases e), fun q => absurd (IB.out.1 q) (by omega)⟩, (fun e => by cases e)⟩, bel_drB BD.out _⟩
set_option maxRecDepth 100000 in
set_option maxHeartbeats 2000000 in
theorem take6_any (w : World) (p : Pg) (B ub gn gu gp : Nat) (bn bu bp : List Bool) (x y : Nat) (h : US w p B ub gn gu gp bn bu bp) (hB : B ≤ w.heap.size) (hx : x ≤ 262143) :
    Calls Tryd.prog 51 #[.pointer (some ⟨ub, 0, none⟩), .agg #[.int .i64 6, .int .i64 (x : Int), .int .i64 (y : Int)]] w fun e w' => TkE w p B ub gn gu gp bn bu bp ⟨6, x, y⟩ e w' := by
  have U1 := Lib.hid (h.later (allocBP w (.cells #[.int .i64 6, .int .i64 (x : Int), .int .i64 (y : Int)] 38)))
  have BD := Lib.hid (p := Below B w (w.alloc (.cells #[.int .i64 6, .int .i64 (x : Int), .int .i64 (y : Int)] 38))) ((Below.refl B w).alloc hB _)
  have TI := Lib.hid (p := BkP (w.alloc (.cells #[.int .i64 6, .int .i64 (x : Int), .int .i64 (y : Int)] 38)) w.heap.size #[.int .i64 6, .int .i64 (x : Int), .int .i64 (y : Int)] 38) (heapN _ _)
  obtain ⟨u0, u1, u2, u3, u4⟩ := box_all5P U1.out.box
  have IB := Lib.hid (p := inB p ⟨6, x, y⟩ ↔ (x : Int) < p.slots) (by unfold inB; simp)
  by_cases hlt : (x : Int) < p.slots
  · have b1 : decide ((x : Int) < p.slots) = true := decide_eq_true hlt
    clear h hB
    go_enter Tryd.func51, Tryd.ntmps51
    go_wp2
    generalize hW : w.alloc (.cells #[.int .i64 6, .int .i64 (x : Int), .int .i64 (y : Int)] 38) = W1 at *
    clear hW
    have i1 := TI.out.cell 1
    simp at i1
    go_quiet (fail)
    go_wp2
    go_ret
    exact ⟨⟨true, rfl, ⟨fun _ => IB.out.2 hlt, fun _ => rfl⟩, fun _ => by simpa [mkB] using U1.out.later (drewBP _ _)⟩, bel_drB BD.out _⟩
  · have b1 : decide ((x : Int) < p.slots) = false := decide_eq_false hlt
    clear h hB
    go_enter Tryd.func51, Tryd.ntmps51
    go_wp2
    generalize hW : w.alloc (.cells #[.int .i64 6, .int .i64 (x : Int), .int .i64 (y : Int)] 38) = W1 at *
    clear hW
    have i1 := TI.out.cell 1
    simp at i1
    go_quiet (fail)
    go_wp2
    go_ret
    exact ⟨⟨false, rfl, ⟨(fun e => by cases e), fun q => absurd (IB.out.1 q) (by omega)⟩, (fun e => by cases e)⟩, bel_drB BD.out _⟩
set_option maxRecDepth 100000 in
set_option maxHeartbeats 2000000 in
theorem take7_any (w : World) (p : Pg) (B ub gn gu gp : Nat) (bn bu bp : List Bool) (x y : Nat) (h : US w p B ub gn gu gp bn bu bp) (hB : B ≤ w.heap.size) (hx : x ≤ 262143) :
    Calls Tryd.prog 51 #[.pointer (some ⟨ub, 0, none⟩), .agg #[.int .i64 7, .int .i64 (x : Int), .int .i64 (y : Int)]] w fun e w' => TkE w p B ub gn gu gp bn bu bp ⟨7, x, y⟩ e w' := by
  have U1 := Lib.hid (h.later (allocBP w (.cells #[.int .i64 7, .int .i64 (x : Int), .int .i64 (y : Int)] 38)))
  have BD := Lib.hid (p := Below B w (w.alloc (.cells #[.int .i64 7, .int .i64 (x : Int), .int .i64 (y : Int)] 38))) ((Below.refl B w).alloc hB _)
  have TI := Lib.hid (p := BkP (w.alloc (.cells #[.int .i64 7, .int .i64 (x : Int), .int .i64 (y : Int)] 38)) w.heap.size #[.int .i64 7, .int .i64 (x : Int), .int .i64 (y : Int)] 38) (heapN _ _)
  obtain ⟨u0, u1, u2, u3, u4⟩ := box_all5P U1.out.box
  have IB := Lib.hid (p := inB p ⟨7, x, y⟩ ↔ (x : Int) < p.slots) (by unfold inB; simp)
  by_cases hlt : (x : Int) < p.slots
  · have b1 : decide ((x : Int) < p.slots) = true := decide_eq_true hlt
    clear h hB
    go_enter Tryd.func51, Tryd.ntmps51
    go_wp2
    generalize hW : w.alloc (.cells #[.int .i64 7, .int .i64 (x : Int), .int .i64 (y : Int)] 38) = W1 at *
    clear hW
    have i1 := TI.out.cell 1
    simp at i1
    go_quiet (fail)
    go_wp2
    go_ret
    exact ⟨⟨true, rfl, ⟨fun _ => IB.out.2 hlt, fun _ => rfl⟩, fun _ => by simpa [mkB] using U1.out.later (drewBP _ _)⟩, bel_drB BD.out _⟩
  · have b1 : decide ((x : Int) < p.slots) = false := decide_eq_false hlt
    clear h hB
    go_enter Tryd.func51, Tryd.ntmps51
    go_wp2
    generalize hW : w.alloc (.cells #[.int .i64 7, .int .i64 (x : Int), .int .i64 (y : Int)] 38) = W1 at *
    clear hW
    have i1 := TI.out.cell 1
    simp at i1
    go_quiet (fail)
    go_wp2
    go_ret
    exact ⟨⟨false, rfl, ⟨(fun e => by cases e), fun q => absurd (IB.out.1 q) (by omega)⟩, (fun e => by cases e)⟩, bel_drB BD.out _⟩
set_option maxRecDepth 100000 in
set_option maxHeartbeats 2000000 in
theorem takeE_any (k : Nat) (n1 : k ≠ 1) (n3 : k ≠ 3) (n28 : k ≠ 28) (n4 : k ≠ 4) (n5 : k ≠ 5) (n6 : k ≠ 6) (n7 : k ≠ 7) (w : World) (p : Pg) (B ub gn gu gp : Nat) (bn bu bp : List Bool) (x y : Nat) (h : US w p B ub gn gu gp bn bu bp) (hB : B ≤ w.heap.size) (hx : x ≤ 262143) :
    Calls Tryd.prog 51 #[.pointer (some ⟨ub, 0, none⟩), .agg #[.int .i64 (k : Int), .int .i64 (x : Int), .int .i64 (y : Int)]] w fun e w' => TkE w p B ub gn gu gp bn bu bp ⟨k, x, y⟩ e w' := by
  have U1 := Lib.hid (h.later (allocBP w (.cells #[.int .i64 (k : Int), .int .i64 (x : Int), .int .i64 (y : Int)] 38)))
  have BD := Lib.hid (p := Below B w (w.alloc (.cells #[.int .i64 (k : Int), .int .i64 (x : Int), .int .i64 (y : Int)] 38))) ((Below.refl B w).alloc hB _)
  have IB := Lib.hid (p := inB p ⟨k, x, y⟩) (by refine ⟨?_, ?_, ?_, ?_, ?_⟩ <;> intro q <;> simp at q <;> omega)
  have MB := Lib.hid (p := mkB 3 bn ⟨k, x, y⟩ = bn ∧ mkB 28 bu ⟨k, x, y⟩ = bu ∧ mkB 1 bp ⟨k, x, y⟩ = bp) (by unfold mkB; simp; omega)
  have b1 : ((k : Int) == 1) = false := by simp; omega
  have b3 : ((k : Int) == 3) = false := by simp; omega
  have b28 : ((k : Int) == 28) = false := by simp; omega
  have b4 : ((k : Int) == 4) = false := by simp; omega
  have b5 : ((k : Int) == 5) = false := by simp; omega
  have b6 : ((k : Int) == 6) = false := by simp; omega
  have b7 : ((k : Int) == 7) = false := by simp; omega
  clear h hB n1 n3 n28 n4 n5 n6 n7
  go_enter Tryd.func51, Tryd.ntmps51
  go_wp2
  go_ret
  exact ⟨⟨true, rfl, ⟨fun _ => IB.out, fun _ => rfl⟩, fun _ => by rw [MB.out.1, MB.out.2.1, MB.out.2.2]; exact U1.out⟩, BD.out⟩
theorem take_any (i : In) (hi : i.okP) (w : World) (p : Pg) (B ub gn gu gp : Nat) (bn bu bp : List Bool) (h : US w p B ub gn gu gp bn bu bp) (hB : B ≤ w.heap.size) :
    Calls Tryd.prog 51 #[.pointer (some ⟨ub, 0, none⟩), .agg #[.int .i64 i.o, .int .i64 i.a, .int .i64 i.b]] w fun e w' => TkE w p B ub gn gu gp bn bu bp i e w' := by
  obtain ⟨o, a, b⟩ := i
  have ho := hi.1
  have ho2 := hi.2.1
  have ha := hi.2.2.1
  have hb := hi.2.2.2.2.1
  have ha2 := hi.2.2.2.1
  have hm := (tab_facts o.toNat (by simp at ho ho2 ⊢; omega)).2.1
  simp only at ho ho2 ha hb ha2 hm
  obtain ⟨k, rfl⟩ : ∃ k : Nat, o = (k : Int) := ⟨o.toNat, by omega⟩
  obtain ⟨x, rfl⟩ : ∃ x : Nat, a = (x : Int) := ⟨a.toNat, by omega⟩
  obtain ⟨y, rfl⟩ : ∃ y : Nat, b = (y : Int) := ⟨b.toNat, by omega⟩
  have hx : x ≤ 262143 := by omega
  clear hi
  by_cases e1 : k = 1
  · subst e1; exact take1_any w p B ub gn gu gp bn bu bp x y h hB hx
  by_cases e3 : k = 3
  · subst e3; exact take3_any w p B ub gn gu gp bn bu bp x y h hB hx
  by_cases e28 : k = 28
  · subst e28; exact take28_any w p B ub gn gu gp bn bu bp x y h hB hx
  by_cases e4 : k = 4
  · subst e4; exact take4_any w p B ub gn gu gp bn bu bp x y h hB hx
  by_cases e5 : k = 5
  · subst e5; exact take5_any w p B ub gn gu gp bn bu bp x y h hB hx
  by_cases e6 : k = 6
  · subst e6; exact take6_any w p B ub gn gu gp bn bu bp x y h hB hx
  by_cases e7 : k = 7
  · subst e7; exact take7_any w p B ub gn gu gp bn bu bp x y h hB hx
  exact takeE_any k e1 e3 e28 e4 e5 e6 e7 w p B ub gn gu gp bn bu bp x y h hB hx
end Go.Proofs.YteedkcmjhdabeaaDoor
