import Derived.Test.YtccjeipkljdhdaaGreatDoorXAW
namespace Go.Proofs.YtccjeipkljdhdaaGreatDoor
open Go.RowKit
set_option linter.unusedVariables false
set_option linter.unusedSimpArgs false
theorem bel_drB {B : Nat} {w W : World} (b : Below B w W) (q : Nat) : Below B w (W.drewN q) := ⟨b.os, b.tape, b.output, b.size, b.block⟩
theorem gr_bel {B g : Nat} {W : World} (i : Nat) (v : Value) (h : B ≤ g) (hs : B ≤ W.heap.size) : Below B W (W.setCell ⟨g, i, none⟩ v) := (Below.refl B W).grown (setCell_gr W g i v) hs (fun k e => by injection e with e; omega)
set_option maxRecDepth 100000 in
set_option maxHeartbeats 2000000 in
theorem take1_any (w : World) (p : Pg) (B ub gn gu gp : Nat) (bn bu bp : List Bool) (x y : Nat) (h : US w p B ub gn gu gp bn bu bp) (hB : B ≤ w.heap.size) (hx : x ≤ 262143) :
    Calls Tryz.prog 106 #[.pointer (some ⟨ub, 0, none⟩), .agg #[.int .i64 1, .int .i64 (x : Int), .int .i64 (y : Int)]] w fun e w' => TkE w p B ub gn gu gp bn bu bp ⟨1, x, y⟩ e w' := by
  have H0 := Lib.hid (h.later (allocBP w (.cells #[.int .i64 1, .int .i64 (x : Int), .int .i64 (y : Int)] 42)))
  have H1 := Lib.hid ((h.later (allocBP w (.cells #[.int .i64 1, .int .i64 (x : Int), .int .i64 (y : Int)] 42))).later (drew1B _))
  have BD := Lib.hid (p := Below B w (w.alloc (.cells #[.int .i64 1, .int .i64 (x : Int), .int .i64 (y : Int)] 42)).drew) ((((Below.refl B w).alloc hB _)).drew)
  have TI := Lib.hid (p := BkP (w.alloc (.cells #[.int .i64 1, .int .i64 (x : Int), .int .i64 (y : Int)] 42)) w.heap.size #[.int .i64 1, .int .i64 (x : Int), .int .i64 (y : Int)] 42) (heapN _ _)
  obtain ⟨u0, u1, u2, u3, u4⟩ := box_all5P ((h.later (allocBP w (.cells #[.int .i64 1, .int .i64 (x : Int), .int .i64 (y : Int)] 42))).box)
  have i1 := TI.out.cell 1
  simp at i1
  have GL := Lib.hid (World.ownsRow.lt h.rp gp rfl).2
  by_cases hlt : x < bp.length
  · have KN := Lib.hid (p := ∀ W, RBo W B gp bp → Calls Tryz.prog 122 #[.slice (some ⟨gp, 0, none⟩) bp.length bp.length, .int .i64 (x : Int)] W fun e w' => e = .returned (.bool true) ∧ w' = W.setCell ⟨gp, x, none⟩ (.bool true)) (fun W q => by
      refine (note_any x q (by omega)).mono ?_
      rintro e w' (⟨_, h1, h2⟩ | ⟨h0, _, _⟩)
      · exact ⟨h1, h2⟩
      · exact absurd hlt h0)
    have IB := Lib.hid (p := inB p ⟨1, x, y⟩) (by have := h.lp; refine ⟨?_, ?_, ?_, ?_, ?_⟩ <;> intro q <;> simp at q ⊢ <;> omega)
    have BX := Lib.hid (gr_bel (W := (w.alloc (.cells #[.int .i64 1, .int .i64 (x : Int), .int .i64 (y : Int)] 42)).drew) x (.bool true) (show B ≤ gp from h.bb.2.2.2) (Nat.le_trans hB BD.out.size))
    clear h hB
    go_enter Tryz.func106, Tryz.ntmps106
    go_wp2
    go_region_held3 (fun w' => w'.cell? ⟨ub, 2, none⟩ = some (.slice (some ⟨gp, 0, none⟩) bp.length bp.length) ∧ w'.cell? ⟨w.heap.size, 1, none⟩ = some (.int .i64 (x : Int)))
      (refine ⟨?_, ?_⟩ <;> first | assumption | (go_simp; done))
      (first
      | (go_at_call 122; refine (KN.out _ H1.out.rp).mono ?_; rintro e w3 ⟨rfl, h2⟩; subst h2; have z1 := (H1.out.setP x).box; obtain ⟨v0, v1, v2, v3, v4⟩ := box_all5P z1; have z2 := (TI.out.laterP (drew1B _)).other gp x (.bool true) (by have := GL.out; omega); have z3 := z2.cell 1; simp at z3 v0 v1 v2))
    go_wp2
    go_ret
    exact ⟨⟨true, rfl, ⟨fun _ => IB.out, fun _ => rfl⟩, fun _ => by simpa [mkB] using (H0.out.setP x).later (drew1B _)⟩, BD.out.trans BX.out⟩
  · have KN := Lib.hid (p := ∀ W, RBo W B gp bp → Calls Tryz.prog 122 #[.slice (some ⟨gp, 0, none⟩) bp.length bp.length, .int .i64 (x : Int)] W fun e w' => e = .returned (.bool false) ∧ w' = W) (fun W q => by
      refine (note_any x q (by omega)).mono ?_
      rintro e w' (⟨h0, _, _⟩ | ⟨_, h1, h2⟩)
      · exact absurd h0 hlt
      · exact ⟨h1, h2⟩)
    have IB := Lib.hid (p := ¬ inB p ⟨1, x, y⟩) (by
      intro q
      have q2 := q.1 rfl
      have := h.lp
      simp at q2
      omega)
    have j1 := (TI.out.laterP (drew1B _)).cell 1
    obtain ⟨v0, v1, v2, v3, v4⟩ := box_all5P H1.out.box
    simp at j1
    clear h hB
    go_enter Tryz.func106, Tryz.ntmps106
    go_wp2
    go_region_held3 (fun w' => w'.cell? ⟨ub, 2, none⟩ = some (.slice (some ⟨gp, 0, none⟩) bp.length bp.length) ∧ w'.cell? ⟨w.heap.size, 1, none⟩ = some (.int .i64 (x : Int)))
      (refine ⟨?_, ?_⟩ <;> first | assumption | (go_simp; done))
      (first
      | (go_at_call 122; refine (KN.out _ H1.out.rp).mono ?_; rintro e w3 ⟨rfl, h2⟩; subst h2))
    go_wp2
    go_ret
    exact ⟨⟨false, rfl, ⟨(fun e => by cases e), fun q => absurd q IB.out⟩, (fun e => by cases e)⟩, BD.out⟩
set_option maxRecDepth 100000 in
set_option maxHeartbeats 2000000 in
theorem take3_any (w : World) (p : Pg) (B ub gn gu gp : Nat) (bn bu bp : List Bool) (x y : Nat) (h : US w p B ub gn gu gp bn bu bp) (hB : B ≤ w.heap.size) (hx : x ≤ 262143) :
    Calls Tryz.prog 106 #[.pointer (some ⟨ub, 0, none⟩), .agg #[.int .i64 3, .int .i64 (x : Int), .int .i64 (y : Int)]] w fun e w' => TkE w p B ub gn gu gp bn bu bp ⟨3, x, y⟩ e w' := by
  have H0 := Lib.hid (h.later (allocBP w (.cells #[.int .i64 3, .int .i64 (x : Int), .int .i64 (y : Int)] 42)))
  have H1 := Lib.hid ((h.later (allocBP w (.cells #[.int .i64 3, .int .i64 (x : Int), .int .i64 (y : Int)] 42))).later (drew1B _))
  have BD := Lib.hid (p := Below B w (w.alloc (.cells #[.int .i64 3, .int .i64 (x : Int), .int .i64 (y : Int)] 42)).drew) ((((Below.refl B w).alloc hB _)).drew)
  have TI := Lib.hid (p := BkP (w.alloc (.cells #[.int .i64 3, .int .i64 (x : Int), .int .i64 (y : Int)] 42)) w.heap.size #[.int .i64 3, .int .i64 (x : Int), .int .i64 (y : Int)] 42) (heapN _ _)
  obtain ⟨u0, u1, u2, u3, u4⟩ := box_all5P ((h.later (allocBP w (.cells #[.int .i64 3, .int .i64 (x : Int), .int .i64 (y : Int)] 42))).box)
  have i1 := TI.out.cell 1
  simp at i1
  have GL := Lib.hid (World.ownsRow.lt h.rn gn rfl).2
  by_cases hlt : x < bn.length
  · have KN := Lib.hid (p := ∀ W, RBo W B gn bn → Calls Tryz.prog 122 #[.slice (some ⟨gn, 0, none⟩) bn.length bn.length, .int .i64 (x : Int)] W fun e w' => e = .returned (.bool true) ∧ w' = W.setCell ⟨gn, x, none⟩ (.bool true)) (fun W q => by
      refine (note_any x q (by omega)).mono ?_
      rintro e w' (⟨_, h1, h2⟩ | ⟨h0, _, _⟩)
      · exact ⟨h1, h2⟩
      · exact absurd hlt h0)
    have IB := Lib.hid (p := inB p ⟨3, x, y⟩) (by have := h.ln; refine ⟨?_, ?_, ?_, ?_, ?_⟩ <;> intro q <;> simp at q ⊢ <;> omega)
    have BX := Lib.hid (gr_bel (W := (w.alloc (.cells #[.int .i64 3, .int .i64 (x : Int), .int .i64 (y : Int)] 42)).drew) x (.bool true) (show B ≤ gn from h.bb.2.1) (Nat.le_trans hB BD.out.size))
    clear h hB
    go_enter Tryz.func106, Tryz.ntmps106
    go_wp2
    go_region_held3 (fun w' => w'.cell? ⟨ub, 0, none⟩ = some (.slice (some ⟨gn, 0, none⟩) bn.length bn.length) ∧ w'.cell? ⟨w.heap.size, 1, none⟩ = some (.int .i64 (x : Int)))
      (refine ⟨?_, ?_⟩ <;> first | assumption | (go_simp; done))
      (first
      | (go_at_call 122; refine (KN.out _ H1.out.rn).mono ?_; rintro e w3 ⟨rfl, h2⟩; subst h2; have z1 := (H1.out.setN x).box; obtain ⟨v0, v1, v2, v3, v4⟩ := box_all5P z1; have z2 := (TI.out.laterP (drew1B _)).other gn x (.bool true) (by have := GL.out; omega); have z3 := z2.cell 1; simp at z3 v0 v1 v2))
    go_wp2
    go_ret
    exact ⟨⟨true, rfl, ⟨fun _ => IB.out, fun _ => rfl⟩, fun _ => by simpa [mkB] using (H0.out.setN x).later (drew1B _)⟩, BD.out.trans BX.out⟩
  · have KN := Lib.hid (p := ∀ W, RBo W B gn bn → Calls Tryz.prog 122 #[.slice (some ⟨gn, 0, none⟩) bn.length bn.length, .int .i64 (x : Int)] W fun e w' => e = .returned (.bool false) ∧ w' = W) (fun W q => by
      refine (note_any x q (by omega)).mono ?_
      rintro e w' (⟨h0, _, _⟩ | ⟨_, h1, h2⟩)
      · exact absurd h0 hlt
      · exact ⟨h1, h2⟩)
    have IB := Lib.hid (p := ¬ inB p ⟨3, x, y⟩) (by
      intro q
      have q2 := q.2.1 rfl
      have := h.ln
      simp at q2
      omega)
    have j1 := (TI.out.laterP (drew1B _)).cell 1
    obtain ⟨v0, v1, v2, v3, v4⟩ := box_all5P H1.out.box
    simp at j1
    clear h hB
    go_enter Tryz.func106, Tryz.ntmps106
    go_wp2
    go_region_held3 (fun w' => w'.cell? ⟨ub, 0, none⟩ = some (.slice (some ⟨gn, 0, none⟩) bn.length bn.length) ∧ w'.cell? ⟨w.heap.size, 1, none⟩ = some (.int .i64 (x : Int)))
      (refine ⟨?_, ?_⟩ <;> first | assumption | (go_simp; done))
      (first
      | (go_at_call 122; refine (KN.out _ H1.out.rn).mono ?_; rintro e w3 ⟨rfl, h2⟩; subst h2))
    go_wp2
    go_ret
    exact ⟨⟨false, rfl, ⟨(fun e => by cases e), fun q => absurd q IB.out⟩, (fun e => by cases e)⟩, BD.out⟩
set_option maxRecDepth 100000 in
set_option maxHeartbeats 2000000 in
theorem take28_any (w : World) (p : Pg) (B ub gn gu gp : Nat) (bn bu bp : List Bool) (x y : Nat) (h : US w p B ub gn gu gp bn bu bp) (hB : B ≤ w.heap.size) (hx : x ≤ 262143) :
    Calls Tryz.prog 106 #[.pointer (some ⟨ub, 0, none⟩), .agg #[.int .i64 28, .int .i64 (x : Int), .int .i64 (y : Int)]] w fun e w' => TkE w p B ub gn gu gp bn bu bp ⟨28, x, y⟩ e w' := by
  have H0 := Lib.hid (h.later (allocBP w (.cells #[.int .i64 28, .int .i64 (x : Int), .int .i64 (y : Int)] 42)))
  have H1 := Lib.hid ((h.later (allocBP w (.cells #[.int .i64 28, .int .i64 (x : Int), .int .i64 (y : Int)] 42))).later (drew1B _))
  have BD := Lib.hid (p := Below B w (w.alloc (.cells #[.int .i64 28, .int .i64 (x : Int), .int .i64 (y : Int)] 42)).drew) ((((Below.refl B w).alloc hB _)).drew)
  have TI := Lib.hid (p := BkP (w.alloc (.cells #[.int .i64 28, .int .i64 (x : Int), .int .i64 (y : Int)] 42)) w.heap.size #[.int .i64 28, .int .i64 (x : Int), .int .i64 (y : Int)] 42) (heapN _ _)
  obtain ⟨u0, u1, u2, u3, u4⟩ := box_all5P ((h.later (allocBP w (.cells #[.int .i64 28, .int .i64 (x : Int), .int .i64 (y : Int)] 42))).box)
  have i1 := TI.out.cell 1
  simp at i1
  have GL := Lib.hid (World.ownsRow.lt h.ru gu rfl).2
  by_cases hlt : x < bu.length
  · have KN := Lib.hid (p := ∀ W, RBo W B gu bu → Calls Tryz.prog 122 #[.slice (some ⟨gu, 0, none⟩) bu.length bu.length, .int .i64 (x : Int)] W fun e w' => e = .returned (.bool true) ∧ w' = W.setCell ⟨gu, x, none⟩ (.bool true)) (fun W q => by
      refine (note_any x q (by omega)).mono ?_
      rintro e w' (⟨_, h1, h2⟩ | ⟨h0, _, _⟩)
      · exact ⟨h1, h2⟩
      · exact absurd hlt h0)
    have IB := Lib.hid (p := inB p ⟨28, x, y⟩) (by have := h.lu; refine ⟨?_, ?_, ?_, ?_, ?_⟩ <;> intro q <;> simp at q ⊢ <;> omega)
    have BX := Lib.hid (gr_bel (W := (w.alloc (.cells #[.int .i64 28, .int .i64 (x : Int), .int .i64 (y : Int)] 42)).drew) x (.bool true) (show B ≤ gu from h.bb.2.2.1) (Nat.le_trans hB BD.out.size))
    clear h hB
    go_enter Tryz.func106, Tryz.ntmps106
    go_wp2
    go_region_held3 (fun w' => w'.cell? ⟨ub, 1, none⟩ = some (.slice (some ⟨gu, 0, none⟩) bu.length bu.length) ∧ w'.cell? ⟨w.heap.size, 1, none⟩ = some (.int .i64 (x : Int)))
      (refine ⟨?_, ?_⟩ <;> first | assumption | (go_simp; done))
      (first
      | (go_at_call 122; refine (KN.out _ H1.out.ru).mono ?_; rintro e w3 ⟨rfl, h2⟩; subst h2; have z1 := (H1.out.setU x).box; obtain ⟨v0, v1, v2, v3, v4⟩ := box_all5P z1; have z2 := (TI.out.laterP (drew1B _)).other gu x (.bool true) (by have := GL.out; omega); have z3 := z2.cell 1; simp at z3 v0 v1 v2))
    go_wp2
    go_ret
    exact ⟨⟨true, rfl, ⟨fun _ => IB.out, fun _ => rfl⟩, fun _ => by simpa [mkB] using (H0.out.setU x).later (drew1B _)⟩, BD.out.trans BX.out⟩
  · have KN := Lib.hid (p := ∀ W, RBo W B gu bu → Calls Tryz.prog 122 #[.slice (some ⟨gu, 0, none⟩) bu.length bu.length, .int .i64 (x : Int)] W fun e w' => e = .returned (.bool false) ∧ w' = W) (fun W q => by
      refine (note_any x q (by omega)).mono ?_
      rintro e w' (⟨h0, _, _⟩ | ⟨_, h1, h2⟩)
      · exact absurd h0 hlt
      · exact ⟨h1, h2⟩)
    have IB := Lib.hid (p := ¬ inB p ⟨28, x, y⟩) (by
      intro q
      have q2 := q.2.2.1 rfl
      have := h.lu
      simp at q2
      omega)
    have j1 := (TI.out.laterP (drew1B _)).cell 1
    obtain ⟨v0, v1, v2, v3, v4⟩ := box_all5P H1.out.box
    simp at j1
    clear h hB
    go_enter Tryz.func106, Tryz.ntmps106
    go_wp2
    go_region_held3 (fun w' => w'.cell? ⟨ub, 1, none⟩ = some (.slice (some ⟨gu, 0, none⟩) bu.length bu.length) ∧ w'.cell? ⟨w.heap.size, 1, none⟩ = some (.int .i64 (x : Int)))
      (refine ⟨?_, ?_⟩ <;> first | assumption | (go_simp; done))
      (first
      | (go_at_call 122; refine (KN.out _ H1.out.ru).mono ?_; rintro e w3 ⟨rfl, h2⟩; subst h2))
    go_wp2
    go_ret
    exact ⟨⟨false, rfl, ⟨(fun e => by cases e), fun q => absurd q IB.out⟩, (fun e => by cases e)⟩, BD.out⟩
set_option maxRecDepth 100000 in
set_option maxHeartbeats 2000000 in
theorem take4_any (w : World) (p : Pg) (B ub gn gu gp : Nat) (bn bu bp : List Bool) (x y : Nat) (h : US w p B ub gn gu gp bn bu bp) (hB : B ≤ w.heap.size) (hx : x ≤ 262143) :
    Calls Tryz.prog 106 #[.pointer (some ⟨ub, 0, none⟩), .agg #[.int .i64 4, .int .i64 (x : Int), .int .i64 (y : Int)]] w fun e w' => TkE w p B ub gn gu gp bn bu bp ⟨4, x, y⟩ e w' := by
  have U1 := Lib.hid (h.later (allocBP w (.cells #[.int .i64 4, .int .i64 (x : Int), .int .i64 (y : Int)] 42)))
  have BD := Lib.hid (p := Below B w (w.alloc (.cells #[.int .i64 4, .int .i64 (x : Int), .int .i64 (y : Int)] 42))) ((Below.refl B w).alloc hB _)
  have TI := Lib.hid (p := BkP (w.alloc (.cells #[.int .i64 4, .int .i64 (x : Int), .int .i64 (y : Int)] 42)) w.heap.size #[.int .i64 4, .int .i64 (x : Int), .int .i64 (y : Int)] 42) (heapN _ _)
  obtain ⟨u0, u1, u2, u3, u4⟩ := box_all5P U1.out.box
  have IB := Lib.hid (p := inB p ⟨4, x, y⟩ ↔ (x : Int) < p.cells) (by unfold inB; simp)
  by_cases hlt : (x : Int) < p.cells
  · have b1 : decide ((x : Int) < p.cells) = true := decide_eq_true hlt
    clear h hB
    go_enter Tryz.func106, Tryz.ntmps106
    go_wp2
    generalize hW : w.alloc (.cells #[.int .i64 4, .int .i64 (x : Int), .int .i64 (y : Int)] 42) = W1 at *
    clear hW
    have i1 := TI.out.cell 1
    simp at i1
    go_quiet (fail)
    go_wp2
    go_ret
    exact ⟨⟨true, rfl, ⟨fun _ => IB.out.2 hlt, fun _ => rfl⟩, fun _ => by simpa [mkB] using U1.out.later (drewBP _ _)⟩, bel_drB BD.out _⟩
  · have b1 : decide ((x : Int) < p.cells) = false := decide_eq_false hlt
    clear h hB
    go_enter Tryz.func106, Tryz.ntmps106
    go_wp2
    generalize hW : w.alloc (.cells #[.int .i64 4, .int .i64 (x : Int), .int .i64 (y : Int)] 42) = W1 at *
    clear hW
    have i1 := TI.out.cell 1
    simp at i1
    go_quiet (fail)
    go_wp2
    go_ret
    exact ⟨⟨false, rfl, ⟨(fun e => by cases e), fun q => absurd (IB.out.1 q) (by omega)⟩, (fun e => by cases e)⟩, bel_drB BD.out _⟩
set_option maxRecDepth 100000 in
set_option maxHeartbeats 2000000 in
theorem take5_any (w : World) (p : Pg) (B ub gn gu gp : Nat) (bn bu bp : List Bool) (x y : Nat) (h : US w p B ub gn gu gp bn bu bp) (hB : B ≤ w.heap.size) (hx : x ≤ 262143) :
    Calls Tryz.prog 106 #[.pointer (some ⟨ub, 0, none⟩), .agg #[.int .i64 5, .int .i64 (x : Int), .int .i64 (y : Int)]] w fun e w' => TkE w p B ub gn gu gp bn bu bp ⟨5, x, y⟩ e w' := by
  have U1 := Lib.hid (h.later (allocBP w (.cells #[.int .i64 5, .int .i64 (x : Int), .int .i64 (y : Int)] 42)))
  have BD := Lib.hid (p := Below B w (w.alloc (.cells #[.int .i64 5, .int .i64 (x : Int), .int .i64 (y : Int)] 42))) ((Below.refl B w).alloc hB _)
  have TI := Lib.hid (p := BkP (w.alloc (.cells #[.int .i64 5, .int .i64 (x : Int), .int .i64 (y : Int)] 42)) w.heap.size #[.int .i64 5, .int .i64 (x : Int), .int .i64 (y : Int)] 42) (heapN _ _)
  obtain ⟨u0, u1, u2, u3, u4⟩ := box_all5P U1.out.box
  have IB := Lib.hid (p := inB p ⟨5, x, y⟩ ↔ (x : Int) < p.cells) (by unfold inB; simp)
  by_cases hlt : (x : Int) < p.cells
  · have b1 : decide ((x : Int) < p.cells) = true := decide_eq_true hlt
    clear h hB
    go_enter Tryz.func106, Tryz.ntmps106
    go_wp2
    generalize hW : w.alloc (.cells #[.int .i64 5, .int .i64 (x : Int), .int .i64 (y : Int)] 42) = W1 at *
    clear hW
    have i1 := TI.out.cell 1
    simp at i1
    go_quiet (fail)
    go_wp2
    go_ret
    exact ⟨⟨true, rfl, ⟨fun _ => IB.out.2 hlt, fun _ => rfl⟩, fun _ => by simpa [mkB] using U1.out.later (drewBP _ _)⟩, bel_drB BD.out _⟩
  · have b1 : decide ((x : Int) < p.cells) = false := decide_eq_false hlt
    clear h hB
    go_enter Tryz.func106, Tryz.ntmps106
    go_wp2
    generalize hW : w.alloc (.cells #[.int .i64 5, .int .i64 (x : Int), .int .i64 (y : Int)] 42) = W1 at *
    clear hW
    have i1 := TI.out.cell 1
    simp at i1
    go_quiet (fail)
    go_wp2
    go_ret
    exact ⟨⟨false, rfl, ⟨(fun e => by cases e), fun q => absurd (IB.out.1 q) (by omega)⟩, (fun e => by cases e)⟩, bel_drB BD.out _⟩
set_option maxRecDepth 100000 in
set_option maxHeartbeats 2000000 in
theorem take6_any (w : World) (p : Pg) (B ub gn gu gp : Nat) (bn bu bp : List Bool) (x y : Nat) (h : US w p B ub gn gu gp bn bu bp) (hB : B ≤ w.heap.size) (hx : x ≤ 262143) :
    Calls Tryz.prog 106 #[.pointer (some ⟨ub, 0, none⟩), .agg #[.int .i64 6, .int .i64 (x : Int), .int .i64 (y : Int)]] w fun e w' => TkE w p B ub gn gu gp bn bu bp ⟨6, x, y⟩ e w' := by
  have U1 := Lib.hid (h.later (allocBP w (.cells #[.int .i64 6, .int .i64 (x : Int), .int .i64 (y : Int)] 42)))
  have BD := Lib.hid (p := Below B w (w.alloc (.cells #[.int .i64 6, .int .i64 (x : Int), .int .i64 (y : Int)] 42))) ((Below.refl B w).alloc hB _)
  have TI := Lib.hid (p := BkP (w.alloc (.cells #[.int .i64 6, .int .i64 (x : Int), .int .i64 (y : Int)] 42)) w.heap.size #[.int .i64 6, .int .i64 (x : Int), .int .i64 (y : Int)] 42) (heapN _ _)
  obtain ⟨u0, u1, u2, u3, u4⟩ := box_all5P U1.out.box
  have IB := Lib.hid (p := inB p ⟨6, x, y⟩ ↔ (x : Int) < p.slots) (by unfold inB; simp)
  by_cases hlt : (x : Int) < p.slots
  · have b1 : decide ((x : Int) < p.slots) = true := decide_eq_true hlt
    clear h hB
    go_enter Tryz.func106, Tryz.ntmps106
    go_wp2
    generalize hW : w.alloc (.cells #[.int .i64 6, .int .i64 (x : Int), .int .i64 (y : Int)] 42) = W1 at *
    clear hW
    have i1 := TI.out.cell 1
    simp at i1
    go_quiet (fail)
    go_wp2
    go_ret
    exact ⟨⟨true, rfl, ⟨fun _ => IB.out.2 hlt, fun _ => rfl⟩, fun _ => by simpa [mkB] using U1.out.later (drewBP _ _)⟩, bel_drB BD.out _⟩
  · have b1 : decide ((x : Int) < p.slots) = false := decide_eq_false hlt
    clear h hB
    go_enter Tryz.func106, Tryz.ntmps106
    go_wp2
    generalize hW : w.alloc (.cells #[.int .i64 6, .int .i64 (x : Int), .int .i64 (y : Int)] 42) = W1 at *
    clear hW
    have i1 := TI.out.cell 1
    simp at i1
    go_quiet (fail)
    go_wp2
    go_ret
    exact ⟨⟨false, rfl, ⟨(fun e => by cases e), fun q => absurd (IB.out.1 q) (by omega)⟩, (fun e => by cases e)⟩, bel_drB BD.out _⟩
set_option maxRecDepth 100000 in
set_option maxHeartbeats 2000000 in
theorem take7_any (w : World) (p : Pg) (B ub gn gu gp : Nat) (bn bu bp : List Bool) (x y : Nat) (h : US w p B ub gn gu gp bn bu bp) (hB : B ≤ w.heap.size) (hx : x ≤ 262143) :
    Calls Tryz.prog 106 #[.pointer (some ⟨ub, 0, none⟩), .agg #[.int .i64 7, .int .i64 (x : Int), .int .i64 (y : Int)]] w fun e w' => TkE w p B ub gn gu gp bn bu bp ⟨7, x, y⟩ e w' := by
  have U1 := Lib.hid (h.later (allocBP w (.cells #[.int .i64 7, .int .i64 (x : Int), .int .i64 (y : Int)] 42)))
  have BD := Lib.hid (p := Below B w (w.alloc (.cells #[.int .i64 7, .int .i64 (x : Int), .int .i64 (y : Int)] 42))) ((Below.refl B w).alloc hB _)
  have TI := Lib.hid (p := BkP (w.alloc (.cells #[.int .i64 7, .int .i64 (x : Int), .int .i64 (y : Int)] 42)) w.heap.size #[.int .i64 7, .int .i64 (x : Int), .int .i64 (y : Int)] 42) (heapN _ _)
  obtain ⟨u0, u1, u2, u3, u4⟩ := box_all5P U1.out.box
  have IB := Lib.hid (p := inB p ⟨7, x, y⟩ ↔ (x : Int) < p.slots) (by unfold inB; simp)
  by_cases hlt : (x : Int) < p.slots
  · have b1 : decide ((x : Int) < p.slots) = true := decide_eq_true hlt
    clear h hB
    go_enter Tryz.func106, Tryz.ntmps106
    go_wp2
    generalize hW : w.alloc (.cells #[.int .i64 7, .int .i64 (x : Int), .int .i64 (y : Int)] 42) = W1 at *
    clear hW
    have i1 := TI.out.cell 1
    simp at i1
    go_quiet (fail)
    go_wp2
    go_ret
    exact ⟨⟨true, rfl, ⟨fun _ => IB.out.2 hlt, fun _ => rfl⟩, fun _ => by simpa [mkB] using U1.out.later (drewBP _ _)⟩, bel_drB BD.out _⟩
  · have b1 : decide ((x : Int) < p.slots) = false := decide_eq_false hlt
    clear h hB
    go_enter Tryz.func106, Tryz.ntmps106
    go_wp2
    generalize hW : w.alloc (.cells #[.int .i64 7, .int .i64 (x : Int), .int .i64 (y : Int)] 42) = W1 at *
    clear hW
    have i1 := TI.out.cell 1
    simp at i1
    go_quiet (fail)
    go_wp2
    go_ret
    exact ⟨⟨false, rfl, ⟨(fun e => by cases e), fun q => absurd (IB.out.1 q) (by omega)⟩, (fun e => by cases e)⟩, bel_drB BD.out _⟩
set_option maxRecDepth 100000 in
set_option maxHeartbeats 2000000 in
theorem takeE_any (k : Nat) (n1 : k ≠ 1) (n3 : k ≠ 3) (n28 : k ≠ 28) (n4 : k ≠ 4) (n5 : k ≠ 5) (n6 : k ≠ 6) (n7 : k ≠ 7) (w : World) (p : Pg) (B ub gn gu gp : Nat) (bn bu bp : List Bool) (x y : Nat) (h : US w p B ub gn gu gp bn bu bp) (hB : B ≤ w.heap.size) (hx : x ≤ 262143) :
    Calls Tryz.prog 106 #[.pointer (some ⟨ub, 0, none⟩), .agg #[.int .i64 (k : Int), .int .i64 (x : Int), .int .i64 (y : Int)]] w fun e w' => TkE w p B ub gn gu gp bn bu bp ⟨k, x, y⟩ e w' := by
  have U1 := Lib.hid (h.later (allocBP w (.cells #[.int .i64 (k : Int), .int .i64 (x : Int), .int .i64 (y : Int)] 42)))
  have BD := Lib.hid (p := Below B w (w.alloc (.cells #[.int .i64 (k : Int), .int .i64 (x : Int), .int .i64 (y : Int)] 42))) ((Below.refl B w).alloc hB _)
  have IB := Lib.hid (p := inB p ⟨k, x, y⟩) (by refine ⟨?_, ?_, ?_, ?_, ?_⟩ <;> intro q <;> simp at q <;> omega)
  have MB := Lib.hid (p := mkB 3 bn ⟨k, x, y⟩ = bn ∧ mkB 28 bu ⟨k, x, y⟩ = bu ∧ mkB 1 bp ⟨k, x, y⟩ = bp) (by unfold mkB; simp; omega)
  have b1 : ((k : Int) == 1) = false := by simp; omega
  have b3 : ((k : Int) == 3) = false := by simp; omega
  have b28 : ((k : Int) == 28) = false := by simp; omega
  have b4 : ((k : Int) == 4) = false := by simp; omega
  have b5 : ((k : Int) == 5) = false := by simp; omega
  have b6 : ((k : Int) == 6) = false := by simp; omega
  have b7 : ((k : Int) == 7) = false := by simp; omega
  clear h hB n1 n3 n28 n4 n5 n6 n7
  go_enter Tryz.func106, Tryz.ntmps106
  go_wp2
  go_ret
  exact ⟨⟨true, rfl, ⟨fun _ => IB.out, fun _ => rfl⟩, fun _ => by rw [MB.out.1, MB.out.2.1, MB.out.2.2]; exact U1.out⟩, BD.out⟩
theorem take_any (i : In) (hi : i.okP) (w : World) (p : Pg) (B ub gn gu gp : Nat) (bn bu bp : List Bool) (h : US w p B ub gn gu gp bn bu bp) (hB : B ≤ w.heap.size) :
    Calls Tryz.prog 106 #[.pointer (some ⟨ub, 0, none⟩), .agg #[.int .i64 i.o, .int .i64 i.a, .int .i64 i.b]] w fun e w' => TkE w p B ub gn gu gp bn bu bp i e w' := by
  obtain ⟨o, a, b⟩ := i
  have ho := hi.1
  have ho2 := hi.2.1
  have ha := hi.2.2.1
  have hb := hi.2.2.2.2.1
  have ha2 := hi.2.2.2.1
  have hm := (tab_facts o.toNat (by simp at ho ho2 ⊢; omega)).2.1
  simp only at ho ho2 ha hb ha2 hm
  obtain ⟨k, rfl⟩ : ∃ k : Nat, o = (k : Int) := ⟨o.toNat, by omega⟩
  obtain ⟨x, rfl⟩ : ∃ x : Nat, a = (x : Int) := ⟨a.toNat, by omega⟩
  obtain ⟨y, rfl⟩ : ∃ y : Nat, b = (y : Int) := ⟨b.toNat, by omega⟩
  have hx : x ≤ 262143 := by omega
  clear hi
  by_cases e1 : k = 1
  · subst e1; exact take1_any w p B ub gn gu gp bn bu bp x y h hB hx
  by_cases e3 : k = 3
  · subst e3; exact take3_any w p B ub gn gu gp bn bu bp x y h hB hx
  by_cases e28 : k = 28
  · subst e28; exact take28_any w p B ub gn gu gp bn bu bp x y h hB hx
  by_cases e4 : k = 4
  · subst e4; exact take4_any w p B ub gn gu gp bn bu bp x y h hB hx
  by_cases e5 : k = 5
  · subst e5; exact take5_any w p B ub gn gu gp bn bu bp x y h hB hx
  by_cases e6 : k = 6
  · subst e6; exact take6_any w p B ub gn gu gp bn bu bp x y h hB hx
  by_cases e7 : k = 7
  · subst e7; exact take7_any w p B ub gn gu gp bn bu bp x y h hB hx
  exact takeE_any k e1 e3 e28 e4 e5 e6 e7 w p B ub gn gu gp bn bu bp x y h hB hx
end Go.Proofs.YtccjeipkljdhdaaGreatDoor

namespace Go.Proofs.YtccjeipkljdhdaaGreatDoor
open Go.RowKit
set_option linter.unusedVariables false
set_option linter.unusedSimpArgs false
def insI (p : Pg) (l : List In) (n : Nat) : Prop := ((l.getD n default).o = 0 ↔ n + 1 = l.length) ∧ (l.getD n default).okP ∧ inB p (l.getD n default)
def codeP (p : Pg) (l : List In) : Prop := 2 ≤ l.length ∧ ∀ n, n < l.length → insI p l n
theorem foldl_next (f : List Bool → In → List Bool) (bs : List Bool) (l : List In) (k : Nat) (h : k < l.length) : (l.take (k + 1)).foldl f bs = f ((l.take k).foldl f bs) (l.getD k default) := by
  rw [List.take_succ_eq_append_getElem h, List.foldl_append]
  simp [List.getD, h]
theorem box_all3P {w : World} {x : Nat} {a b c : Value} {t : TypeId} (k : BkP w x #[a, b, c] t) : w.cell? ⟨x, 0, none⟩ = some a ∧ w.cell? ⟨x, 1, none⟩ = some b ∧ w.cell? ⟨x, 2, none⟩ = some c := by
  unfold BkP at k
  refine ⟨?_, ?_, ?_⟩ <;> simp [World.cell?, k]
/-- What takeCode leaves. -/
structure TcE (w0 : World) (p : Pg) (ub gn gu gp : Nat) (bn bu bp : List Bool) (l : List In) (e : Ending) (w' : World) : Prop where
  say : ∃ b, e = .returned (.bool b) ∧ (b = true ↔ codeP p l) ∧ (b = true → US w' p w0.heap.size ub gn gu gp (l.foldl (mkB 3) bn) (l.foldl (mkB 28) bu) (l.foldl (mkB 1) bp))
  bel : Below w0.heap.size w0 w'
set_option maxRecDepth 100000 in
set_option maxHeartbeats 8000000 in
theorem takeCode_any (w0 w : World) (p : Pg) (ub gn gu gp : Nat) (bn bu bp : List Bool) (a : Option Addr) (n c : Nat) (l : List In) (hU : US w p w0.heap.size ub gn gu gp bn bu bp) (hI : IR w0 a n c l) (hR : Rws w0) (hB : Below w0.heap.size w0 w) :
    Calls Tryz.prog 81 #[.pointer (some ⟨ub, 0, none⟩), .slice a n c] w fun e w' => TcE w0 p ub gn gu gp bn bu bp l e w' := by
  obtain ⟨_, l1, b1, _, r1⟩ := hI
  have R1 := Lib.hid r1
  have L1 := Lib.hid l1
  have RR := Lib.hid hR
  have B0 := Lib.hid hB
  have U0 := Lib.hid hU
  clear r1 hR hB hU
  have kw : IntKind.i64.wrap ((n : Int) - 1) = (n : Int) - 1 := by simp [IntKind.wrap, IntKind.bits, IntKind.signed]; omega
  by_cases h2 : n < 2
  · have d1 : (n : Int) - 1 < 1 := by omega
    have d2 : decide ((n : Int) - 1 < 1) = true := decide_eq_true d1
    have NC := Lib.hid (p := ¬ codeP p l) (fun q => by have := q.1; omega)
    go_enter Tryz.func81, Tryz.ntmps81
    go_wp2
    go_ret
    exact ⟨⟨false, rfl, ⟨(fun e => by cases e), fun q => absurd q NC.out⟩, (fun e => by cases e)⟩, B0.out⟩
  · have d1 : ¬ (n : Int) - 1 < 1 := by omega
    have d2 : decide ((n : Int) - 1 < 1) = false := decide_eq_false d1
    have CP := Lib.hid (p := (∀ k, k < n → insI p l k) → codeP p l) (fun q => ⟨by omega, fun k hk => q k (by omega)⟩)
    have CN := Lib.hid (p := ∀ k, k < n → ¬ insI p l k → ¬ codeP p l) (fun k hk hn q => hn (q.2 k (by omega)))
    go_enter Tryz.func81, Tryz.ntmps81
    go_wp2
    clear d1 d2
    go_loopw [16] (fun t wr => ∃ k : Nat, k ≤ n ∧ t = .int .i64 (k : Int) ∧ RowKit.Hid (∀ i, i < k → insI p l i) ∧ US wr p w0.heap.size ub gn gu gp ((l.take k).foldl (mkB 3) bn) ((l.take k).foldl (mkB 28) bu) ((l.take k).foldl (mkB 1) bp) ∧ Below w0.heap.size w0 wr) (fun t _ => n - (intOf t).toNat)
    case atStart => exact ⟨0, by omega, rfl, (fun i hi => absurd hi (by omega)), U0.out, B0.out⟩
    case round =>
      clear U0 B0
      rename World => wr
      obtain ⟨k, hk, rfl, hE, hU, hB⟩ := hrel
      have UU := Lib.hid hU
      have BB := Lib.hid hB
      by_cases hlt : k < n
      · obtain ⟨x, o, rfl, _, hc⟩ := (R1.out.later hB).oneP (by omega)
        have c0 := hc k hlt 0 (by omega)
        have c1 := hc k hlt 1 (by omega)
        have c2 := hc k hlt 2 (by omega)
        simp only [icell, Nat.add_zero, List.getD_cons_zero, List.getD_cons_succ] at c0 c1 c2
        have kc : (k : Int) < (n : Int) := by omega
        have II := Lib.hid (p := insI p l k ↔ ((l.getD k default).o = 0 ↔ k + 1 = n) ∧ (l.getD k default).okP ∧ inB p (l.getD k default)) (by unfold insI; rw [l1])
        have F3 := Lib.hid (foldl_next (mkB 3) bn l k (by omega))
        have F28 := Lib.hid (foldl_next (mkB 28) bu l k (by omega))
        have F1 := Lib.hid (foldl_next (mkB 1) bp l k (by omega))
        have CNk := Lib.hid (CN.out k hlt)
        have NX := Lib.hid (p := insI p l k → ∀ i, i < k + 1 → insI p l i) (fun e i hi => by
          rcases (show i < k ∨ i = k by omega) with r | r
          · exact hE.out i r
          · rw [r]; exact e)
        generalize l.getD k default = s at *
        obtain ⟨so, sx, sy⟩ := s
        simp only at c0 c1 c2 II F3 F28 F1
        have U1 := Lib.hid (hU.later (allocBP wr (.cells #[.int .i64 so, .int .i64 sx, .int .i64 sy] 42)))
        have B1 := Lib.hid (hB.alloc hB.size (.cells #[.int .i64 so, .int .i64 sx, .int .i64 sy] 42))
        have KV := Lib.hid (fun W (b : Below w0.heap.size w0 W) => valid_any so sx sy W (RR.out.below b))
        clear hc hE hU hB
        have TI := Lib.hid (p := BkP (wr.alloc (.cells #[.int .i64 so, .int .i64 sx, .int .i64 sy] 42)) wr.heap.size #[.int .i64 so, .int .i64 sx, .int .i64 sy] 42) (heapN _ _)
        by_cases q : so = 0
        · by_cases r : k + 1 = n
          · have t2 : ((k : Int) == (n : Int) - 1) = true := by simp; omega
            have IFF := Lib.hid (p := so = 0 ↔ k + 1 = n) ⟨fun _ => r, fun _ => q⟩
            have t1 : (so == 0) = true := by simpa using q
            clear r q
            by_cases e2 : (⟨so, sx, sy⟩ : In).okP
            · rw [okV_pos e2] at KV
              by_cases e3 : inB p ⟨so, sx, sy⟩
              · have KT := Lib.hid (p := ∀ W, US W p w0.heap.size ub gn gu gp ((l.take k).foldl (mkB 3) bn) ((l.take k).foldl (mkB 28) bu) ((l.take k).foldl (mkB 1) bp) → w0.heap.size ≤ W.heap.size → Calls Tryz.prog 106 #[.pointer (some ⟨ub, 0, none⟩), .agg #[.int .i64 so, .int .i64 sx, .int .i64 sy]] W fun e w' => e = .returned (.bool true) ∧ US w' p w0.heap.size ub gn gu gp (mkB 3 ((l.take k).foldl (mkB 3) bn) ⟨so, sx, sy⟩) (mkB 28 ((l.take k).foldl (mkB 28) bu) ⟨so, sx, sy⟩) (mkB 1 ((l.take k).foldl (mkB 1) bp) ⟨so, sx, sy⟩) ∧ Below w0.heap.size W w') (fun W hW hS => by
                  refine (take_any ⟨so, sx, sy⟩ e2 W p w0.heap.size ub gn gu gp _ _ _ hW hS).mono ?_
                  rintro e w' ⟨⟨b, h1, h2, h3⟩, h4⟩
                  have hb := h2.2 e3
                  subst hb
                  exact ⟨h1, h3 rfl, h4⟩)
                have OK := Lib.hid (NX.out (II.out.2 ⟨IFF.out, e2, e3⟩))
                clear e2 e3
                go_wp2_with (first
                  | (go_at_call 23; refine (KV.out _ B1.out).mono ?_; rintro e w2 ⟨rfl, h2⟩; have B2 := Lib.hid (B1.out.trans (h2.mono B1.out.size)); have U2 := Lib.hid (U1.out.later h2); have T2 := TI.out.laterP h2; obtain ⟨v0, v1, v2⟩ := box_all3P T2; clear h2 T2)
                  | (go_at_call 106; refine (KT.out _ U2.out B2.out.size).mono ?_; rintro e w3 ⟨rfl, h2, h3⟩; have B3 := Lib.hid (B2.out.trans h3); have U3 := Lib.hid h2; clear h2 h3))
                go_roundw
                case rel => exact ⟨k + 1, by omega, by go_num, OK.out, by rw [F3.out, F28.out, F1.out]; exact U3.out, B3.out⟩
                case measure => simp [intOf]; omega
              · have KT := Lib.hid (p := ∀ W, US W p w0.heap.size ub gn gu gp ((l.take k).foldl (mkB 3) bn) ((l.take k).foldl (mkB 28) bu) ((l.take k).foldl (mkB 1) bp) → w0.heap.size ≤ W.heap.size → Calls Tryz.prog 106 #[.pointer (some ⟨ub, 0, none⟩), .agg #[.int .i64 so, .int .i64 sx, .int .i64 sy]] W fun e w' => e = .returned (.bool false) ∧ True ∧ Below w0.heap.size W w') (fun W hW hS => by
                  refine (take_any ⟨so, sx, sy⟩ e2 W p w0.heap.size ub gn gu gp _ _ _ hW hS).mono ?_
                  rintro e w' ⟨⟨b, h1, h2, h3⟩, h4⟩
                  have hb : b = false := by cases b with | false => rfl | true => exact absurd (h2.1 rfl) e3
                  subst hb
                  exact ⟨h1, trivial, h4⟩)
                have NO := Lib.hid (CNk.out (fun q => e3 (II.out.1 q).2.2))
                clear e2 e3
                go_wp2_with (first
                  | (go_at_call 23; refine (KV.out _ B1.out).mono ?_; rintro e w2 ⟨rfl, h2⟩; have B2 := Lib.hid (B1.out.trans (h2.mono B1.out.size)); have U2 := Lib.hid (U1.out.later h2); have T2 := TI.out.laterP h2; obtain ⟨v0, v1, v2⟩ := box_all3P T2; clear h2 T2)
                  | (go_at_call 106; refine (KT.out _ U2.out B2.out.size).mono ?_; rintro e w3 ⟨rfl, h2, h3⟩; have B3 := Lib.hid (B2.out.trans h3); have U3 := Lib.hid h2; clear h2 h3))
                go_ret
                exact ⟨⟨false, rfl, ⟨(fun e => by cases e), fun q => absurd q NO.out⟩, (fun e => by cases e)⟩, B3.out⟩
            · rw [okV_neg e2] at KV
              have NO := Lib.hid (CNk.out (fun q => e2 (II.out.1 q).2.1))
              clear e2
              go_wp2_with (go_at_call 23; refine (KV.out _ B1.out).mono ?_; rintro e w2 ⟨rfl, h2⟩; have B2 := Lib.hid (B1.out.trans (h2.mono B1.out.size)); have U2 := Lib.hid (U1.out.later h2); have T2 := TI.out.laterP h2; obtain ⟨v0, v1, v2⟩ := box_all3P T2; clear h2 T2)
              go_ret
              exact ⟨⟨false, rfl, ⟨(fun e => by cases e), fun q => absurd q NO.out⟩, (fun e => by cases e)⟩, B2.out⟩
          · have t2 : ((k : Int) == (n : Int) - 1) = false := by simp; omega
            have NI := Lib.hid (p := ¬ (so = 0 ↔ k + 1 = n)) (fun z => r (z.1 q))
            have t1 : (so == 0) = true := by simpa using q
            clear r q
            have NO := Lib.hid (CNk.out (fun z => NI.out (II.out.1 z).1))
            go_wp2
            go_ret
            exact ⟨⟨false, rfl, ⟨(fun e => by cases e), fun z => absurd z NO.out⟩, (fun e => by cases e)⟩, B1.out⟩
        · have t1 : (so == 0) = false := by simpa using q
          by_cases r : k + 1 = n
          · have t2 : ((k : Int) == (n : Int) - 1) = true := by simp; omega
            have NI := Lib.hid (p := ¬ (so = 0 ↔ k + 1 = n)) (fun z => q (z.2 r))
            clear r q
            have NO := Lib.hid (CNk.out (fun z => NI.out (II.out.1 z).1))
            go_wp2
            go_ret
            exact ⟨⟨false, rfl, ⟨(fun e => by cases e), fun z => absurd z NO.out⟩, (fun e => by cases e)⟩, B1.out⟩
          · have t2 : ((k : Int) == (n : Int) - 1) = false := by simp; omega
            have IFF := Lib.hid (p := so = 0 ↔ k + 1 = n) ⟨fun z => absurd z q, fun z => absurd z r⟩
            clear r q
            by_cases e2 : (⟨so, sx, sy⟩ : In).okP
            · rw [okV_pos e2] at KV
              by_cases e3 : inB p ⟨so, sx, sy⟩
              · have KT := Lib.hid (p := ∀ W, US W p w0.heap.size ub gn gu gp ((l.take k).foldl (mkB 3) bn) ((l.take k).foldl (mkB 28) bu) ((l.take k).foldl (mkB 1) bp) → w0.heap.size ≤ W.heap.size → Calls Tryz.prog 106 #[.pointer (some ⟨ub, 0, none⟩), .agg #[.int .i64 so, .int .i64 sx, .int .i64 sy]] W fun e w' => e = .returned (.bool true) ∧ US w' p w0.heap.size ub gn gu gp (mkB 3 ((l.take k).foldl (mkB 3) bn) ⟨so, sx, sy⟩) (mkB 28 ((l.take k).foldl (mkB 28) bu) ⟨so, sx, sy⟩) (mkB 1 ((l.take k).foldl (mkB 1) bp) ⟨so, sx, sy⟩) ∧ Below w0.heap.size W w') (fun W hW hS => by
                  refine (take_any ⟨so, sx, sy⟩ e2 W p w0.heap.size ub gn gu gp _ _ _ hW hS).mono ?_
                  rintro e w' ⟨⟨b, h1, h2, h3⟩, h4⟩
                  have hb := h2.2 e3
                  subst hb
                  exact ⟨h1, h3 rfl, h4⟩)
                have OK := Lib.hid (NX.out (II.out.2 ⟨IFF.out, e2, e3⟩))
                clear e2 e3
                go_wp2_with (first
                  | (go_at_call 23; refine (KV.out _ B1.out).mono ?_; rintro e w2 ⟨rfl, h2⟩; have B2 := Lib.hid (B1.out.trans (h2.mono B1.out.size)); have U2 := Lib.hid (U1.out.later h2); have T2 := TI.out.laterP h2; obtain ⟨v0, v1, v2⟩ := box_all3P T2; clear h2 T2)
                  | (go_at_call 106; refine (KT.out _ U2.out B2.out.size).mono ?_; rintro e w3 ⟨rfl, h2, h3⟩; have B3 := Lib.hid (B2.out.trans h3); have U3 := Lib.hid h2; clear h2 h3))
                go_roundw
                case rel => exact ⟨k + 1, by omega, by go_num, OK.out, by rw [F3.out, F28.out, F1.out]; exact U3.out, B3.out⟩
                case measure => simp [intOf]; omega
              · have KT := Lib.hid (p := ∀ W, US W p w0.heap.size ub gn gu gp ((l.take k).foldl (mkB 3) bn) ((l.take k).foldl (mkB 28) bu) ((l.take k).foldl (mkB 1) bp) → w0.heap.size ≤ W.heap.size → Calls Tryz.prog 106 #[.pointer (some ⟨ub, 0, none⟩), .agg #[.int .i64 so, .int .i64 sx, .int .i64 sy]] W fun e w' => e = .returned (.bool false) ∧ True ∧ Below w0.heap.size W w') (fun W hW hS => by
                  refine (take_any ⟨so, sx, sy⟩ e2 W p w0.heap.size ub gn gu gp _ _ _ hW hS).mono ?_
                  rintro e w' ⟨⟨b, h1, h2, h3⟩, h4⟩
                  have hb : b = false := by cases b with | false => rfl | true => exact absurd (h2.1 rfl) e3
                  subst hb
                  exact ⟨h1, trivial, h4⟩)
                have NO := Lib.hid (CNk.out (fun q => e3 (II.out.1 q).2.2))
                clear e2 e3
                go_wp2_with (first
                  | (go_at_call 23; refine (KV.out _ B1.out).mono ?_; rintro e w2 ⟨rfl, h2⟩; have B2 := Lib.hid (B1.out.trans (h2.mono B1.out.size)); have U2 := Lib.hid (U1.out.later h2); have T2 := TI.out.laterP h2; obtain ⟨v0, v1, v2⟩ := box_all3P T2; clear h2 T2)
                  | (go_at_call 106; refine (KT.out _ U2.out B2.out.size).mono ?_; rintro e w3 ⟨rfl, h2, h3⟩; have B3 := Lib.hid (B2.out.trans h3); have U3 := Lib.hid h2; clear h2 h3))
                go_ret
                exact ⟨⟨false, rfl, ⟨(fun e => by cases e), fun q => absurd q NO.out⟩, (fun e => by cases e)⟩, B3.out⟩
            · rw [okV_neg e2] at KV
              have NO := Lib.hid (CNk.out (fun q => e2 (II.out.1 q).2.1))
              clear e2
              go_wp2_with (go_at_call 23; refine (KV.out _ B1.out).mono ?_; rintro e w2 ⟨rfl, h2⟩; have B2 := Lib.hid (B1.out.trans (h2.mono B1.out.size)); have U2 := Lib.hid (U1.out.later h2); have T2 := TI.out.laterP h2; obtain ⟨v0, v1, v2⟩ := box_all3P T2; clear h2 T2)
              go_ret
              exact ⟨⟨false, rfl, ⟨(fun e => by cases e), fun q => absurd q NO.out⟩, (fun e => by cases e)⟩, B2.out⟩
      · obtain rfl : k = n := by omega
        have CC := Lib.hid (CP.out hE.out)
        have LT := Lib.hid (p := l.take k = l) (List.take_of_length_le (by omega))
        clear hE hU hB
        go_wp2
        go_ret
        exact ⟨⟨true, rfl, ⟨fun _ => CC.out, fun _ => rfl⟩, fun _ => by have := UU.out; rwa [LT.out] at this⟩, BB.out⟩
end Go.Proofs.YtccjeipkljdhdaaGreatDoor
