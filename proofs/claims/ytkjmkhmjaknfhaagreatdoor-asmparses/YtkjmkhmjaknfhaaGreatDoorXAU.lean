import Derived.Test.YtkjmkhmjaknfhaaGreatDoorXAT
import Derived.Test.YtkjmkhmjaknfhaaGreatDoorXAF
namespace Go.Proofs.YtkjmkhmjaknfhaaGreatDoor
open Go.RowKit
set_option linter.unusedVariables false
set_option linter.unusedSimpArgs false

/-- A word more. -/
theorem DsX.cs1 {pb B xb m g cap : Nat} {W W' : World} {p : Ap} {vn vu vp vd : Value} {D : List Sg} (hb : BkP W pb (dsA vn vu vp p.hor p.cells p.slots p.stack vd) 27) (hl : DsL pb B W p vn vu vp vd D m) (a1 : vn.ownBlock ≠ some xb) (a2 : vu.ownBlock ≠ some xb) (a3 : xb ≠ pb) (a4 : xb < W.heap.size) (u : ByteArray)
    (gr : W.grownBy W' vu.ownBlock) (o : OwQ W' B (.slice (some ⟨g, 0, none⟩) (p.cs.length + 1) cap) (p.cs ++ [u])) (l : vu.ownBlock = some g ∨ g = W.heap.size) :
    DsX pb B xb (W'.setCell ⟨pb, 1, none⟩ (.slice (some ⟨g, 0, none⟩) (p.cs.length + 1) cap)) { p with cs := p.cs ++ [u] } m ∧ W'.cell? ⟨pb, 1, none⟩ = some vu ∧ W'.frozen? ⟨pb, 1, none⟩ = false ∧ FrB pb B W (W'.setCell ⟨pb, 1, none⟩ (.slice (some ⟨g, 0, none⟩) (p.cs.length + 1) cap)) := by
  have np : some pb ≠ vu.ownBlock := fun e => by have := (hl.ou.lt pb e.symm).1; have := hl.pb_lt; omega
  have hb1 := hb.grown gr np
  have hl1 := hl.cur u gr o (l.imp (fun q => by rw [q]; rfl) (fun q z e => by simp only [Value.ownBlock, Option.some.injEq] at e; omega))
  have ax : (Value.slice (some ⟨g, 0, none⟩) (p.cs.length + 1) cap).ownBlock ≠ some xb := fun e => by
    simp only [Value.ownBlock, Option.some.injEq] at e
    rcases l with q | q
    · exact a2 (q.trans (by rw [e]))
    · omega
  exact ⟨⟨_, _, _, _, D, hb1.set 1 _ (by simp [dsA]), hl1.setB 1 _, a1, ax, a3, by simpa using Nat.lt_of_lt_of_le a4 gr.size⟩, hb1.cell 1, hb1.frozen 1, (FrB.grown gr (fun z e => .inl (hl.ou.lt z e).1)).trans (FrB.set _ 1 _)⟩
set_option maxRecDepth 100000 in
set_option maxHeartbeats 4000000 in
theorem listcs_any {w : World} {pb B m : Nat} {p : Ap} {xb xo n c : Nat} {w0 : ByteArray} {ws : List ByteArray} (hne : ws ≠ []) (h : DsX pb B xb w p m) (h0 : p.cs = []) (hs : WrW xb xo w (w0 :: ws)) (hn : n = ws.length + 1) (hc : n ≤ 16777216) (hz : ∀ s ∈ w0 :: ws, s.size ≤ 16777216) :
    Calls Tryz.prog 59 #[.pointer (some ⟨pb, 0, none⟩), .slice (some ⟨xb, xo, none⟩) n c, .int .i64 1] w fun e w' => LsE pb B m (apList 1 ws p) w e w' := by
  have HS := Lib.hid hs
  have HZ := Lib.hid hz
  have HX := Lib.hid h
  have H0 := Lib.hid h0
  have NN := Lib.hid hn
  have e0 : apList 1 ws p = if ws.all curP = true then some { p with cs := ws } else none := by
    unfold apList
    rw [if_neg hne]
    rfl
  have n2 : ¬ (n : Int) < 2 := by
    have : 0 < ws.length := List.length_pos_iff.2 hne
    omega
  have n2' : 1 ≤ n := by omega
  rw [e0]
  clear e0 h h0 hs hz hn hne
  go_enter Tryz.func59, Tryz.ntmps59
  go_wp2
  go_loopw [7] (fun t W => ∃ j : Nat, 1 ≤ j ∧ j ≤ n ∧ t = .int .i64 (j : Int) ∧ RowKit.Hid ((ws.take (j - 1)).all curP = true) ∧ RowKit.Hid (DsX pb B xb W { p with cs := ws.take (j - 1) } m) ∧ RowKit.Hid (FrB pb B w W) ∧ RowKit.Hid (WrW xb xo W (w0 :: ws))) (fun t _ => n - (intOf t).toNat)
  case atStart => exact ⟨1, Nat.le_refl _, n2', rfl, rfl, by have z := HX.out; rw [show ({ p with cs := ws.take (1 - 1) } : Ap) = p by rw [show 1 - 1 = 0 from rfl, List.take_zero, ← H0.out]]; exact z, FrB.refl _ _ _, HS.out⟩
  case round =>
    rename World => W
    obtain ⟨j, j1, jn, rfl, HA, HD, HF, HW⟩ := hrel
    by_cases hlt : j < n
    · have jc : (j : Int) < (n : Int) := by omega
      have jl : j < (w0 :: ws).length := by rw [List.length_cons, ← NN.out]; exact hlt
      have jl2 : j - 1 < ws.length := by have := NN.out; omega
      have cw := HW.out.2 j jl
      have zz := HZ.out _ (List.getElem_mem jl)
      have ez : (w0 :: ws)[j] = ws[j - 1] := by
        obtain ⟨i, rfl⟩ : ∃ i, j = i + 1 := ⟨j - 1, by omega⟩
        rfl
      have TK := Lib.hid (p := ws.take (j + 1 - 1) = ws.take (j - 1) ++ [(w0 :: ws)[j]]) (by rw [ez, show j + 1 - 1 = (j - 1) + 1 by omega, List.take_succ_eq_append_getElem jl2])
      have TB := Lib.hid (p := curP (w0 :: ws)[j] = false → ws.all curP = false) (fun q => by
        rw [List.all_eq_false]
        exact ⟨ws[j - 1], List.getElem_mem jl2, by rw [← ez, q]; decide⟩)
      have LN := Lib.hid (p := (ws.take (j - 1)).length ≤ 1000000000) (by rw [List.length_take]; omega)
      have CW := Lib.hid (fun W' (b : WrW xb xo W' (w0 :: ws)) => b.2 j jl)
      generalize (w0 :: ws)[j] = z at *
      generalize ws.take (j - 1) = us at *
      have KV := Lib.hid (valueN_any z zz W)
      have KC := Lib.hid (p := Calls Tryz.prog 92 #[.string z] W fun e w' => e = .returned (.bool (curP z)) ∧ Below W.heap.size W w') ((rcurrency_any z W).mono fun e w2 h => ⟨h.1, by rw [h.2]; exact Below.refl _ _⟩)
      clear ez jl zz
      obtain ⟨vn, vu, vp, vd, D, hb, hl, a1, a2, a3, a4⟩ := HD.out
      have HB := Lib.hid hb
      have HL := Lib.hid hl
      have AX := Lib.hid (And.intro a1 (And.intro a2 (And.intro a3 a4)))
      clear hb hl a1 a2 a3 a4 HD
      obtain ⟨C, hC⟩ : ∃ C, curP z = C := ⟨_, rfl⟩
      rw [hC] at KC
      rw [hC] at TB
      have HC := Lib.hid hC
      clear hC
      cases C
      · have AF := Lib.hid (TB.out rfl)
        clear TB
        go_wp2_with (first
          | (go_at_call 33; refine KV.out.mono ?_; rintro e w2 ⟨⟨i, rfl, hi⟩, rfl⟩; clear hi)
          | (go_at_call 92; refine KC.out.mono ?_; rintro e w3 ⟨rfl, h2⟩; have B3 := Lib.hid h2; clear h2))
        clear cw n2 n2'
        have D9 := Lib.hid (p := Below w3.heap.size w3 w3.drew) (Below.refl _ w3).drew
        have BD := Lib.hid (B3.out.trans (D9.out.mono B3.out.size))
        have A3 := Lib.hid (allocBP w3 (.cells #[.string z] 9))
        have BA := Lib.hid (BD.out.trans ((allocBP w3.drew (.cells #[.string z] 9)).mono BD.out.size))
        have HB3 := Lib.hid (p := BkP w3 pb (dsA vn vu vp p.hor p.cells p.slots p.stack vd) 27) ((B3.out.block pb HB.out.lt).trans HB.out)
        have cv := HB3.out.cell 1
        have cv2 := (A3.out.cell (p := ⟨pb, 1, none⟩) HB3.out.lt).trans cv
        have W3 := Lib.hid (HW.out.later B3.out)
        have cz := CW.out _ W3.out
        have cz2 := CW.out _ (W3.out.later A3.out)
        simp only [dsA, List.getElem?_toArray, List.getElem?_cons_zero, List.getElem?_cons_succ] at cv cv2
        have OW := Lib.hid (own_belQ HL.out.ou BD.out)
        have BZ := Lib.hid (p := B ≤ w3.drew.heap.size) (Nat.le_trans HL.out.sz BD.out.size)
        have ND := Lib.hid (fun (g5 cap5 : Nat) (w5 : World) gr o l => DsX.cs1 (W := w3.drew.alloc (.cells #[.string z] 9)) (W' := w5) (g := g5) (cap := cap5) (p := { p with cs := us }) ((BA.out.block pb HB.out.lt).trans HB.out) (HL.out.later BA.out) AX.out.1 AX.out.2.1 AX.out.2.2.1 (Nat.lt_of_lt_of_le AX.out.2.2.2 BA.out.size) z gr o l)
        have NX := Lib.hid (p := vu.ownBlock ≠ some xb) AX.out.2.1
        have WX := Lib.hid (HW.out.later BA.out)
        go_region_law (refine step_stA w3.drew rfl _ _ rfl B vu us z rfl OW.out rfl LN.out BZ.out ?_; intro g5 cap5 w5 h1 h2 h3; have N5 := Lib.hid (ND.out g5 cap5 w5 h2 h1 h3); have k1 := N5.out.2.1; have k2 := N5.out.2.2.1; have W5 := Lib.hid (WX.out.grown h2 NX.out); clear h1 h2 h3)
        all_goals
          (try clear cv cv2 cz cz2 k1 k2)
          repeat (first | go_values | go_skip | go_guarded | go_step | go_upon)
          go_ret
          rw [AF.out]
          exact ⟨rfl, HF.out.trans ((FrB.below BA.out).trans N5.out.2.2.2), fun q hq => by cases hq⟩
      · clear TB
        go_wp2_with (first
          | (go_at_call 33; refine KV.out.mono ?_; rintro e w2 ⟨⟨i, rfl, hi⟩, rfl⟩; clear hi)
          | (go_at_call 92; refine KC.out.mono ?_; rintro e w3 ⟨rfl, h2⟩; have B3 := Lib.hid h2; clear h2))
        clear cw n2 n2'
        have D9 := Lib.hid (p := Below w3.heap.size w3 w3.drew) (Below.refl _ w3).drew
        have BD := Lib.hid (B3.out.trans (D9.out.mono B3.out.size))
        have A3 := Lib.hid (allocBP w3 (.cells #[.string z] 9))
        have BA := Lib.hid (BD.out.trans ((allocBP w3.drew (.cells #[.string z] 9)).mono BD.out.size))
        have HB3 := Lib.hid (p := BkP w3 pb (dsA vn vu vp p.hor p.cells p.slots p.stack vd) 27) ((B3.out.block pb HB.out.lt).trans HB.out)
        have cv := HB3.out.cell 1
        have cv2 := (A3.out.cell (p := ⟨pb, 1, none⟩) HB3.out.lt).trans cv
        have W3 := Lib.hid (HW.out.later B3.out)
        have cz := CW.out _ W3.out
        have cz2 := CW.out _ (W3.out.later A3.out)
        simp only [dsA, List.getElem?_toArray, List.getElem?_cons_zero, List.getElem?_cons_succ] at cv cv2
        have OW := Lib.hid (own_belQ HL.out.ou BD.out)
        have BZ := Lib.hid (p := B ≤ w3.drew.heap.size) (Nat.le_trans HL.out.sz BD.out.size)
        have ND := Lib.hid (fun (g5 cap5 : Nat) (w5 : World) gr o l => DsX.cs1 (W := w3.drew.alloc (.cells #[.string z] 9)) (W' := w5) (g := g5) (cap := cap5) (p := { p with cs := us }) ((BA.out.block pb HB.out.lt).trans HB.out) (HL.out.later BA.out) AX.out.1 AX.out.2.1 AX.out.2.2.1 (Nat.lt_of_lt_of_le AX.out.2.2.2 BA.out.size) z gr o l)
        have NX := Lib.hid (p := vu.ownBlock ≠ some xb) AX.out.2.1
        have WX := Lib.hid (HW.out.later BA.out)
        go_region_law (refine step_stA w3.drew rfl _ _ rfl B vu us z rfl OW.out rfl LN.out BZ.out ?_; intro g5 cap5 w5 h1 h2 h3; have N5 := Lib.hid (ND.out g5 cap5 w5 h2 h1 h3); have k1 := N5.out.2.1; have k2 := N5.out.2.2.1; have W5 := Lib.hid (WX.out.grown h2 NX.out); clear h1 h2 h3)
        all_goals
          (try clear cv cv2 cz cz2 k1 k2)
          repeat (first | go_values | go_skip | go_guarded | go_step | go_upon)
          go_roundw
          case rel => exact ⟨j + 1, by omega, by omega, by go_num, by rw [TK.out, List.all_append, HA.out]; simp [HC.out]; trivial, by rw [TK.out]; exact N5.out.1, HF.out.trans ((FrB.below BA.out).trans N5.out.2.2.2), W5.out.set AX.out.2.2.1⟩
          case measure => simp [intOf]; omega
    · obtain rfl : j = n := by omega
      have AL := Lib.hid (p := ws.all curP = true) (by have := HA.out; rwa [List.take_of_length_le (by have := NN.out; omega)] at this)
      have DX := Lib.hid (p := DsX pb B xb W { p with cs := ws } m) (by have := HD.out; rwa [List.take_of_length_le (by have := NN.out; omega)] at this)
      go_wp2
      go_ret
      exact ⟨rfl, HF.out, fun q hq => by injection hq with hq; subst hq; exact DX.out.ds⟩
end Go.Proofs.YtkjmkhmjaknfhaaGreatDoor
