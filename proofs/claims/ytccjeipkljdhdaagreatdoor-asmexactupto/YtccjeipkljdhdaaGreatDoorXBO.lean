import Derived.Test.YtccjeipkljdhdaaGreatDoorXBN
import Derived.Test.YtccjeipkljdhdaaGreatDoorXAG
import Derived.Test.YtccjeipkljdhdaaGreatDoorXAU
import Derived.Test.YtccjeipkljdhdaaGreatDoorXAK
import Derived.ChangeArms
import Derived.Lib.LaidTab
namespace Go.Proofs.YtccjeipkljdhdaaGreatDoor
open Go.RowKit
set_option linter.unusedVariables false
set_option linter.unusedSimpArgs false

/-- A word more. -/
theorem DsX.cs1 {pb B xb m g cap : Nat} {W W' : World} {p : Ap} {vn vu vp vd : Value} {D : List Sg} (hb : BkP W pb (dsA vn vu vp p.hor p.cells p.slots p.stack vd) 27) (hl : DsL pb B W p vn vu vp vd D m) (a1 : vn.ownBlock ≠ some xb) (a2 : vu.ownBlock ≠ some xb) (a3 : xb ≠ pb) (a4 : xb < W.heap.size) (u : ByteArray)
    (gr : W.grownBy W' vu.ownBlock) (o : OwQ W' B (.slice (some ⟨g, 0, none⟩) (p.cs.length + 1) cap) (p.cs ++ [u])) (l : vu.ownBlock = some g ∨ g = W.heap.size) :
    DsX pb B xb (W'.setCell ⟨pb, 1, none⟩ (.slice (some ⟨g, 0, none⟩) (p.cs.length + 1) cap)) { p with cs := p.cs ++ [u] } m ∧ W'.cell? ⟨pb, 1, none⟩ = some vu ∧ W'.frozen? ⟨pb, 1, none⟩ = false ∧ FrB pb B W (W'.setCell ⟨pb, 1, none⟩ (.slice (some ⟨g, 0, none⟩) (p.cs.length + 1) cap)) := by
  have np : some pb ≠ vu.ownBlock := fun e => by have := (hl.ou.lt pb e.symm).1; have := hl.pb_lt; omega
  have hb1 := hb.grown gr np
  have hl1 := hl.cur u gr o (l.imp (fun q => by rw [q]; rfl) (fun q z e => by simp only [Value.ownBlock, Option.some.injEq] at e; omega))
  have ax : (Value.slice (some ⟨g, 0, none⟩) (p.cs.length + 1) cap).ownBlock ≠ some xb := fun e => by
    simp only [Value.ownBlock, Option.some.injEq] at e
    rcases l with q | q
    · exact a2 (q.trans (by rw [e]))
    · omega
  exact ⟨⟨_, _, _, _, D, hb1.set 1 _ (by simp [dsA]), hl1.setB 1 _, a1, ax, a3, by simpa using Nat.lt_of_lt_of_le a4 gr.size⟩, hb1.cell 1, hb1.frozen 1, (FrB.grown gr (fun z e => .inl (hl.ou.lt z e).1)).trans (FrB.set _ 1 _)⟩
set_option maxRecDepth 100000 in
set_option maxHeartbeats 4000000 in
theorem listcs_any {w : World} {pb B m : Nat} {p : Ap} {xb xo n c : Nat} {w0 : ByteArray} {ws : List ByteArray} (hne : ws ≠ []) (h : DsX pb B xb w p m) (h0 : p.cs = []) (hs : WrW xb xo w (w0 :: ws)) (hn : n = ws.length + 1) (hc : n ≤ 16777216) (hz : ∀ s ∈ w0 :: ws, s.size ≤ 16777216) :
    Calls Tryz.prog 55 #[.pointer (some ⟨pb, 0, none⟩), .slice (some ⟨xb, xo, none⟩) n c, .int .i64 1] w fun e w' => LsE pb B m (apList 1 ws p) w e w' := by
  have HS := Lib.hid hs
  have HZ := Lib.hid hz
  have HX := Lib.hid h
  have H0 := Lib.hid h0
  have NN := Lib.hid hn
  have e0 : apList 1 ws p = if ws.all curP = true then some { p with cs := ws } else none := by
    unfold apList
    rw [if_neg hne]
    rfl
  have n2 : ¬ (n : Int) < 2 := by
    have : 0 < ws.length := List.length_pos_iff.2 hne
    omega
  have n2' : 1 ≤ n := by omega
  rw [e0]
  clear e0 h h0 hs hz hn hne
  go_enter Tryz.func55, Tryz.ntmps55
  go_wp2
  go_loopw [7] (fun t W => ∃ j : Nat, 1 ≤ j ∧ j ≤ n ∧ t = .int .i64 (j : Int) ∧ RowKit.Hid ((ws.take (j - 1)).all curP = true) ∧ RowKit.Hid (DsX pb B xb W { p with cs := ws.take (j - 1) } m) ∧ RowKit.Hid (FrB pb B w W) ∧ RowKit.Hid (WrW xb xo W (w0 :: ws))) (fun t _ => n - (intOf t).toNat)
  case atStart => exact ⟨1, Nat.le_refl _, n2', rfl, rfl, by have z := HX.out; rw [show ({ p with cs := ws.take (1 - 1) } : Ap) = p by rw [show 1 - 1 = 0 from rfl, List.take_zero, ← H0.out]]; exact z, FrB.refl _ _ _, HS.out⟩
  case round =>
    rename World => W
    obtain ⟨j, j1, jn, rfl, HA, HD, HF, HW⟩ := hrel
    by_cases hlt : j < n
    · have jc : (j : Int) < (n : Int) := by omega
      have jl : j < (w0 :: ws).length := by rw [List.length_cons, ← NN.out]; exact hlt
      have jl2 : j - 1 < ws.length := by have := NN.out; omega
      have cw := HW.out.2 j jl
      have zz := HZ.out _ (List.getElem_mem jl)
      have ez : (w0 :: ws)[j] = ws[j - 1] := by
        obtain ⟨i, rfl⟩ : ∃ i, j = i + 1 := ⟨j - 1, by omega⟩
        rfl
      have TK := Lib.hid (p := ws.take (j + 1 - 1) = ws.take (j - 1) ++ [(w0 :: ws)[j]]) (by rw [ez, show j + 1 - 1 = (j - 1) + 1 by omega, List.take_succ_eq_append_getElem jl2])
      have TB := Lib.hid (p := curP (w0 :: ws)[j] = false → ws.all curP = false) (fun q => by
        rw [List.all_eq_false]
        exact ⟨ws[j - 1], List.getElem_mem jl2, by rw [← ez, q]; decide⟩)
      have LN := Lib.hid (p := (ws.take (j - 1)).length ≤ 1000000000) (by rw [List.length_take]; omega)
      have CW := Lib.hid (fun W' (b : WrW xb xo W' (w0 :: ws)) => b.2 j jl)
      generalize (w0 :: ws)[j] = z at *
      generalize ws.take (j - 1) = us at *
      have KV := Lib.hid (valueN_any z zz W)
      have KC := Lib.hid (p := Calls Tryz.prog 88 #[.string z] W fun e w' => e = .returned (.bool (curP z)) ∧ Below W.heap.size W w') ((rcurrency_any z W).mono fun e w2 h => ⟨h.1, by rw [h.2]; exact Below.refl _ _⟩)
      clear ez jl zz
      obtain ⟨vn, vu, vp, vd, D, hb, hl, a1, a2, a3, a4⟩ := HD.out
      have HB := Lib.hid hb
      have HL := Lib.hid hl
      have AX := Lib.hid (And.intro a1 (And.intro a2 (And.intro a3 a4)))
      clear hb hl a1 a2 a3 a4 HD
      obtain ⟨C, hC⟩ : ∃ C, curP z = C := ⟨_, rfl⟩
      rw [hC] at KC
      rw [hC] at TB
      have HC := Lib.hid hC
      clear hC
      cases C
      · have AF := Lib.hid (TB.out rfl)
        clear TB
        go_wp2_with (first
          | (go_at_call 29; refine KV.out.mono ?_; rintro e w2 ⟨⟨i, rfl, hi⟩, rfl⟩; clear hi)
          | (go_at_call 88; refine KC.out.mono ?_; rintro e w3 ⟨rfl, h2⟩; have B3 := Lib.hid h2; clear h2))
        clear cw n2 n2'
        have D9 := Lib.hid (p := Below w3.heap.size w3 w3.drew) (Below.refl _ w3).drew
        have BD := Lib.hid (B3.out.trans (D9.out.mono B3.out.size))
        have A3 := Lib.hid (allocBP w3 (.cells #[.string z] 9))
        have BA := Lib.hid (BD.out.trans ((allocBP w3.drew (.cells #[.string z] 9)).mono BD.out.size))
        have HB3 := Lib.hid (p := BkP w3 pb (dsA vn vu vp p.hor p.cells p.slots p.stack vd) 27) ((B3.out.block pb HB.out.lt).trans HB.out)
        have cv := HB3.out.cell 1
        have cv2 := (A3.out.cell (p := ⟨pb, 1, none⟩) HB3.out.lt).trans cv
        have W3 := Lib.hid (HW.out.later B3.out)
        have cz := CW.out _ W3.out
        have cz2 := CW.out _ (W3.out.later A3.out)
        simp only [dsA, List.getElem?_toArray, List.getElem?_cons_zero, List.getElem?_cons_succ] at cv cv2
        have OW := Lib.hid (own_belQ HL.out.ou BD.out)
        have BZ := Lib.hid (p := B ≤ w3.drew.heap.size) (Nat.le_trans HL.out.sz BD.out.size)
        have ND := Lib.hid (fun (g5 cap5 : Nat) (w5 : World) gr o l => DsX.cs1 (W := w3.drew.alloc (.cells #[.string z] 9)) (W' := w5) (g := g5) (cap := cap5) (p := { p with cs := us }) ((BA.out.block pb HB.out.lt).trans HB.out) (HL.out.later BA.out) AX.out.1 AX.out.2.1 AX.out.2.2.1 (Nat.lt_of_lt_of_le AX.out.2.2.2 BA.out.size) z gr o l)
        have NX := Lib.hid (p := vu.ownBlock ≠ some xb) AX.out.2.1
        have WX := Lib.hid (HW.out.later BA.out)
        go_region_law (refine step_stA w3.drew rfl _ _ rfl B vu us z rfl OW.out rfl LN.out BZ.out ?_; intro g5 cap5 w5 h1 h2 h3; have N5 := Lib.hid (ND.out g5 cap5 w5 h2 h1 h3); have k1 := N5.out.2.1; have k2 := N5.out.2.2.1; have W5 := Lib.hid (WX.out.grown h2 NX.out); clear h1 h2 h3)
        all_goals
          (try clear cv cv2 cz cz2 k1 k2)
          repeat (first | go_values | go_skip | go_guarded | go_step | go_upon)
          go_ret
          rw [AF.out]
          exact ⟨rfl, HF.out.trans ((FrB.below BA.out).trans N5.out.2.2.2), fun q hq => by cases hq⟩
      · clear TB
        go_wp2_with (first
          | (go_at_call 29; refine KV.out.mono ?_; rintro e w2 ⟨⟨i, rfl, hi⟩, rfl⟩; clear hi)
          | (go_at_call 88; refine KC.out.mono ?_; rintro e w3 ⟨rfl, h2⟩; have B3 := Lib.hid h2; clear h2))
        clear cw n2 n2'
        have D9 := Lib.hid (p := Below w3.heap.size w3 w3.drew) (Below.refl _ w3).drew
        have BD := Lib.hid (B3.out.trans (D9.out.mono B3.out.size))
        have A3 := Lib.hid (allocBP w3 (.cells #[.string z] 9))
        have BA := Lib.hid (BD.out.trans ((allocBP w3.drew (.cells #[.string z] 9)).mono BD.out.size))
        have HB3 := Lib.hid (p := BkP w3 pb (dsA vn vu vp p.hor p.cells p.slots p.stack vd) 27) ((B3.out.block pb HB.out.lt).trans HB.out)
        have cv := HB3.out.cell 1
        have cv2 := (A3.out.cell (p := ⟨pb, 1, none⟩) HB3.out.lt).trans cv
        have W3 := Lib.hid (HW.out.later B3.out)
        have cz := CW.out _ W3.out
        have cz2 := CW.out _ (W3.out.later A3.out)
        simp only [dsA, List.getElem?_toArray, List.getElem?_cons_zero, List.getElem?_cons_succ] at cv cv2
        have OW := Lib.hid (own_belQ HL.out.ou BD.out)
        have BZ := Lib.hid (p := B ≤ w3.drew.heap.size) (Nat.le_trans HL.out.sz BD.out.size)
        have ND := Lib.hid (fun (g5 cap5 : Nat) (w5 : World) gr o l => DsX.cs1 (W := w3.drew.alloc (.cells #[.string z] 9)) (W' := w5) (g := g5) (cap := cap5) (p := { p with cs := us }) ((BA.out.block pb HB.out.lt).trans HB.out) (HL.out.later BA.out) AX.out.1 AX.out.2.1 AX.out.2.2.1 (Nat.lt_of_lt_of_le AX.out.2.2.2 BA.out.size) z gr o l)
        have NX := Lib.hid (p := vu.ownBlock ≠ some xb) AX.out.2.1
        have WX := Lib.hid (HW.out.later BA.out)
        go_region_law (refine step_stA w3.drew rfl _ _ rfl B vu us z rfl OW.out rfl LN.out BZ.out ?_; intro g5 cap5 w5 h1 h2 h3; have N5 := Lib.hid (ND.out g5 cap5 w5 h2 h1 h3); have k1 := N5.out.2.1; have k2 := N5.out.2.2.1; have W5 := Lib.hid (WX.out.grown h2 NX.out); clear h1 h2 h3)
        all_goals
          (try clear cv cv2 cz cz2 k1 k2)
          repeat (first | go_values | go_skip | go_guarded | go_step | go_upon)
          go_roundw
          case rel => exact ⟨j + 1, by omega, by omega, by go_num, by rw [TK.out, List.all_append, HA.out]; simp [HC.out]; trivial, by rw [TK.out]; exact N5.out.1, HF.out.trans ((FrB.below BA.out).trans N5.out.2.2.2), W5.out.set AX.out.2.2.1⟩
          case measure => simp [intOf]; omega
    · obtain rfl : j = n := by omega
      have AL := Lib.hid (p := ws.all curP = true) (by have := HA.out; rwa [List.take_of_length_le (by have := NN.out; omega)] at this)
      have DX := Lib.hid (p := DsX pb B xb W { p with cs := ws } m) (by have := HD.out; rwa [List.take_of_length_le (by have := NN.out; omega)] at this)
      go_wp2
      go_ret
      exact ⟨rfl, HF.out, fun q hq => by injection hq with hq; subst hq; exact DX.out.ds⟩
end Go.Proofs.YtccjeipkljdhdaaGreatDoor

namespace Go.Proofs.YtccjeipkljdhdaaGreatDoor
open Go.RowKit
set_option linter.unusedVariables false
set_option linter.unusedSimpArgs false

theorem owq_wrw {W : World} {B xb n c : Nat} {l : List ByteArray} (h : OwQ W B (.slice (some ⟨xb, 0, none⟩) n c) l) (hn : n = l.length) : WrW xb 0 W l := by
  subst hn
  refine ⟨(h.lt xb rfl).2, fun i hi => ?_⟩
  rcases wrs_of h with q | ⟨g, e, _, q⟩
  · subst q; simp at hi
  · injection e with e
    injection e with e1 e2
    subst e1
    simpa using (q i hi).1
/-- A value more. -/
theorem DsP.num1 {pb B m : Nat} {W W' : World} {p : Ap} {vn vu vp vp' vd : Value} {D : List Sg} (hb : BkP W pb (dsA vn vu vp p.hor p.cells p.slots p.stack vd) 27) (hl : DsL pb B W p vn vu vp vd D m) (u : Int)
    (gr : W.grownBy W' vp.ownBlock) (o : OwZs W' B vp' (p.pl ++ [u])) :
    DsP pb B (W'.setCell ⟨pb, 2, none⟩ vp') { p with pl := p.pl ++ [u] } m ∧ W'.cell? ⟨pb, 2, none⟩ = some vp ∧ W'.frozen? ⟨pb, 2, none⟩ = false ∧ FrB pb B W (W'.setCell ⟨pb, 2, none⟩ vp') := by
  have np : some pb ≠ vp.ownBlock := fun e => by have := (hl.op.lt pb e.symm).1; have := hl.pb_lt; omega
  have hb1 := hb.grown gr np
  have hl1 := hl.num u gr o
  exact ⟨⟨_, _, _, _, D, hb1.set 2 _ (by simp [dsA]), hl1.setB 2 _⟩, hb1.cell 2, hb1.frozen 2, (FrB.grown gr (fun z e => .inl (hl.op.lt z e).1)).trans (FrB.set _ 2 _)⟩
set_option maxRecDepth 100000 in
set_option maxHeartbeats 4000000 in
theorem listZ_any {w : World} {pb B B0 m : Nat} {p : Ap} {xb xo n c : Nat} {w0 : ByteArray} {ws : List ByteArray} (hne : ws ≠ []) (h : DsP pb B w p m) (h0 : p.pl = []) (hxo : xo = 0) (hs : OwQ w B0 (.slice (some ⟨xb, xo, none⟩) n c) (w0 :: ws)) (hB0 : pb < B0) (hn : n = ws.length + 1) (hc : n ≤ 16777216) (hz : ∀ s ∈ w0 :: ws, s.size ≤ 16777216) :
    Calls Tryz.prog 55 #[.pointer (some ⟨pb, 0, none⟩), .slice (some ⟨xb, xo, none⟩) n c, .int .i64 2] w fun e w' => LsE pb B m (apList 2 ws p) w e w' := by
  have HS := Lib.hid hs
  have HZ := Lib.hid hz
  have HX := Lib.hid h
  have H0 := Lib.hid h0
  have NN := Lib.hid hn
  have XO := Lib.hid hxo
  have PB0 := Lib.hid hB0
  have CS := Lib.hid (p := ∀ W, OwQ W B0 (.slice (some ⟨xb, xo, none⟩) n c) (w0 :: ws) → WrW xb xo W (w0 :: ws)) (fun W q => by subst hxo; exact owq_wrw q (by rw [hn]; rfl))
  have e0 : apList 2 ws p = (valsW ws).map fun l => { p with pl := l } := by
    unfold apList
    rw [if_neg hne]
    rfl
  have n2 : ¬ (n : Int) < 2 := by
    have : 0 < ws.length := List.length_pos_iff.2 hne
    omega
  have n2' : 1 ≤ n := by omega
  rw [e0]
  clear e0 h h0 hs hz hn hne hxo hB0
  go_enter Tryz.func55, Tryz.ntmps55
  go_wp2
  go_loopw [7] (fun t W => ∃ (j : Nat) (us : List Int), 1 ≤ j ∧ j ≤ n ∧ t = .int .i64 (j : Int) ∧ RowKit.Hid (us.length = j - 1) ∧ RowKit.Hid (valsW (ws.take (j - 1)) = some us) ∧ RowKit.Hid (DsP pb B W { p with pl := us } m) ∧ RowKit.Hid (FrB pb B w W) ∧ RowKit.Hid (OwQ W B0 (.slice (some ⟨xb, xo, none⟩) n c) (w0 :: ws))) (fun t _ => n - (intOf t).toNat)
  case atStart => exact ⟨1, [], Nat.le_refl _, n2', rfl, rfl, by rw [show 1 - 1 = 0 from rfl, List.take_zero]; rfl, by have z := HX.out; rw [show ({ p with pl := [] } : Ap) = p by rw [← H0.out]]; exact z, FrB.refl _ _ _, HS.out⟩
  case round =>
    rename World => W
    obtain ⟨j, us, j1, jn, rfl, HU, HA, HD, HF, HW⟩ := hrel
    by_cases hlt : j < n
    · have jc : (j : Int) < (n : Int) := by omega
      have jl : j < (w0 :: ws).length := by rw [List.length_cons, ← NN.out]; exact hlt
      have jl2 : j - 1 < ws.length := by have := NN.out; omega
      have cw := (CS.out W HW.out).2 j jl
      have zz := HZ.out _ (List.getElem_mem jl)
      have ez : (w0 :: ws)[j] = ws[j - 1] := by
        obtain ⟨i, rfl⟩ : ∃ i, j = i + 1 := ⟨j - 1, by omega⟩
        rfl
      have tk : ws.take (j + 1 - 1) = ws.take (j - 1) ++ [(w0 :: ws)[j]] := by rw [ez, show j + 1 - 1 = (j - 1) + 1 by omega, List.take_succ_eq_append_getElem jl2]
      have TK := Lib.hid (p := valsW (ws.take (j + 1 - 1)) = (valW (w0 :: ws)[j]).map fun v => us ++ [v]) (by rw [tk, valsW_snoc, HA.out]; rfl)
      have TB := Lib.hid (p := valW (w0 :: ws)[j] = none → valsW ws = none) (fun q => by
        rw [← List.take_append_drop (j + 1 - 1) ws]
        refine valsW_bad ?_
        rw [TK.out, q]; rfl)
      have LN := Lib.hid (p := us.length ≤ 1073741824) (by have := HU.out; omega)
      generalize (w0 :: ws)[j] = z at *
      have KV := Lib.hid (valueT_any z zz W)
      clear ez jl zz tk
      obtain ⟨vn, vu, vp, vd, D, hb, hl⟩ := HD.out
      have HB := Lib.hid hb
      have HL := Lib.hid hl
      have cv := hb.cell 2
      simp only [dsA, List.getElem?_toArray, List.getElem?_cons_zero, List.getElem?_cons_succ] at cv
      have OW := Lib.hid hl.op
      have BZ := Lib.hid hl.sz
      have PB := Lib.hid hl.pb_lt
      have OX := Lib.hid (p := ∀ W', W.grownBy W' vp.ownBlock → OwQ W' B0 (.slice (some ⟨xb, xo, none⟩) n c) (w0 :: ws)) (fun W' g => own_typQ HW.out hl.op (by decide) g)
      have ND := Lib.hid (fun (u : Int) (v5 : Value) (w5 : World) gr o => DsP.num1 (W := W.alloc (.cells #[.int .i64 u] 3)) (W' := w5) (vp' := v5) (p := { p with pl := us }) ((allocBP W (.cells #[.int .i64 u] 3)).block pb HB.out.lt |>.trans HB.out) (HL.out.later (allocBP W (.cells #[.int .i64 u] 3))) u gr o)
      have NX := Lib.hid (fun (u : Int) (w5 : World) gr => own_typQ (W := W.alloc (.cells #[.int .i64 u] 3)) (W' := w5) (own_belQ HW.out (allocBP W (.cells #[.int .i64 u] 3))) (own_belQ HL.out.op (allocBP W (.cells #[.int .i64 u] 3))) (by decide) gr)
      clear hb hl HD
      obtain ⟨O, hO⟩ : ∃ O, valW z = O := ⟨_, rfl⟩
      rw [hO] at KV TB TK
      clear hO
      cases O with
      | none =>
        have AF := Lib.hid (TB.out rfl)
        clear TB TK
        go_wp2_with (first
          | (go_at_call 29; refine KV.out.mono ?_; rintro e w2 ⟨⟨i, rfl, hi⟩, rfl⟩; clear hi)
          | (at_builtin; refine wp_intA _ B i us rfl _ _ rfl vp rfl rfl OW.out LN.out BZ.out ?_; intro v5 w5 o5 g5; obtain ⟨a5, c5, rfl⟩ := own_slQ o5; have N5 := ND.out i _ w5 g5 o5; rw [show (us ++ [i]).length = us.length + 1 from by simp] at N5; have N5 := Lib.hid N5; have k1 := N5.out.2.1; have k2 := N5.out.2.2.1; clear o5 g5))
        go_ret
        rw [AF.out]
        exact ⟨rfl, HF.out.trans ((FrB.below (allocBP _ _)).trans N5.out.2.2.2), fun q hq => by cases hq⟩
      | some v =>
        clear TB
        go_wp2_with (first
          | (go_at_call 29; refine KV.out.mono ?_; rintro e w2 ⟨⟨i, rfl, hi⟩, rfl⟩; obtain rfl := hi v rfl; clear hi)
          | (at_builtin; refine wp_intA _ B i us rfl _ _ rfl vp rfl rfl OW.out LN.out BZ.out ?_; intro v5 w5 o5 g5; obtain ⟨a5, c5, rfl⟩ := own_slQ o5; have N5 := ND.out i _ w5 g5 o5; rw [show (us ++ [i]).length = us.length + 1 from by simp] at N5; have N5 := Lib.hid N5; have W5 := Lib.hid (NX.out i w5 g5); have k1 := N5.out.2.1; have k2 := N5.out.2.2.1; clear o5 g5))
        go_roundw
        case rel => exact ⟨j + 1, us ++ [i], by omega, by omega, by go_num, by have := HU.out; simp; show us.length + 1 = j; omega, by rw [TK.out]; rfl, N5.out.1, HF.out.trans ((FrB.below (allocBP _ _)).trans N5.out.2.2.2), own_setQ W5.out PB0.out⟩
        case measure => simp [intOf]; omega
    · obtain rfl : j = n := by omega
      have AL := Lib.hid (p := valsW ws = some us) (by have := HA.out; rwa [List.take_of_length_le (by have := NN.out; omega)] at this)
      go_wp2
      go_ret
      rw [AL.out]
      exact ⟨rfl, HF.out, fun q hq => by injection hq with hq; subst hq; exact HD.out⟩
end Go.Proofs.YtccjeipkljdhdaaGreatDoor

namespace Go.Proofs.YtccjeipkljdhdaaGreatDoor
open Go.RowKit
set_option linter.unusedVariables false
set_option linter.unusedSimpArgs false
/-- The document's heads, in memory. -/
def HdR (w : World) : Prop := 0 < w.heap.size ∧ ∀ k, k < 7 → w.cell? ⟨0, k, none⟩ = some (.string (hdA k))
theorem HdR.later {w w' : World} (h : HdR w) (b : Below w.heap.size w w') : HdR w' := ⟨Nat.lt_of_lt_of_le h.1 b.size, fun k hk => (b.cell (p := ⟨0, k, none⟩) h.1).trans (h.2 k hk)⟩
def hdD {H : Type} (k : Nat) : DataW H := .lit (.string (hdA k).data.toList)
theorem hds_of_laid {w : World} {rest : List (String × DataW Unit)} (h : laidMet Tryz.prog (("payoff/payoffref13.heads", Rows.laid_payoff_payoffref13_heads) :: rest) w) : HdR w := by
  have hg : Tryz.prog.globalNamed "payoff/payoffref13.heads" = some 0 := by kernel_rfl
  have hty : (Tryz.prog.globals[0]?).map (·.type) = some 100 := by kernel_rfl
  obtain ⟨ps, ⟨g', t', cs, fuel, p, q, hg', ht', hvar, hd, _, _⟩, _⟩ := h
  obtain rfl := Option.some.inj (hg.symm.trans hg')
  obtain rfl := Option.some.inj (hty.symm.trans ht')
  rw [show (Rows.laid_payoff_payoffref13_heads : DataW Unit) = .agg ((List.range 7).map hdD) from rfl] at hd
  obtain ⟨xs, m, _, hx, hl, hlen, hel⟩ := DataW.trod_array Tryz.underlying100 hd
  rw [show Tryz.prog.cellsOf 100 = 7 by kernel_rfl] at hl
  rw [show Tryz.prog.cellsOf 9 = 1 by kernel_rfl] at hel
  have hx1 : xs.map (·.1) = (List.range 7).map hdD := by
    have := congrArg Prod.fst hx
    simp only [DataW.agg.injEq] at this
    exact this.symm
  have key : ∀ k, k < 7 → (cs.toList.drop (k * 1)).take 1 = [.string (hdA k)] := by
    intro k hk
    have h1 := hel k hk
    have hk' : k < xs.length := by omega
    rw [List.getElem?_eq_getElem hk'] at h1
    have h2 : (xs[k]).1 = hdD k := by
      have : (xs.map (·.1))[k]? = ((List.range 7).map hdD)[k]? := by rw [hx1]
      simpa [hk', hk] using this
    obtain ⟨z0, r0, q0, _⟩ := DataW.trod_string Tryz.underlying9 h1
    rw [q0] at h2
    unfold hdD at h2
    simp only [DataW.lit.injEq, Lit.string.injEq] at h2
    rw [r0]
    exact congrArg (fun t => [Value.string t]) (by
      have : z0.data.toList = (hdA k).data.toList := h2
      obtain ⟨⟨z0⟩⟩ := z0
      generalize hdA k = y at *
      obtain ⟨⟨y⟩⟩ := y
      simp at this
      rw [this])
  have cell : ∀ k, k < 7 → w.cell? ⟨0, k, none⟩ = some (.string (hdA k)) := by
    intro k hk
    rw [World.var?_cell hg hvar k]
    have := congrArg (fun l => l[0]?) (key k hk)
    simp only [List.getElem?_take_of_lt (show 0 < 1 by omega), List.getElem?_drop, Nat.mul_one, Nat.add_zero] at this
    simpa using this
  have lt : 0 < w.heap.size := by
    have c0 := cell 0 (by omega)
    unfold World.cell? at c0
    by_cases g : 0 < w.heap.size
    · exact g
    · rw [Array.getElem?_eq_none (by show w.heap.size ≤ 0; omega)] at c0
      simp at c0
  exact ⟨lt, cell⟩

theorem trod_pairQ {H : Type} {enc : TypeId × Value → H} {P : Program} {W : World} {base : Nat} {sp : Nat → Bool} {held : Bool} {t s u : TypeId} {fs : Array Field} {fuel : Nat} {n : List UInt8} {f : Bool} {x : DataW H × List MemPlace} {cs : List Value}
    (ht : P.underlying t = some (.struct fs)) (hfs : fs.toList.map (fun f => (f.type, f.offset)) = [(s, 0), (u, 1)]) (hs : P.underlying s = some .string) (hcs : P.cellsOf s = 1) (hu : P.underlying u = some .bool) (hcu : P.cellsOf u = 1)
    (h : DataW.trod enc P W base sp held fuel t cs = some x) (hx1 : x.1 = .agg [.lit (.string n), .lit (.bool f)]) : cs[0]? = some (.string ⟨n.toArray⟩) ∧ cs[1]? = some (.bool f) := by
  obtain ⟨xs, m, _, hx, hl, hlen, hfld⟩ := DataW.trod_struct ht h
  have h3 : fs.size = 2 := by have := congrArg List.length hfs; simpa using this
  have fat : ∀ j (hj : j < 2), ∃ f, fs[j]? = some f ∧ (f.type, f.offset) = [(s, 0), (u, 1)][j] := by
    intro j hj
    refine ⟨fs[j]'(by omega), by simp [show j < fs.size by omega], ?_⟩
    have : (fs.toList.map (fun f => (f.type, f.offset)))[j]? = [(s, 0), (u, 1)][j]? := by rw [hfs]
    simpa [show j < fs.size by omega, hj] using this
  obtain ⟨f0, g0, e0⟩ := fat 0 (by omega)
  obtain ⟨f1, g1, e1⟩ := fat 1 (by omega)
  obtain ⟨y0, y1, rfl⟩ : ∃ a b, xs = [a, b] := by
    have : xs.length = 2 := by omega
    match xs, this with
    | [a, b], _ => exact ⟨a, b, rfl⟩
  have k0 := hfld 0 f0 g0
  have k1 := hfld 1 f1 g1
  simp at e0 e1
  simp only [List.getElem?_cons_zero, List.getElem?_cons_succ] at k0 k1
  rw [e0.1, e0.2, hcs] at k0
  rw [e1.1, e1.2, hcu] at k1
  obtain ⟨z0, r0, q0, _⟩ := DataW.trod_string hs k0
  obtain ⟨z1, r1, q1⟩ := DataW.trod_bool hu k1
  rw [hx] at hx1
  simp only [List.map_cons, List.map_nil, DataW.agg.injEq, List.cons.injEq, and_true] at hx1
  rw [q0, q1] at hx1
  simp at hx1
  have a0 := congrArg (fun l => l[0]?) r0
  have a1 := congrArg (fun l => l[0]?) r1
  simp only [List.drop_zero, List.getElem?_cons_zero] at a0
  simp only [List.getElem?_cons_zero] at a1
  rw [List.getElem?_take_of_lt (by omega)] at a0 a1
  rw [List.getElem?_drop] at a1
  refine ⟨?_, ?_⟩
  · rw [a0]
    obtain ⟨⟨z0⟩⟩ := z0
    have := hx1.1
    simp at this
    simp [this]
  · rw [show (1 : Nat) = 1 + 0 from rfl, a1, hx1.2]
/-- A line's rule, as the list says it. -/
def lnDQ {H : Type} (k : Nat) : DataW H := .agg [.lit (.string (hdA k).data.toList), .lit (.bool (optA k))]
theorem lnr_of_laid {w : World} {rest : List (String × DataW Unit)} (h : laidMet Tryz.prog (("payoff/asm.lines", Rows.laid_payoff_asm_lines) :: rest) w) : LnR w := by
  have hg : Tryz.prog.globalNamed "payoff/asm.lines" = some 2 := by kernel_rfl
  have hty : (Tryz.prog.globals[2]?).map (·.type) = some 119 := by kernel_rfl
  obtain ⟨ps, ⟨g', t', cs, fuel, p, q, hg', ht', hvar, hd, _, _⟩, _⟩ := h
  obtain rfl := Option.some.inj (hg.symm.trans hg')
  obtain rfl := Option.some.inj (hty.symm.trans ht')
  rw [show (Rows.laid_payoff_asm_lines : DataW Unit) = .agg ((List.range 8).map lnDQ) from rfl] at hd
  obtain ⟨xs, m, _, hx, hl, hlen, hel⟩ := DataW.trod_array Tryz.underlying119 hd
  rw [show Tryz.prog.cellsOf 118 = 2 by kernel_rfl] at hel
  have hx1 : xs.map (·.1) = (List.range 8).map lnDQ := by
    have := congrArg Prod.fst hx
    simp only [DataW.agg.injEq] at this
    exact this.symm
  have cell : ∀ k, k < 8 → w.cell? ⟨2, k * 2, none⟩ = some (.string (hdA k)) ∧ w.cell? ⟨2, k * 2 + 1, none⟩ = some (.bool (optA k)) := by
    intro k hk
    have h1 := hel k hk
    have hk' : k < xs.length := by omega
    rw [List.getElem?_eq_getElem hk'] at h1
    have h2 : (xs[k]).1 = lnDQ k := by
      have : (xs.map (·.1))[k]? = ((List.range 8).map lnDQ)[k]? := by rw [hx1]
      simpa [hk', hk] using this
    obtain ⟨h3, h4⟩ := trod_pairQ (t := 118) (s := 9) (u := 4) Tryz.underlying118 rfl Tryz.underlying9 (by kernel_rfl) Tryz.underlying4 (by kernel_rfl) h1 h2
    rw [List.getElem?_take_of_lt (by omega), List.getElem?_drop] at h3 h4
    rw [Nat.add_zero] at h3
    rw [World.var?_cell hg hvar (k * 2), World.var?_cell hg hvar (k * 2 + 1)]
    exact ⟨by simpa using h3, by simpa using h4⟩
  have lt : 2 < w.heap.size := by
    have c0 := (cell 0 (by omega)).1
    unfold World.cell? at c0
    by_cases g : 2 < w.heap.size
    · exact g
    · rw [Array.getElem?_eq_none (by show w.heap.size ≤ 2; omega)] at c0
      simp at c0
  exact ⟨lt, cell⟩
end Go.Proofs.YtccjeipkljdhdaaGreatDoor

namespace Go.Proofs.YtccjeipkljdhdaaGreatDoor
open Go.RowKit
set_option linter.unusedVariables false
set_option linter.unusedSimpArgs false

theorem lsD_nil (k : Nat) (p : Ap) : lsD k [] p = none := by
  unfold lsD
  split
  · rfl
  · unfold apList; rw [if_pos rfl]
theorem lsD_two (k : Nat) (h : 3 ≤ k) (u v : ByteArray) (ws : List ByteArray) (p : Ap) : lsD k (u :: v :: ws) p = none := by
  unfold lsD
  rw [if_pos h]
  rfl
set_option maxRecDepth 100000 in
set_option maxHeartbeats 2000000 in
theorem list_any {w : World} {pb B B0 m : Nat} {p : Ap} {xb n c : Nat} {w0 : ByteArray} {ws : List ByteArray} (k : Nat) (k7 : k < 7) (h : DsX pb B xb w p m) (h0 : k = 0 → p.ns = []) (h1 : k = 1 → p.cs = []) (h2 : k = 2 → p.pl = []) (hs : OwQ w B0 (.slice (some ⟨xb, 0, none⟩) n c) (w0 :: ws)) (hB0 : pb < B0) (hn : n = ws.length + 1) (hc : n ≤ 16777216) (hz : ∀ s ∈ w0 :: ws, s.size ≤ 16777216) :
    Calls Tryz.prog 55 #[.pointer (some ⟨pb, 0, none⟩), .slice (some ⟨xb, 0, none⟩) n c, .int .i64 (k : Int)] w fun e w' => LsE pb B m (lsD k ws p) w e w' := by
  cases ws with
  | nil =>
    subst hn
    rw [lsD_nil]
    clear h h0 h1 h2 hs hz
    go_enter Tryz.func55, Tryz.ntmps55
    go_wp2
    go_ret
    exact ⟨rfl, FrB.refl _ _ _, fun q hq => by cases hq⟩
  | cons u us =>
    by_cases k3 : 3 ≤ k
    · cases us with
      | nil =>
        subst hn
        refine listN_any (w0 := w0) k k3 k7 h.ds ?_ (hz u (by simp))
        exact own_sr hs (by simp) (fun s q => Nat.le_trans (hz s q) (by omega))
      | cons v us =>
        rw [lsD_two k k3]
        have n2 : ¬ (n : Int) < 2 := by rw [hn]; simp only [List.length_cons]; omega
        have n3 : ((n : Int) == 2) = false := by rw [hn]; simp only [List.length_cons, beq_eq_false_iff_ne]; omega
        have k3' : (3 : Int) ≤ (k : Int) := by omega
        have k3'' : ¬ (k : Int) < 3 := by omega
        clear h h0 h1 h2 hs hz hn k3
        go_enter Tryz.func55, Tryz.ntmps55
        go_wp2
        go_ret
        exact ⟨rfl, FrB.refl _ _ _, fun q hq => by cases hq⟩
    · have e : lsD k (u :: us) p = apList k (u :: us) p := by unfold lsD; rw [if_neg k3]
      rw [e]
      have hw := owq_wrw hs (by rw [hn]; rfl)
      rcases (show k = 0 ∨ k = 1 ∨ k = 2 by omega) with rfl | rfl | rfl
      · exact listns_any (by simp) h (h0 rfl) hw hn hc hz
      · exact listcs_any (by simp) h (h1 rfl) hw hn hc hz
      · exact listZ_any (by simp) h.ds (h2 rfl) rfl hs hB0 hn hc hz
/-- What a line ahead of the days leaves. -/
def HeE (pb B m : Nat) (o : Option Ap) (nx : Nat) (w : World) (e : Ending) (w' : World) : Prop := ∃ v : Int, e = .returned (.tuple #[.int .i64 v, .bool o.isSome]) ∧ FrB pb B w w' ∧ ∀ q, o = some q → DsP pb B w' q m ∧ v = (nx : Int)
theorem mayD_yes {next : Nat} {w0 : ByteArray} {k : Nat} (h : w0 = hdA k) (k7 : k < 7) (hn : next ≤ k) (hj : ∀ j, j < k → next ≤ j → w0 ≠ hdA j ∧ j < 3) : hdI w0 = k ∧ mayD next (hdI w0) = true := by
  have e : hdI w0 = k := by
    rw [h]
    have : ∀ k, k < 8 → hdI (hdA k) = k := by decide
    exact this k (by omega)
  refine ⟨e, ?_⟩
  rw [e]
  unfold mayD
  simp only [Bool.and_eq_true, decide_eq_true_eq, List.all_eq_true, List.mem_range, Bool.or_eq_true]
  exact ⟨⟨k7, hn⟩, fun j q => by
    by_cases g : j < next
    · exact .inl g
    · exact .inr (hj j q (by omega)).2⟩
theorem mayD_no {next : Nat} {w0 : ByteArray} {k : Nat} (h : w0 ≠ hdA k) (k3 : 3 ≤ k) (hn : next ≤ k) (hj : ∀ j, j < k → next ≤ j → w0 ≠ hdA j ∧ j < 3) : mayD next (hdI w0) = false := by
  rw [Bool.eq_false_iff]
  intro q
  unfold mayD at q
  simp only [Bool.and_eq_true, decide_eq_true_eq, List.all_eq_true, List.mem_range, Bool.or_eq_true] at q
  obtain ⟨⟨h7, hx⟩, ha⟩ := q
  have e := hdI_eq (w := w0) (by omega)
  generalize hdI w0 = i at *
  rcases Nat.lt_trichotomy i k with g | g | g
  · exact (hj i g hx).1 e
  · subst g; exact h e
  · rcases ha k g with q | q <;> omega
set_option maxRecDepth 100000 in
set_option maxHeartbeats 4000000 in
theorem head_any {w : World} {pb B B0 m : Nat} {p : Ap} {xb n c next : Nat} {w0 : ByteArray} {ws : List ByteArray} (n6 : next ≤ 6) (h : DsX pb B xb w p m) (h0 : next ≤ 0 → p.ns = []) (h1 : next ≤ 1 → p.cs = []) (h2 : next ≤ 2 → p.pl = []) (hs : OwQ w B0 (.slice (some ⟨xb, 0, none⟩) n c) (w0 :: ws)) (hB0 : pb < B0) (hn : n = ws.length + 1) (hc : n ≤ 16777216) (hz : ∀ s ∈ w0 :: ws, s.size ≤ 16777216) (hd : HdR w) :
    Calls Tryz.prog 28 #[.pointer (some ⟨pb, 0, none⟩), .slice (some ⟨xb, 0, none⟩) n c, .int .i64 (next : Int)] w fun e w' => HeE pb B m (if mayD next (hdI w0) = true then lsD (hdI w0) ws p else none) (hdI w0 + 1) w e w' := by
  have KL := Lib.hid (p := ∀ k, k < 7 → next ≤ k → ∀ W, Below w.heap.size w W → Calls Tryz.prog 55 #[.pointer (some ⟨pb, 0, none⟩), .slice (some ⟨xb, 0, none⟩) n c, .int .i64 (k : Int)] W fun e w' => LsE pb B m (lsD k ws p) W e w') (fun k k7 kn W b => list_any k k7 (h.later b) (fun q => h0 (by omega)) (fun q => h1 (by omega)) (fun q => h2 (by omega)) (own_belQ hs b) hB0 hn hc hz)
  have CW := Lib.hid (p := ∀ W, Below w.heap.size w W → W.cell? ⟨xb, 0, none⟩ = some (.string w0)) (fun W b => by have := (owq_wrw (own_belQ hs b) (by rw [hn]; rfl)).2 0 (by simp); simpa using this)
  have CH := Lib.hid (p := ∀ W, Below w.heap.size w W → ∀ k, k < 7 → W.cell? ⟨0, k, none⟩ = some (.string (hdA k))) (fun W b k hk => (hd.later b).2 k hk)
  have n1 : (0 : Int) < (n : Int) := by omega
  have ND := Lib.hid hn
  clear h h0 h1 h2 hs hz hd hn
  obtain ⟨O, hO⟩ : ∃ O, (if mayD next (hdI w0) = true then lsD (hdI w0) ws p else none) = O := ⟨_, rfl⟩
  have EO := Lib.hid hO
  rw [hO]
  clear hO
  obtain ⟨N, hN⟩ : ∃ N, hdI w0 + 1 = N := ⟨_, rfl⟩
  have EN := Lib.hid hN
  rw [hN]
  clear hN
  go_enter Tryz.func28, Tryz.ntmps28
  go_wp2
  go_loopw [8] (fun t W => ∃ k : Nat, next ≤ k ∧ k ≤ 6 ∧ t = .int .i64 (k : Int) ∧ RowKit.Hid (∀ j, j < k → next ≤ j → w0 ≠ hdA j ∧ j < 3) ∧ RowKit.Hid (Below w.heap.size w W)) (fun t _ => 7 - (intOf t).toNat)
  case atStart => exact ⟨next, Nat.le_refl _, n6, rfl, fun j q q2 => absurd q (by omega), Below.refl _ _⟩
  case round =>
    rename World => W
    obtain ⟨k, kn, k6, rfl, HJ, HB⟩ := hrel
    have kc : (k : Int) < 7 := by omega
    have cw := CW.out W HB.out
    have ch := CH.out W HB.out k (by omega)
    have KK := Lib.hid (KL.out k (by omega) kn W.drew HB.out.drew)
    by_cases hs : w0 = hdA k
    · obtain ⟨e1, e2⟩ := mayD_yes hs (by omega) kn HJ.out
      have EE := EO.out
      rw [if_pos e2, e1] at EE
      rw [EE] at KK
      have E2 := Lib.hid (p := N = k + 1) (by rw [← EN.out, e1])
      rw [← hs] at ch
      clear EE e1 e2 hs EO
      go_wp2_with (go_at_call 55; refine KK.out.mono ?_; rintro e w2 ⟨rfl, f2, d2⟩; have F2 := Lib.hid f2; have D2 := Lib.hid d2; clear f2 d2)
      go_region
      all_goals
        go_wp2_with (go_at_call 55; refine KK.out.mono ?_; rintro e w2 ⟨rfl, f2, d2⟩; have F2 := Lib.hid f2; have D2 := Lib.hid d2; clear f2 d2)
        go_ret2
        exact ⟨_, rfl, (FrB.below HB.out.drew).trans F2.out, fun q hq => ⟨D2.out q hq, by rw [E2.out]; go_num⟩⟩
    · have hs' : (w0.toList == (hdA k).toList) = false := by
        rw [beq_eq_false_iff_ne]; exact fun q => hs (bytes_eq q)
      by_cases k3 : 3 ≤ k
      · have EE := EO.out
        rw [mayD_no hs k3 kn HJ.out, if_neg (by decide)] at EE
        subst EE
        have k3' : (3 : Int) ≤ (k : Int) := by omega
        have k3'' : ¬ (k : Int) < 3 := by omega
        generalize hdA k = y at *
        clear hs KK HJ EO
        go_wp2
        go_region
        all_goals
          go_wp2
          go_ret2
          exact ⟨_, rfl, FrB.below (HB.out.drew), fun q hq => by cases hq⟩
      · have k3' : (k : Int) < 3 := by omega
        have k3'' : ¬ (3 : Int) ≤ (k : Int) := by omega
        have HN := Lib.hid (p := ∀ j, j < k + 1 → next ≤ j → w0 ≠ hdA j ∧ j < 3) (fun j q q2 => by
          rcases (show j < k ∨ j = k by omega) with g | rfl
          · exact HJ.out j g q2
          · exact ⟨hs, by omega⟩)
        generalize hdA k = y at *
        clear hs KK HJ
        go_wp2
        go_region
        all_goals
          go_wp2
          go_roundw
          case rel => exact ⟨k + 1, by omega, by omega, by go_num, HN, HB.out.drew⟩
          case measure => simp [intOf]; omega
end Go.Proofs.YtccjeipkljdhdaaGreatDoor
