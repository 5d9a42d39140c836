import Derived.Test.YtccjeipkljdhdaaGreatDoorXBS
import Derived.Test.YtccjeipkljdhdaaGreatDoorXBE
import Derived.Test.YtccjeipkljdhdaaGreatDoorXBG
namespace Go.Proofs.YtccjeipkljdhdaaGreatDoor
open Go.RowKit
set_option linter.unusedVariables false
set_option linter.unusedSimpArgs false

/-- A day more. -/
theorem DsP.day1 {pb B m g cap : Nat} {W W' : World} {p : Ap} {vn vu vp vd : Value} {D : List Sg} (hb : BkP W pb (dsA vn vu vp p.hor p.cells p.slots p.stack vd) 27) (hl : DsL pb B W p vn vu vp vd D m) (n : Int)
    (gr : W.grownBy W' vd.ownBlock) (o : W'.ownsRow B 39 2 (.slice (some ⟨g, 0, none⟩) (D.length + 1) cap) (D.length + 1) (sgsP D ++ [.int .i64 n, .slice none 0 0])) :
    DsP pb B (W'.setCell ⟨pb, 7, none⟩ (.slice (some ⟨g, 0, none⟩) (D.length + 1) cap)) { p with days := p.days ++ [(n, [])] } (m + 1) ∧ W'.cell? ⟨pb, 7, none⟩ = some vd ∧ W'.frozen? ⟨pb, 7, none⟩ = false ∧ FrB pb B W (W'.setCell ⟨pb, 7, none⟩ (.slice (some ⟨g, 0, none⟩) (D.length + 1) cap)) := by
  have np : some pb ≠ vd.ownBlock := fun e => by have := (hl.od.lt pb e.symm).1; have := hl.pb_lt; omega
  have hb1 := hb.grown gr np
  have hl1 := (hl.more (Nat.le_succ m)).day n gr o (by have := hl.dl; omega)
  exact ⟨⟨_, _, _, _, _, hb1.set 7 _ (by simp [dsA]), hl1.setB 7 _⟩, hb1.cell 7, hb1.frozen 7, (FrB.grown gr (fun z e => .inl (hl.od.lt z e).1)).trans (FrB.set _ 7 _)⟩
theorem FrB.cell {pb B : Nat} {a b : World} (h : FrB pb B a b) {k : Nat} (j : Nat) (h1 : k < a.heap.size) (h2 : k < B) (h3 : k ≠ pb) : b.cell? ⟨k, j, none⟩ = a.cell? ⟨k, j, none⟩ := World.cell?_of_block (a := ⟨k, j, none⟩) (h.blk k h1 h2 h3)
theorem zero_cells {W : World} {b : Nat} (h : BkP W b zP 27) : (W.cell? ⟨b, 0, none⟩ = some (.slice none 0 0) ∧ W.cell? ⟨b, 1, none⟩ = some (.slice none 0 0) ∧ W.cell? ⟨b, 2, none⟩ = some (.slice none 0 0) ∧ W.cell? ⟨b, 3, none⟩ = some (.int .i64 0) ∧ W.cell? ⟨b, 4, none⟩ = some (.int .i64 0) ∧ W.cell? ⟨b, 5, none⟩ = some (.int .i64 0) ∧ W.cell? ⟨b, 6, none⟩ = some (.int .i64 0) ∧ W.cell? ⟨b, 7, none⟩ = some (.slice none 0 0)) := box_8Q h
/-- All words of a line within bounds; how many. -/
theorem wds_ok {s : ByteArray} (hs : s.size ≤ 16777216) {w0 : ByteArray} {ws : List ByteArray} (h : wdsL s 0 = w0 :: ws) : ws.length + 1 ≤ 16777216 ∧ ∀ x ∈ w0 :: ws, x.size ≤ 16777216 := by
  have := wds_bd s _ 0 rfl
  rw [h] at this
  simp only [List.length_cons] at this
  exact ⟨by omega, fun x hx => Nat.le_trans (this.2 x hx) hs⟩
theorem hdI_day (w0 : ByteArray) : hdI w0 = 7 ↔ w0 = hdA 7 := by
  constructor
  · intro h
    have := hdI_eq (w := w0) (by omega)
    rw [h] at this; exact this
  · intro h; subst h; decide
set_option maxRecDepth 100000 in
set_option maxHeartbeats 2000000 in
theorem parseD_any {w : World} (s : ByteArray) (hM : RMd w) (hd : HdR w) :
    Calls Tryz.prog 13 #[.string s] w fun e w' => PaE s w e w' := by
  by_cases hs : s.size ≤ 16777216
  · have c0 : ((s.size : Nat) : Int) ≤ 16777216 := by omega
    have c0' : ¬ (16777216 : Int) < ((s.size : Nat) : Int) := by omega
    obtain ⟨W0, hW0⟩ : ∃ x, ((w.alloc (.cells #[.slice none 0 0, .slice none 0 0, .slice none 0 0, .int .i64 0, .int .i64 0, .int .i64 0, .int .i64 0, .slice none 0 0] 27)).alloc (.cells #[.slice none 0 0, .slice none 0 0, .slice none 0 0, .int .i64 0, .int .i64 0, .int .i64 0, .int .i64 0, .slice none 0 0] 27)).alloc (.cells #[.slice none 0 0, .slice none 0 0, .slice none 0 0, .int .i64 0, .int .i64 0, .int .i64 0, .int .i64 0, .slice none 0 0] 27) = x := ⟨_, rfl⟩
    have A0 := Lib.hid (p := Below w.heap.size w W0) (by rw [← hW0]; exact (((Below.refl w.heap.size w).alloc (Nat.le_refl _) _).alloc (by simp) _).alloc (by simp; omega) _)
    have Z0 := Lib.hid (p := W0.heap.size = w.heap.size + 3) (by rw [← hW0]; simp)
    have K0 := Lib.hid (p := BkP W0 w.heap.size zP 27 ∧ BkP W0 (w.heap.size + 1) zP 27 ∧ BkP W0 (w.heap.size + 1 + 1) zP 27) (by
      rw [← hW0]
      unfold BkP
      refine ⟨?_, ?_, ?_⟩
      all_goals
        show (((w.heap.push _).push _).push _)[_]? = _
        rw [Array.getElem?_push, Array.getElem?_push, Array.getElem?_push]
        simp [zP]
        try omega)
    have KS := Lib.hid (split_any s (by omega) W0)
    have OU : outA s = match apAll (lnsL s 0) 0 (0, Ap.zero) with
        | .error n => (Ap.zero, (n : Int), 131)
        | .ok (n, st) => if mayC st.1 8 = true then (if canP st.2.pg then (st.2, 0, 0) else (Ap.zero, 0, 121)) else (Ap.zero, ((n + 1 : Nat) : Int), 131) := by
      unfold outA
      rw [if_neg (by omega), lns_all]
      first | done | rfl
    have LZ := Lib.hid (p := ∀ l ∈ lnsL s 0, l.size ≤ 16777216) (fun l hl => Nat.le_trans (lnsR_bd _ s rfl l (by rw [lns_all]; exact hl)) hs)
    have LL := Lib.hid (p := (lnsL s 0).length ≤ 16777216) (by have := lnsR_len _ s rfl; rw [lns_all] at this; omega)
    have OUT0 := Lib.hid OU
    have KS1 := Lib.hid (p := Calls Tryz.prog 26 #[.string s] W0 fun e w' => ∃ al cl, e = .returned (.slice al (lnsL s 0).length cl) ∧ OwQ w' W0.heap.size (.slice al (lnsL s 0).length cl) (lnsL s 0) ∧ Below W0.heap.size W0 w') (KS.out.mono (fun e w' ⟨v, h1, h2, h3⟩ => by
      obtain ⟨al, cl, rfl⟩ := own_slQ h2
      exact ⟨al, cl, h1, h2, h3⟩))
    generalize lnsL s 0 = ls at *
    clear OU
    obtain ⟨L, hL⟩ : ∃ L, ls.length = L := ⟨_, rfl⟩
    have NL := Lib.hid hL
    rw [hL] at KS1
    have HM := Lib.hid hM
    have HD0 := Lib.hid hd
    clear KS hL hM hd
    go_enter Tryz.func13, Tryz.ntmps13
    go_wp2_with (first
      | (with_reducible show Calls _ _ _ _ _; rw [hW0])
      | (go_at_call 26; refine KS1.out.mono ?_; rintro e W1 ⟨al, cl, rfl, h2, h3⟩; have O1 := Lib.hid h2; have B1 := Lib.hid h3; clear h2 h3))
    have S1 := Lib.hid (p := w.heap.size + 3 ≤ W1.heap.size) (by have := B1.out.size; have := Z0.out; omega)
    have BB1 := Lib.hid (p := Below w.heap.size w W1) (A0.out.trans (B1.out.mono A0.out.size))
    have BX := Lib.hid (p := ∀ W, FrB (w.heap.size + 1 + 1) W1.heap.size W1 W → _ ∧ _ ∧ (W.frozen? ⟨w.heap.size, 0, none⟩ = false ∧ W.frozen? ⟨w.heap.size, 1, none⟩ = false ∧ W.frozen? ⟨w.heap.size, 2, none⟩ = false ∧ W.frozen? ⟨w.heap.size, 3, none⟩ = false ∧ W.frozen? ⟨w.heap.size, 4, none⟩ = false ∧ W.frozen? ⟨w.heap.size, 5, none⟩ = false ∧ W.frozen? ⟨w.heap.size, 6, none⟩ = false ∧ W.frozen? ⟨w.heap.size, 7, none⟩ = false)) (fun W f => by
      have b0 : BkP W w.heap.size zP 27 := (f.blk _ (by have := S1.out; omega) (by have := S1.out; omega) (by omega)).trans ((B1.out.block _ (by have := Z0.out; omega)).trans K0.out.1)
      have b1 : BkP W (w.heap.size + 1) zP 27 := (f.blk _ (by have := S1.out; omega) (by have := S1.out; omega) (by omega)).trans ((B1.out.block _ (by have := Z0.out; omega)).trans K0.out.2.1)
      exact ⟨zero_cells b0, zero_cells b1, b0.frozen 0, b0.frozen 1, b0.frozen 2, b0.frozen 3, b0.frozen 4, b0.frozen 5, b0.frozen 6, b0.frozen 7⟩)
    have BW := Lib.hid (p := ∀ W, FrB (w.heap.size + 1 + 1) W1.heap.size W1 W → Below w.heap.size w W) (fun W f => BB1.out.trans ((f.bel (B0 := w.heap.size) (by omega) (by have := S1.out; omega) (Nat.le_refl _)).mono (Nat.le_refl _)))
    have D0 := Lib.hid (p := DsP (w.heap.size + 1 + 1) W1.heap.size W1 Ap.zero 0) (DsP.zero ((B1.out.block _ (by have := Z0.out; omega)).trans K0.out.2.2) (by have := S1.out; omega) (Nat.le_refl _))
    have LN := Lib.hid (p := ∀ i (hi : i < ls.length), ∃ g o, al = some ⟨g, o, none⟩ ∧ ∀ W, FrB (w.heap.size + 1 + 1) W1.heap.size W1 W → W.cell? ⟨g, o + i, none⟩ = some (.string ls[i])) (fun i hi => by
      have h := O1.out
      obtain ⟨g, cap, e⟩ := own_formQ h (by omega)
      injection e with e1 _ e3
      subst e1
      refine ⟨g, 0, rfl, fun W f => ?_⟩
      have c := (owq_wrw h NL.out.symm).2 i hi
      have lt := h.lt g rfl
      exact (f.cell _ lt.2 lt.2 (by have := Z0.out; omega)).trans c)
    clear O1 K0 KS1 B1 A0
    go_loopw [8, 9] (fun t8 t9 W => ∃ (i nx : Nat) (q : Ap), i ≤ L ∧ t8 = .int .i64 (nx : Int) ∧ t9 = .int .i64 (i : Int) ∧ RowKit.Hid (apAll (ls.drop i) i (nx, q) = apAll ls 0 (0, Ap.zero)) ∧ RowKit.Hid (EmP (nx, q)) ∧ RowKit.Hid (ApOk q) ∧ RowKit.Hid (DsP (w.heap.size + 1 + 1) W1.heap.size W q i) ∧ RowKit.Hid (FrB (w.heap.size + 1 + 1) W1.heap.size W1 W)) (fun _ t _ => L - (intOf t).toNat)
    case atStart => exact ⟨0, 0, Ap.zero, Nat.zero_le _, rfl, rfl, by rfl, EmP.zero, ApOk.zero, D0.out, FrB.refl _ _ _⟩
    case round =>
      rename World => W
      obtain ⟨i, nx, q, iL, rfl, rfl, HA, HE, HO, HD, HF⟩ := hrel
      clear D0
      by_cases hlt : i < L
      · have ic : (i : Int) < (L : Int) := by omega
        have il : i < ls.length := by rw [NL.out]; exact hlt
        obtain ⟨xl, xo, rfl, hcl⟩ := LN.out i il
        have cl1 := hcl W HF.out
        have AT := Lib.hid (apAll_at ls i il i (nx, q))
        have LZ1 := LZ.out _ (List.getElem_mem il)
        have i16 : i ≤ 16777216 := by have := LL.out; omega
        generalize ls[i] = l at *
        have KW0 := Lib.hid (wordsD_any l LZ1 W)
        obtain ⟨wl, hwl⟩ : ∃ wl, wdsL l 0 = wl := ⟨_, rfl⟩
        have WL := Lib.hid hwl
        rw [hwl] at AT
        clear hcl
        cases wl with
        | nil =>
          have AT1 := Lib.hid (p := apAll (ls.drop (i + 1)) (i + 1) (nx, q) = apAll ls 0 (0, Ap.zero)) (by rw [← HA.out]; exact AT.out.symm)
          have KW := Lib.hid (p := Calls Tryz.prog 27 #[.string l] W fun e w' => ∃ a c, e = .returned (.slice a 0 c) ∧ Below W.heap.size W w') (KW0.out.mono (fun e w' ⟨v, h1, h2, h3⟩ => by
            obtain ⟨a, c, rfl⟩ := own_slQ h2
            rw [WL.out] at h1
            exact ⟨a, c, h1, h3⟩))
          clear KW0 AT hwl
          go_wp2_with (go_at_call 27; refine KW.out.mono ?_; rintro e W2 ⟨a, c, rfl, h3⟩; have B2 := Lib.hid h3; clear h3)
          go_roundw
          case rel => exact ⟨i + 1, nx, q, by omega, by first | rfl | trivial, by go_num, AT1, HE, HO, (HD.out.later B2.out).more (Nat.le_succ _), HF.out.trans (FrB.below B2.out)⟩
          case measure => simp [intOf]; omega
        | cons w0 ws =>
          obtain ⟨n16, wz⟩ := wds_ok LZ1 hwl
          obtain ⟨n, hn⟩ : ∃ n, n = ws.length + 1 := ⟨_, rfl⟩
          have NN := Lib.hid hn
          have WZ := Lib.hid wz
          have N16 := Lib.hid (p := n ≤ 16777216) (by omega)
          have KW := Lib.hid (p := Calls Tryz.prog 27 #[.string l] W fun e w' => ∃ xb c, e = .returned (.slice (some ⟨xb, 0, none⟩) n c) ∧ OwQ w' W.heap.size (.slice (some ⟨xb, 0, none⟩) n c) (w0 :: ws) ∧ Below W.heap.size W w') (KW0.out.mono (fun e w' ⟨v, h1, h2, h3⟩ => by
            rw [WL.out] at h2
            obtain ⟨g, cap, rfl⟩ := own_formQ h2 (by simp)
            rw [List.length_cons, ← NN.out] at h1 h2
            exact ⟨g, cap, h1, h2, h3⟩))
          have n0 : ((n : Int) == 0) = false := by simp; omega
          have n1 : (0 : Int) < (n : Int) := by omega
          have AT2 := Lib.hid (p := apAll ls 0 (0, Ap.zero) = match apLine (nx, q) w0 ws with
            | none => .error (i + 1)
            | some st' => apAll (ls.drop (i + 1)) (i + 1) st') (by rw [← HA.out]; exact AT.out)
          clear KW0 AT hwl hn wz n16 HA WL LZ1
          have DQ := Lib.hid (dc_eq (w := w0) (ws := ws) HE.out.le HE.out.dy)
          have BWW := Lib.hid (BW.out W HF.out)
          by_cases h7 : nx < 7
          · -- ahead of the days
            have s7 : (nx : Int) < 7 := by omega
            have KH := Lib.hid (p := ∀ W2 xb c, Below W.heap.size W W2 → OwQ W2 W.heap.size (.slice (some ⟨xb, 0, none⟩) n c) (w0 :: ws) → Calls Tryz.prog 28 #[.pointer (some ⟨w.heap.size + 1 + 1, 0, none⟩), .slice (some ⟨xb, 0, none⟩) n c, .int .i64 (nx : Int)] W2 fun e w' => HeE (w.heap.size + 1 + 1) W1.heap.size i (if mayD nx (hdI w0) = true then lsD (hdI w0) ws q else none) (hdI w0 + 1) W2 e w') (fun W2 xb c b o => head_any (by omega) (HD.out.apart b (o.lt xb rfl).1 (o.lt xb rfl).2) HE.out.e0 HE.out.e1 HE.out.e2 o (by have := HD.out.size; have := S1.out; omega) NN.out N16.out WZ.out (HD0.out.later (BWW.out.trans (b.mono BWW.out.size))))
            have DC := Lib.hid (p := apLine (nx, q) w0 ws = (if mayD nx (hdI w0) = true then lsD (hdI w0) ws q else none).map fun q' => (hdI w0 + 1, q')) (by
              rw [DQ.out]
              unfold dcLine
              rw [if_pos h7]
              simp only
              split <;> rfl)
            have ES := Lib.hid (p := ∀ st', apLine (nx, q) w0 ws = some st' → EmP st' ∧ ApOk st'.2) (fun st' e => ⟨HE.out.step e, apLine_ok (st := (nx, q)) HO.out (by have := NN.out; have := N16.out; omega) (fun x hx => WZ.out x (List.mem_cons_of_mem _ hx)) e⟩)
            obtain ⟨O, hO⟩ : ∃ O, (if mayD nx (hdI w0) = true then lsD (hdI w0) ws q else none) = O := ⟨_, rfl⟩
            obtain ⟨N, hN⟩ : ∃ N, hdI w0 + 1 = N := ⟨_, rfl⟩
            rw [hO, hN] at KH
            rw [hO, hN] at DC
            rw [DC.out] at AT2 ES
            clear DQ DC hO hN
            cases O with
            | none =>
              have OUT := Lib.hid (p := outA s = (Ap.zero, ((i + 1 : Nat) : Int), 131)) (by rw [OUT0.out, AT2.out]; rfl)
              clear AT2 ES OUT0
              go_wp2_with (first
                | (go_at_call 27; refine KW.out.mono ?_; rintro e W2 ⟨xb, c, rfl, h2, h3⟩; have O2 := Lib.hid h2; have B2 := Lib.hid h3; clear h2 h3)
                | (go_at_call 28; refine (KH.out W2 xb c B2.out O2.out).mono ?_; rintro e W3 ⟨v, rfl, r3, d3⟩; have F3 := Lib.hid (HF.out.trans ((FrB.below B2.out).trans r3)); obtain ⟨⟨y0, y1, y2, y3, y4, y5, y6, y7⟩, ⟨x0, x1, x2, x3, x4, x5, x6, x7⟩, f0, f1, f2, f3, f4, f5, f6, f7⟩ := BX.out W3 F3.out; clear r3 d3))
              refine bodyPost_ret (v := .tuple #[.agg #[.slice none 0 0, .slice none 0 0, .slice none 0 0, .int .i64 0, .int .i64 0, .int .i64 0, .int .i64 0, .slice none 0 0], .int .i64 ((i : Int) + 1), .int .i64 131]) (by simp [results, Tryz.results13, go_sem, y0, y1, y2, y3, y4, y5, y6, y7]) rfl ?_
              exact ⟨Ap.pg Ap.zero, by rw [OUT.out]; rfl, zero_pv _, by rw [OUT.out], fill8 (BW.out _ F3.out) _ _ _ _ _ _ _ _⟩
            | some q' =>
              have AT3 := Lib.hid (p := apAll (ls.drop (i + 1)) (i + 1) (N, q') = apAll ls 0 (0, Ap.zero)) (by rw [AT2.out]; rfl)
              have ES1 := Lib.hid (ES.out (N, q') rfl)
              clear AT2 ES
              go_wp2_with (first
                | (go_at_call 27; refine KW.out.mono ?_; rintro e W2 ⟨xb, c, rfl, h2, h3⟩; have O2 := Lib.hid h2; have B2 := Lib.hid h3; clear h2 h3)
                | (go_at_call 28; refine (KH.out W2 xb c B2.out O2.out).mono ?_; rintro e W3 ⟨v, rfl, r3, d3⟩; have F3 := Lib.hid (HF.out.trans ((FrB.below B2.out).trans r3)); obtain ⟨d4, e4⟩ := d3 q' rfl; subst e4; have D3 := Lib.hid d4; clear r3 d3 d4))
              go_roundw
              case rel => exact ⟨i + 1, N, q', by omega, by go_num, by go_num, AT3, ES1.out.1, ES1.out.2, D3.out.more (Nat.le_succ _), F3⟩
              case measure => simp [intOf]; omega
          · obtain rfl : nx = 7 := by have := HE.out.le; simp only at this; omega
            have DC := Lib.hid (p := apLine (7, q) w0 ws = if hdI w0 = 7 then (apNum 7 ws q).map fun q' => (7, q') else if q.days = [] then none else (insW q w0 ws).map fun i => (7, { q with days := addI q.days i })) (by
              rw [DQ.out]
              unfold dcLine
              rw [if_neg h7])
            have ES := Lib.hid (p := ∀ st', apLine (7, q) w0 ws = some st' → EmP st' ∧ ApOk st'.2) (fun st' e => ⟨HE.out.step e, apLine_ok (st := (7, q)) HO.out (by have := NN.out; have := N16.out; omega) (fun x hx => WZ.out x (List.mem_cons_of_mem _ hx)) e⟩)
            clear DQ h7
            by_cases hk : w0 = hdA 7
            · -- a day
              have DC1 := Lib.hid (p := apLine (7, q) w0 ws = (apNum 7 ws q).map fun q' => (7, q')) (by rw [DC.out, if_pos ((hdI_day w0).2 hk)])
              clear DC
              obtain ⟨vn, vu, vp, vd, D, hb, hl⟩ := HD.out
              have HB := Lib.hid hb
              have HL := Lib.hid hl
              have LD := Lib.hid (p := D.length ≤ 1073741824) (by have := hl.dl; omega)
              have C0 := Lib.hid (p := ∀ W2 xb c, OwQ W2 W.heap.size (.slice (some ⟨xb, 0, none⟩) n c) (w0 :: ws) → W2.cell? ⟨xb, 0, none⟩ = some (.string ⟨#[100, 97, 121]⟩)) (fun W2 xb c o => by
                have := (owq_wrw o NN.out).2 0 (by simp)
                simp only [List.getElem_cons_zero, hk] at this
                exact this)
              clear hb hl
              by_cases hw : ws.length = 1
              · obtain ⟨u, rfl⟩ : ∃ u, ws = [u] := List.length_eq_one_iff.1 hw
                obtain rfl : n = 2 := NN.out
                have KV := Lib.hid (fun W => valueN_any u (WZ.out u (by simp)) W)
                have C1 := Lib.hid (p := ∀ W2 xb c, OwQ W2 W.heap.size (.slice (some ⟨xb, 0, none⟩) 2 c) (w0 :: [u]) → W2.cell? ⟨xb, 1, none⟩ = some (.string u)) (fun W2 xb c o => by
                  have := (owq_wrw o NN.out).2 1 (by simp)
                  simpa using this)
                obtain ⟨O, hO⟩ : ∃ O, numW u = O := ⟨_, rfl⟩
                have e1 : apNum 7 [u] q = O.map fun n => { q with days := q.days ++ [(n, [])] } := by simp [apNum, hO]
                rw [e1] at DC1
                rw [hO] at KV
                rw [DC1.out] at AT2 ES
                clear e1 hO hw hk DC1
                cases O with
                | none =>
                  have OUT := Lib.hid (p := outA s = (Ap.zero, ((i + 1 : Nat) : Int), 131)) (by rw [OUT0.out, AT2.out]; rfl)
                  clear AT2 ES OUT0
                  go_wp2_with (first
                    | (go_at_call 27; refine KW.out.mono ?_; rintro e W2 ⟨xb, c, rfl, h2, h3⟩; have c1 := C0.out W2 xb c h2; have c2 := C1.out W2 xb c h2; have B2 := Lib.hid h3; have HB2 := Lib.hid (HB.out.belw h3); have HL2 := Lib.hid (HL.out.later h3); have c7 := HB2.out.cell 7; simp only [dsA, List.getElem?_toArray, List.getElem?_cons_zero, List.getElem?_cons_succ] at c7; clear h2 h3)
                    | (go_at_call 29; refine (KV.out W2).mono ?_; rintro e w4 ⟨⟨d, rfl, hd⟩, hw⟩; have hw := hw.symm; subst hw; clear hd)
                    | (at_builtin; refine wp_sgA W2 W1.heap.size d D rfl _ _ rfl vd rfl rfl HL2.out.od LD.out HL2.out.sz ?_; intro g5 cap5 w5 ho hg; have N5 := Lib.hid (DsP.day1 (HB2.out.belw (allocBP W2 (.cells #[.int .i64 d, .slice none 0 0] 39))) (HL2.out.later (allocBP W2 (.cells #[.int .i64 d, .slice none 0 0] 39))) d hg ho); have k1 := N5.out.2.1; have k2 := N5.out.2.2.1; have F5 := Lib.hid (HF.out.trans ((FrB.below B2.out).trans ((FrB.below (allocBP W2 (.cells #[.int .i64 d, .slice none 0 0] 39))).trans N5.out.2.2.2))); obtain ⟨⟨y0, y1, y2, y3, y4, y5, y6, y7⟩, ⟨x0, x1, x2, x3, x4, x5, x6, x7⟩, f0, f1, f2, f3, f4, f5, f6, f7⟩ := BX.out (w5.setCell ⟨w.heap.size + 1 + 1, 7, none⟩ (.slice (some ⟨g5, 0, none⟩) (D.length + 1) cap5)) F5.out; clear ho hg))
                  refine bodyPost_ret (v := .tuple #[.agg #[.slice none 0 0, .slice none 0 0, .slice none 0 0, .int .i64 0, .int .i64 0, .int .i64 0, .int .i64 0, .slice none 0 0], .int .i64 ((i : Int) + 1), .int .i64 131]) (by simp [results, Tryz.results13, go_sem, y0, y1, y2, y3, y4, y5, y6, y7]) rfl ?_
                  exact ⟨Ap.pg Ap.zero, by rw [OUT.out]; rfl, zero_pv _, by rw [OUT.out], fill8 (BW.out _ F5.out) _ _ _ _ _ _ _ _⟩
                | some v =>
                  have AT3 := Lib.hid (p := apAll (ls.drop (i + 1)) (i + 1) (7, { q with days := q.days ++ [(v, [])] }) = apAll ls 0 (0, Ap.zero)) (by rw [AT2.out]; rfl)
                  have ES1 := Lib.hid (ES.out (7, { q with days := q.days ++ [(v, [])] }) rfl)
                  clear AT2 ES
                  go_wp2_with (first
                    | (go_at_call 27; refine KW.out.mono ?_; rintro e W2 ⟨xb, c, rfl, h2, h3⟩; have c1 := C0.out W2 xb c h2; have c2 := C1.out W2 xb c h2; have B2 := Lib.hid h3; have HB2 := Lib.hid (HB.out.belw h3); have HL2 := Lib.hid (HL.out.later h3); have c7 := HB2.out.cell 7; simp only [dsA, List.getElem?_toArray, List.getElem?_cons_zero, List.getElem?_cons_succ] at c7; clear h2 h3)
                    | (go_at_call 29; refine (KV.out W2).mono ?_; rintro e w4 ⟨⟨d, rfl, hd⟩, hw⟩; have hw := hw.symm; subst hw; obtain rfl := hd v rfl; clear hd)
                    | (at_builtin; refine wp_sgA W2 W1.heap.size d D rfl _ _ rfl vd rfl rfl HL2.out.od LD.out HL2.out.sz ?_; intro g5 cap5 w5 ho hg; have N5 := Lib.hid (DsP.day1 (HB2.out.belw (allocBP W2 (.cells #[.int .i64 d, .slice none 0 0] 39))) (HL2.out.later (allocBP W2 (.cells #[.int .i64 d, .slice none 0 0] 39))) d hg ho); have k1 := N5.out.2.1; have k2 := N5.out.2.2.1; have F5 := Lib.hid (HF.out.trans ((FrB.below B2.out).trans ((FrB.below (allocBP W2 (.cells #[.int .i64 d, .slice none 0 0] 39))).trans N5.out.2.2.2))); clear ho hg))
                  go_roundw
                  case rel => exact ⟨i + 1, 7, _, by omega, by first | rfl | trivial | go_num, by go_num, AT3, ES1.out.1, ES1.out.2, N5.out.1, F5⟩
                  case measure => simp [intOf]; omega
              · have e1 : apNum 7 ws q = none := by
                  unfold apNum
                  split
                  · simp at hw
                  · rfl
                rw [e1] at DC1
                rw [DC1.out] at AT2
                have n2 : ((n : Int) == 2) = false := by have := NN.out; simp; omega
                have OUT := Lib.hid (p := outA s = (Ap.zero, ((i + 1 : Nat) : Int), 131)) (by rw [OUT0.out, AT2.out]; rfl)
                clear AT2 ES OUT0 e1 DC1 hk hw
                go_wp2_with (first
                  | (go_at_call 27; refine KW.out.mono ?_; rintro e W2 ⟨xb, c, rfl, h2, h3⟩; have c1 := C0.out W2 xb c h2; have B2 := Lib.hid h3; have HB2 := Lib.hid (HB.out.belw h3); have HL2 := Lib.hid (HL.out.later h3); have c7 := HB2.out.cell 7; simp only [dsA, List.getElem?_toArray, List.getElem?_cons_zero, List.getElem?_cons_succ] at c7; clear h2 h3)
                  | (at_builtin; refine wp_sgA W2 W1.heap.size 0 D rfl _ _ rfl vd rfl rfl HL2.out.od LD.out HL2.out.sz ?_; intro g5 cap5 w5 ho hg; have N5 := Lib.hid (DsP.day1 (HB2.out.belw (allocBP W2 (.cells #[.int .i64 0, .slice none 0 0] 39))) (HL2.out.later (allocBP W2 (.cells #[.int .i64 0, .slice none 0 0] 39))) 0 hg ho); have k1 := N5.out.2.1; have k2 := N5.out.2.2.1; have F5 := Lib.hid (HF.out.trans ((FrB.below B2.out).trans ((FrB.below (allocBP W2 (.cells #[.int .i64 0, .slice none 0 0] 39))).trans N5.out.2.2.2))); obtain ⟨⟨y0, y1, y2, y3, y4, y5, y6, y7⟩, ⟨x0, x1, x2, x3, x4, x5, x6, x7⟩, f0, f1, f2, f3, f4, f5, f6, f7⟩ := BX.out (w5.setCell ⟨w.heap.size + 1 + 1, 7, none⟩ (.slice (some ⟨g5, 0, none⟩) (D.length + 1) cap5)) F5.out; clear ho hg))
                refine bodyPost_ret (v := .tuple #[.agg #[.slice none 0 0, .slice none 0 0, .slice none 0 0, .int .i64 0, .int .i64 0, .int .i64 0, .int .i64 0, .slice none 0 0], .int .i64 ((i : Int) + 1), .int .i64 131]) (by simp [results, Tryz.results13, go_sem, y0, y1, y2, y3, y4, y5, y6, y7]) rfl ?_
                exact ⟨Ap.pg Ap.zero, by rw [OUT.out]; rfl, zero_pv _, by rw [OUT.out], fill8 (BW.out _ F5.out) _ _ _ _ _ _ _ _⟩
            · -- an instruction
              have DC1 := Lib.hid (p := apLine (7, q) w0 ws = if q.days = [] then none else (insW q w0 ws).map fun i => (7, { q with days := addI q.days i })) (by rw [DC.out, if_neg (fun e => hk ((hdI_day w0).1 e))])
              have kd : (w0.toList == [100, 97, 121]) = false := by
                rw [beq_eq_false_iff_ne]; exact fun e => hk (bytes_eq (e.trans (by rw [Lib.toList_data]; rfl)))
              clear DC hk
              have C0 := Lib.hid (p := ∀ W2 xb c, OwQ W2 W.heap.size (.slice (some ⟨xb, 0, none⟩) n c) (w0 :: ws) → W2.cell? ⟨xb, 0, none⟩ = some (.string w0)) (fun W2 xb c o => by
                have := (owq_wrw o NN.out).2 0 (by simp)
                simpa using this)
              have IL := i16
              obtain ⟨an, au, pa, da, cn, cu, pc, dc, D, _, hdays, hb, hl⟩ := HD.out.pv HO.out IL
              have HB := Lib.hid hb
              rcases List.eq_nil_or_concat D with rfl | ⟨D0, sg, rfl⟩
              · have OUT := Lib.hid (p := outA s = (Ap.zero, ((i + 1 : Nat) : Int), 131)) (by rw [OUT0.out, AT2.out, DC1.out, if_pos (by rw [← hdays]; rfl)])
                clear AT2 ES OUT0 hb hl DC1 hdays
                go_wp2_with (first
                  | (go_at_call 27; refine KW.out.mono ?_; rintro e W2 ⟨xb, c, rfl, h2, h3⟩; have c1 := C0.out W2 xb c h2; have B2 := Lib.hid h3; have HB2 := Lib.hid (HB.out.belw h3); have c7 := HB2.out.cell 7; simp only [dsA, List.getElem?_toArray, List.getElem?_cons_zero, List.getElem?_cons_succ, List.length_nil] at c7; have F5 := Lib.hid (HF.out.trans (FrB.below B2.out)); obtain ⟨⟨y0, y1, y2, y3, y4, y5, y6, y7⟩, ⟨x0, x1, x2, x3, x4, x5, x6, x7⟩, f0, f1, f2, f3, f4, f5, f6, f7⟩ := BX.out W2 F5.out; clear h2 h3))
                refine bodyPost_ret (v := .tuple #[.agg #[.slice none 0 0, .slice none 0 0, .slice none 0 0, .int .i64 0, .int .i64 0, .int .i64 0, .int .i64 0, .slice none 0 0], .int .i64 ((i : Int) + 1), .int .i64 131]) (by simp [results, Tryz.results13, go_sem, y0, y1, y2, y3, y4, y5, y6, y7]) rfl ?_
                exact ⟨Ap.pg Ap.zero, by rw [OUT.out]; rfl, zero_pv _, by rw [OUT.out], fill8 (BW.out _ F5.out) _ _ _ _ _ _ _ _⟩
              · rw [List.concat_eq_append] at hb hl hdays HB
                have el : (D0 ++ [sg]).length = D0.length + 1 := by simp
                rw [el] at hb hl HB
                have od := hl.od
                rw [el] at od
                obtain ⟨g, cap, ev⟩ := own_formQ od (by omega)
                injection ev with ev1 _ ev3
                subst ev1 ev3
                have ce : W.cell? ⟨g, D0.length * 2 + 1, none⟩ = some sg.cv := by
                  have e := flat_at Sg.cs 2 (fun _ => rfl) (D0 ++ [sg]) D0.length (by omega) 1 (by omega)
                  have := od.cells (g := g) rfl _ _ e
                  rw [Go.Addr.add_lit, Nat.zero_add] at this
                  rw [this]
                  simp [List.getD, Sg.cs, Sg.cv]
                have gl : g < W.heap.size := (od.lt g rfl).2
                have gn : g ≠ w.heap.size + 1 + 1 := by have := (od.lt g rfl).1; have := S1.out; omega
                have CE := Lib.hid (fun W' (b : Below W.heap.size W W') => (b.cell (p := ⟨g, D0.length * 2 + 1, none⟩) gl).trans ce)
                have d0 : D0.length ≤ 16777216 := by have := hl.dl; simp at this; omega
                have cl := hl.cl D0.length (by simp)
                rw [show (D0 ++ [sg]).getD D0.length default = sg by simp [List.getD]] at cl
                have os := hl.oc D0.length (by simp)
                rw [show (D0 ++ [sg]).getD D0.length default = sg by simp [List.getD]] at os
                have OS := Lib.hid (fun W' (b : Below W.heap.size W W') => own_belQ os b)
                have HL := Lib.hid hl
                have GN := Lib.hid gn
                have SZ := Lib.hid hl.sz
                have CL := Lib.hid cl
                have days : q.days ≠ [] := by rw [← hdays]; simp
                have KR := Lib.hid (p := ∀ W2 xb c, Below W.heap.size W W2 → OwQ W2 W.heap.size (.slice (some ⟨xb, 0, none⟩) n c) (w0 :: ws) → Calls Tryz.prog 30 #[.agg #[.slice an q.ns.length cn, .slice au q.cs.length cu, .slice pa q.pl.length pc, .int .i64 q.hor, .int .i64 q.cells, .int .i64 q.slots, .int .i64 q.stack,   .slice (some ⟨g, 0, none⟩) (D0.length + 1) dc], .slice (some ⟨xb, 0, none⟩) n c] W2 fun e w' => OiE W2 (insW q w0 ws) e w') (fun W2 xb c b o => read_any an au pa _ cn cu pc _ _ n c xb 0 w0 ws q W2 (own_sr (own_belQ HL.out.on b) (Nat.le_trans HO.out.nl (by omega)) (fun s q => Nat.le_trans (HO.out.nz s q) (by omega))) (own_sr (own_belQ HL.out.ou b) (Nat.le_trans HO.out.ul (by omega)) (fun s q => Nat.le_trans (HO.out.uz s q) (by omega))) (own_nr (own_belQ HL.out.op b) (Nat.le_trans HO.out.ll (by omega)) (fun x q => inR_i64Q (HO.out.pv x q))) (owq_wrw o NN.out) NN.out N16.out WZ.out (HM.out.later (BWW.out.trans (b.mono BWW.out.size))))
                rw [DC1.out, if_neg days] at AT2 ES
                obtain ⟨O, hO⟩ : ∃ O, insW q w0 ws = O := ⟨_, rfl⟩
                rw [hO] at KR AT2 ES
                clear hO DC1 days hdays hl hb od ce gl os gn cl HD
                cases O with
                | none =>
                  have OUT := Lib.hid (p := outA s = (Ap.zero, ((i + 1 : Nat) : Int), 131)) (by rw [OUT0.out, AT2.out]; rfl)
                  clear AT2 ES OUT0
                  go_upto_region 24 with (first
                    | (go_at_call 27; refine KW.out.mono ?_; rintro e W2 ⟨xb, c, rfl, h2, h3⟩; have c1 := C0.out W2 xb c h2; have O2 := Lib.hid h2; have B2 := Lib.hid h3; have HB2 := Lib.hid (HB.out.belw h3); have p0 := HB2.out.cell 0; have p1 := HB2.out.cell 1; have p2 := HB2.out.cell 2; have p3 := HB2.out.cell 3; have p4 := HB2.out.cell 4; have p5 := HB2.out.cell 5; have p6 := HB2.out.cell 6; have p7 := HB2.out.cell 7; simp only [dsA, List.getElem?_toArray, List.getElem?_cons_zero, List.getElem?_cons_succ] at p0 p1 p2 p3 p4 p5 p6 p7; clear h2 h3)
                    | (go_at_call 30; refine (KR.out W2 xb c B2.out O2.out).mono ?_; rintro e W3 ⟨⟨i3, rfl, hi3⟩, h3⟩; have B3 := Lib.hid (B2.out.trans (h3.mono B2.out.size)); have BX3 := Lib.hid (B3.out.trans ((allocBP W3 (.cells #[.int .i64 i3.o, .int .i64 i3.a, .int .i64 i3.b] 42)).mono B3.out.size)); have HB3 := Lib.hid (HB.out.belw BX3.out); have p7 := HB3.out.cell 7; simp only [dsA, List.getElem?_toArray, List.getElem?_cons_zero, List.getElem?_cons_succ] at p7; clear h3 hi3))
                  have NW := Lib.hid (box3 (Below.refl _ (W3.alloc (.cells #[.int .i64 i3.o, .int .i64 i3.a, .int .i64 i3.b] 42))))
                  have NZ := Lib.hid (p := W3.heap.size < (W3.alloc (.cells #[.int .i64 i3.o, .int .i64 i3.a, .int .i64 i3.b] 42)).heap.size) (by simp)
                  obtain ⟨wS, hwS⟩ : ∃ y, W3.alloc (.cells #[.int .i64 i3.o, .int .i64 i3.a, .int .i64 i3.b] 42) = y := ⟨_, rfl⟩
                  rw [hwS] at BX3 NW NZ HB3
                  rw [hwS]
                  clear hwS
                  obtain ⟨e0, e1, e2, _, _, _⟩ := NW.out
                  have ce := CE.out _ BX3.out
                  have ce2 := CE.out _ (BX3.out.trans ((allocBP wS (.cells #[.int .i64 i3.o, .int .i64 i3.a, .int .i64 i3.b] 42)).mono BX3.out.size))
                  unfold Sg.cv at ce ce2
                  have D9 := Lib.hid (p := Below wS.heap.size wS wS.drew) (Below.refl _ wS).drew
                  have BD := Lib.hid (BX3.out.trans (D9.out.mono BX3.out.size))
                  have BA := Lib.hid (BD.out.trans ((allocBP wS.drew (.cells #[.int .i64 i3.o, .int .i64 i3.a, .int .i64 i3.b] 42)).mono BD.out.size))
                  have OW := Lib.hid (OS.out _ BD.out)
                  have RS2 := Lib.hid (HL.out.later BA.out)
                  have cl2 : sg.code.length ≤ 1000000000 := by have := CL.out; omega
                  try clear p0 p1 p2 p3 p4 p5 p6 p7 c1 cl1
                  go_region_law (refine step_inA wS.drew rfl _ _ rfl W1.heap.size sg.cv sg.code i3 rfl OW.out rfl cl2 (Nat.le_trans SZ.out BD.out.size) ?_; intro g5 cap5 w5 h1 h2 h3; have N5 := Lib.hid ((RS2.out.more (Nat.le_succ i)).code i3 h2 h1 h3 (Nat.succ_le_succ CL.out)); have k1 := N5.out.2.2.1; have k2 := N5.out.2.2.2.1; have BK := Lib.hid (((HB.out.belw BA.out).grown h2 N5.out.2.2.2.2.1).other g (D0.length * 2 + 1) (.slice (some ⟨g5, 0, none⟩) (sg.code.length + 1) cap5) N5.out.2.2.2.2.2); have F5 := Lib.hid (HF.out.trans ((FrB.below BA.out).trans N5.out.2.1)); obtain ⟨⟨y0, y1, y2, y3, y4, y5, y6, y7⟩, ⟨x0, x1, x2, x3, x4, x5, x6, x7⟩, f0, f1, f2, f3, f4, f5, f6, f7⟩ := BX.out (w5.setCell ⟨g, D0.length * 2 + 1, none⟩ (.slice (some ⟨g5, 0, none⟩) (sg.code.length + 1) cap5)) F5.out; clear h1 h2 h3)
                  all_goals
                    (try clear ce ce2 e0 e1 e2 k1 k2)
                    repeat (first | go_values | go_skip | go_guarded | go_step | go_upon)
                    refine bodyPost_ret (v := .tuple #[.agg #[.slice none 0 0, .slice none 0 0, .slice none 0 0, .int .i64 0, .int .i64 0, .int .i64 0, .int .i64 0, .slice none 0 0], .int .i64 ((i : Int) + 1), .int .i64 131]) (by simp [results, Tryz.results13, go_sem, y0, y1, y2, y3, y4, y5, y6, y7]) rfl ?_
                    exact ⟨Ap.pg Ap.zero, by rw [OUT.out]; rfl, zero_pv _, by rw [OUT.out], fill8 (BW.out _ F5.out) _ _ _ _ _ _ _ _⟩
                | some i4 =>
                  have AT3 := Lib.hid (p := apAll (ls.drop (i + 1)) (i + 1) (7, { q with days := addI q.days i4 }) = apAll ls 0 (0, Ap.zero)) (by rw [AT2.out]; rfl)
                  have ES1 := Lib.hid (ES.out (7, { q with days := addI q.days i4 }) rfl)
                  clear AT2 ES
                  go_upto_region 24 with (first
                    | (go_at_call 27; refine KW.out.mono ?_; rintro e W2 ⟨xb, c, rfl, h2, h3⟩; have c1 := C0.out W2 xb c h2; have O2 := Lib.hid h2; have B2 := Lib.hid h3; have HB2 := Lib.hid (HB.out.belw h3); have p0 := HB2.out.cell 0; have p1 := HB2.out.cell 1; have p2 := HB2.out.cell 2; have p3 := HB2.out.cell 3; have p4 := HB2.out.cell 4; have p5 := HB2.out.cell 5; have p6 := HB2.out.cell 6; have p7 := HB2.out.cell 7; simp only [dsA, List.getElem?_toArray, List.getElem?_cons_zero, List.getElem?_cons_succ] at p0 p1 p2 p3 p4 p5 p6 p7; clear h2 h3)
                    | (go_at_call 30; refine (KR.out W2 xb c B2.out O2.out).mono ?_; rintro e W3 ⟨⟨i3, rfl, hi3⟩, h3⟩; obtain rfl := hi3 i4 rfl; have B3 := Lib.hid (B2.out.trans (h3.mono B2.out.size)); have BX3 := Lib.hid (B3.out.trans ((allocBP W3 (.cells #[.int .i64 i3.o, .int .i64 i3.a, .int .i64 i3.b] 42)).mono B3.out.size)); have HB3 := Lib.hid (HB.out.belw BX3.out); have p7 := HB3.out.cell 7; simp only [dsA, List.getElem?_toArray, List.getElem?_cons_zero, List.getElem?_cons_succ] at p7; clear h3 hi3))
                  have NW := Lib.hid (box3 (Below.refl _ (W3.alloc (.cells #[.int .i64 i3.o, .int .i64 i3.a, .int .i64 i3.b] 42))))
                  have NZ := Lib.hid (p := W3.heap.size < (W3.alloc (.cells #[.int .i64 i3.o, .int .i64 i3.a, .int .i64 i3.b] 42)).heap.size) (by simp)
                  obtain ⟨wS, hwS⟩ : ∃ y, W3.alloc (.cells #[.int .i64 i3.o, .int .i64 i3.a, .int .i64 i3.b] 42) = y := ⟨_, rfl⟩
                  rw [hwS] at BX3 NW NZ HB3
                  rw [hwS]
                  clear hwS
                  obtain ⟨e0, e1, e2, _, _, _⟩ := NW.out
                  have ce := CE.out _ BX3.out
                  have ce2 := CE.out _ (BX3.out.trans ((allocBP wS (.cells #[.int .i64 i3.o, .int .i64 i3.a, .int .i64 i3.b] 42)).mono BX3.out.size))
                  unfold Sg.cv at ce ce2
                  have D9 := Lib.hid (p := Below wS.heap.size wS wS.drew) (Below.refl _ wS).drew
                  have BD := Lib.hid (BX3.out.trans (D9.out.mono BX3.out.size))
                  have BA := Lib.hid (BD.out.trans ((allocBP wS.drew (.cells #[.int .i64 i3.o, .int .i64 i3.a, .int .i64 i3.b] 42)).mono BD.out.size))
                  have OW := Lib.hid (OS.out _ BD.out)
                  have RS2 := Lib.hid (HL.out.later BA.out)
                  have cl2 : sg.code.length ≤ 1000000000 := by have := CL.out; omega
                  try clear p0 p1 p2 p3 p4 p5 p6 p7 c1 cl1
                  go_region_law (refine step_inA wS.drew rfl _ _ rfl W1.heap.size sg.cv sg.code i3 rfl OW.out rfl cl2 (Nat.le_trans SZ.out BD.out.size) ?_; intro g5 cap5 w5 h1 h2 h3; have N5 := Lib.hid ((RS2.out.more (Nat.le_succ i)).code i3 h2 h1 h3 (Nat.succ_le_succ CL.out)); have k1 := N5.out.2.2.1; have k2 := N5.out.2.2.2.1; have BK := Lib.hid (((HB.out.belw BA.out).grown h2 N5.out.2.2.2.2.1).other g (D0.length * 2 + 1) (.slice (some ⟨g5, 0, none⟩) (sg.code.length + 1) cap5) N5.out.2.2.2.2.2); have F5 := Lib.hid (HF.out.trans ((FrB.below BA.out).trans N5.out.2.1)); clear h1 h2 h3)
                  all_goals
                    (try clear ce ce2 e0 e1 e2 k1 k2)
                    repeat (first | go_values | go_skip | go_guarded | go_step | go_upon)
                    go_roundw
                    case rel => exact ⟨i + 1, 7, _, by omega, by first | rfl | trivial | go_num, by go_num, AT3, ES1.out.1, ES1.out.2, ⟨_, _, _, _, _, BK.out, N5.out.1⟩, F5⟩
                    case measure => simp [intOf]; omega
      · obtain rfl : i = L := by omega
        have AE := Lib.hid (p := apAll ls 0 (0, Ap.zero) = .ok (ls.length, (nx, q))) (by
          rw [← HA.out, ← NL.out, List.drop_length]
          rfl)
        have IL := Lib.hid (p := i ≤ 16777216) (by have := LL.out; have := NL.out; omega)
        clear HA LN
        by_cases h7 : nx < 7
        · have s7 : (nx : Int) < 7 := by omega
          have i16 : i ≤ 16777216 := IL.out
          have OUT := Lib.hid (p := outA s = (Ap.zero, ((i + 1 : Nat) : Int), 131)) (by
            rw [OUT0.out, AE.out]
            simp only
            rw [mayC_end nx (by omega), if_neg (by simp; omega), NL.out])
          obtain ⟨⟨y0, y1, y2, y3, y4, y5, y6, y7⟩, ⟨x0, x1, x2, x3, x4, x5, x6, x7⟩, f0, f1, f2, f3, f4, f5, f6, f7⟩ := BX.out W HF.out
          go_wp2
          refine bodyPost_ret (v := .tuple #[.agg #[.slice none 0 0, .slice none 0 0, .slice none 0 0, .int .i64 0, .int .i64 0, .int .i64 0, .int .i64 0, .slice none 0 0], .int .i64 ((i : Int) + 1), .int .i64 131]) (by simp [results, Tryz.results13, go_sem, y0, y1, y2, y3, y4, y5, y6, y7]) rfl ?_
          exact ⟨Ap.pg Ap.zero, by rw [OUT.out]; rfl, zero_pv _, by rw [OUT.out], fill8 (BW.out _ HF.out) _ _ _ _ _ _ _ _⟩
        · obtain rfl : nx = 7 := by have := HE.out.le; simp only at this; omega
          have OUT1 := Lib.hid (p := outA s = if canP q.pg then (q, 0, 0) else (Ap.zero, 0, 121)) (by
            rw [OUT0.out, AE.out]
            simp only
            rw [mayC_end 7 (by omega), if_pos (by decide)])
          obtain ⟨an, au, pa, da, cn, cu, pc, dc, D, hpv, hdays, hb, hl⟩ := HD.out.pv HO.out IL.out
          have HB := Lib.hid hb
          have HK := Lib.hid (pg_key (p := q) hdays)
          have PVv := Lib.hid hpv
          have KC := Lib.hid (canonR_any (hpv W (fun _ _ _ => rfl)))
          have p0 := hb.cell 0
          have p1 := hb.cell 1
          have p2 := hb.cell 2
          have p3 := hb.cell 3
          have p4 := hb.cell 4
          have p5 := hb.cell 5
          have p6 := hb.cell 6
          have p7 := hb.cell 7
          simp only [dsA, List.getElem?_toArray, List.getElem?_cons_zero, List.getElem?_cons_succ] at p0 p1 p2 p3 p4 p5 p6 p7
          clear hpv hdays hb hl HD HE AE OUT0
          by_cases hc : canP q.pg
          · have OUT := Lib.hid (p := outA s = (q, 0, 0)) (by rw [OUT1.out, if_pos hc])
            have HC := Lib.hid hc
            clear hc OUT1
            go_wp2_with (go_at_call 31; refine KC.out.mono ?_; rintro e w2 ⟨rfl, h2⟩; rw [if_pos (can_key1Q (HK.out _ _ _ _ _ _ _ _).symm HC.out)]; have B2 := Lib.hid h2; have F5 := Lib.hid (HF.out.trans (FrB.below B2.out)); obtain ⟨⟨y0, y1, y2, y3, y4, y5, y6, y7⟩, ⟨x0, x1, x2, x3, x4, x5, x6, x7⟩, f0, f1, f2, f3, f4, f5, f6, f7⟩ := BX.out w2 F5.out; have hb2 := HB.out.belw h2; have q0 := hb2.cell 0; have q1 := hb2.cell 1; have q2 := hb2.cell 2; have q3 := hb2.cell 3; have q4 := hb2.cell 4; have q5 := hb2.cell 5; have q6 := hb2.cell 6; have q7 := hb2.cell 7; simp only [dsA, List.getElem?_toArray, List.getElem?_cons_zero, List.getElem?_cons_succ] at q0 q1 q2 q3 q4 q5 q6 q7; clear h2 hb2 p0 p1 p2 p3 p4 p5 p6 p7)
            refine bodyPost_ret (v := .tuple #[.agg #[.slice an q.ns.length cn, .slice au q.cs.length cu, .slice pa q.pl.length pc, .int .i64 q.hor, .int .i64 q.cells, .int .i64 q.slots, .int .i64 q.stack, .slice da D.length dc], .int .i64 0, .int .i64 0]) (by simp [results, Tryz.results13, go_sem, y0, y1, y2, y3, y4, y5, y6, y7]) rfl ?_
            refine ⟨⟨an, cn, q.ns, au, cu, q.cs, pa, pc, q.pl, q.hor, q.cells, q.slots, q.stack, da, dc, D⟩, by rw [OUT.out]; rfl, ?_, by rw [OUT.out]; exact HK.out _ _ _ _ _ _ _ _, fill8 (BW.out _ F5.out) _ _ _ _ _ _ _ _⟩
            refine PVv.out _ (fun k hk hl => ?_)
            have ne : w.heap.size ≠ k := by have := S1.out; omega
            have st : ∀ (X : World) (j : Nat) (v : Value), (X.setCell ⟨w.heap.size, j, none⟩ v).heap[k]? = X.heap[k]? := fun X j v => by simp only [World.setCell, Array.getElem?_modify, if_neg ne]
            rw [st, st, st, st, st, st, st, st]
            exact B2.out.block k hl
          · have OUT := Lib.hid (p := outA s = (Ap.zero, 0, 121)) (by rw [OUT1.out, if_neg hc])
            have HC := Lib.hid hc
            clear hc OUT1
            go_wp2_with (go_at_call 31; refine KC.out.mono ?_; rintro e w2 ⟨rfl, h2⟩; rw [if_neg (fun z => HC.out (can_key1Q (HK.out _ _ _ _ _ _ _ _) z))]; have B2 := Lib.hid h2; have F5 := Lib.hid (HF.out.trans (FrB.below B2.out)); obtain ⟨⟨y0, y1, y2, y3, y4, y5, y6, y7⟩, ⟨x0, x1, x2, x3, x4, x5, x6, x7⟩, f0, f1, f2, f3, f4, f5, f6, f7⟩ := BX.out w2 F5.out; clear h2 p0 p1 p2 p3 p4 p5 p6 p7)
            refine bodyPost_ret (v := .tuple #[.agg #[.slice none 0 0, .slice none 0 0, .slice none 0 0, .int .i64 0, .int .i64 0, .int .i64 0, .int .i64 0, .slice none 0 0], .int .i64 0, .int .i64 121]) (by simp [results, Tryz.results13, go_sem, y0, y1, y2, y3, y4, y5, y6, y7]) rfl ?_
            exact ⟨Ap.pg Ap.zero, by rw [OUT.out]; rfl, zero_pv _, by rw [OUT.out], fill8 (BW.out _ F5.out) _ _ _ _ _ _ _ _⟩
  · have c0 : ¬ ((s.size : Nat) : Int) ≤ 16777216 := by omega
    have c0' : (16777216 : Int) < ((s.size : Nat) : Int) := by omega
    have OUT := Lib.hid (p := outA s = (Ap.zero, 0, 6)) (by unfold outA; rw [if_pos (by omega)])
    have A1 := Lib.hid (((Below.refl w.heap.size w).alloc (Nat.le_refl _) (.cells zP 27)).alloc (by simp) (.cells zP 27))
    obtain ⟨tb1, tb2⟩ := two_boxQ w (.cells zP 27) (.cells zP 27)
    have b0 : BkP ((w.alloc (.cells zP 27)).alloc (.cells zP 27)) w.heap.size zP 27 := tb1
    have b1 : BkP ((w.alloc (.cells zP 27)).alloc (.cells zP 27)) (w.heap.size + 1) zP 27 := tb2
    obtain ⟨y0, y1, y2, y3, y4, y5, y6, y7⟩ := zero_cells b0
    obtain ⟨x0, x1, x2, x3, x4, x5, x6, x7⟩ := zero_cells b1
    have f0 := b0.frozen 0
    have f1 := b0.frozen 1
    have f2 := b0.frozen 2
    have f3 := b0.frozen 3
    have f4 := b0.frozen 4
    have f5 := b0.frozen 5
    have f6 := b0.frozen 6
    have f7 := b0.frozen 7
    unfold zP at y0 y1 y2 y3 y4 y5 y6 y7 x0 x1 x2 x3 x4 x5 x6 x7 f0 f1 f2 f3 f4 f5 f6 f7 A1
    obtain ⟨W0, hW0⟩ : ∃ x, (w.alloc (.cells #[.slice none 0 0, .slice none 0 0, .slice none 0 0, .int .i64 0, .int .i64 0, .int .i64 0, .int .i64 0, .slice none 0 0] 27)).alloc (.cells #[.slice none 0 0, .slice none 0 0, .slice none 0 0, .int .i64 0, .int .i64 0, .int .i64 0, .int .i64 0, .slice none 0 0] 27) = x := ⟨_, rfl⟩
    rw [hW0] at y0 y1 y2 y3 y4 y5 y6 y7 x0 x1 x2 x3 x4 x5 x6 x7 f0 f1 f2 f3 f4 f5 f6 f7 A1
    have HW0 := Lib.hid hW0
    clear tb1 tb2 b0 b1 hW0
    go_enter Tryz.func13, Tryz.ntmps13
    go_upto_region 3 with (fail)
    rw [HW0.out]
    go_wp2
    refine bodyPost_ret (v := .tuple #[.agg #[.slice none 0 0, .slice none 0 0, .slice none 0 0, .int .i64 0, .int .i64 0, .int .i64 0, .int .i64 0, .slice none 0 0], .int .i64 0, .int .i64 6]) (by simp [results, Tryz.results13, go_sem, y0, y1, y2, y3, y4, y5, y6, y7]) rfl ?_
    exact ⟨Ap.pg Ap.zero, by rw [OUT.out]; rfl, zero_pv _, by rw [OUT.out], fill8 A1.out _ _ _ _ _ _ _ _⟩
end Go.Proofs.YtccjeipkljdhdaaGreatDoor
