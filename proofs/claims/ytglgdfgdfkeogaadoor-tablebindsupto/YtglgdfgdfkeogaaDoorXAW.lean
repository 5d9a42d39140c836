import Derived.Test.YtglgdfgdfkeogaaDoorXAU
import Derived.Deep.Cut
import Derived.Deep.CutRange
import Derived.Deep.DeepCutAuto
import Derived.Test.YtglgdfgdfkeogaaDoorXAF
import Derived.Test.YtglgdfgdfkeogaaDoorXAV
namespace Go.Proofs.YtglgdfgdfkeogaaDoor
open Go.RowKit
set_option linter.unusedVariables false
set_option linter.unusedSimpArgs false

/-- What stays while questions are asked. -/
structure PsI (W : World) (A X2 X3 : Nat) (Bx By : Nat) (ta tb : Tb) (xa xb : Option Addr) (xm xc xn xd : Nat) (ya yb : Option Addr) (ym yc yn yd : Nat) (w0 : World) : Prop where
  a0 : W.cell? ⟨A, 0, none⟩ = some (.slice ta.an ta.ln ta.cn)
  a1 : W.cell? ⟨A, 1, none⟩ = some (.slice ta.ar ta.lr ta.cr)
  b0 : W.cell? ⟨A + 1, 0, none⟩ = some (.slice tb.an tb.ln tb.cn)
  b1 : W.cell? ⟨A + 1, 1, none⟩ = some (.slice tb.ar tb.lr tb.cr)
  x0 : W.cell? ⟨X2, 0, none⟩ = some (.slice xa xm xc)
  x1 : W.cell? ⟨X2, 1, none⟩ = some (.slice xb xn xd)
  y0 : W.cell? ⟨X3, 0, none⟩ = some (.slice ya ym yc)
  y1 : W.cell? ⟨X3, 1, none⟩ = some (.slice yb yn yd)
  xN : NO W Bx ta.an (.slice xa xm xc) ta.ln ta.ss
  xR : RO W Bx (.slice xb xn xd) ta.lr ta.rs
  yN : NO W By tb.an (.slice ya ym yc) tb.ln tb.ss
  yR : RO W By (.slice yb yn yd) tb.lr tb.rs
  old : Below w0.heap.size w0 W
theorem psI_go {W0 W : World} {B bk A X2 X3 Bx By : Nat} {ta tb : Tb} {xa xb : Option Addr} {xm xc xn xd : Nat} {ya yb : Option Addr} {ym yc yn yd : Nat} {w0 : World} (h : PsI W0 A X2 X3 Bx By ta tb xa xb xm xc xn xd ya yb ym yc yn yd w0) (f : Fr B bk W0 W) (hB : W0.heap.size = B) (h1 : w0.heap.size ≤ bk) (h2 : bk < A) (h3 : A + 1 < B) (h4 : bk < X2 ∧ X2 < B) (h5 : bk < X3 ∧ X3 < B) (h6 : bk < Bx) (h7 : bk < By) : PsI W A X2 X3 Bx By ta tb xa xb xm xc xn xd ya yb ym yc yn yd w0 := by
  have cl : ∀ z o, z < B → bk < z → ∀ v, W0.cell? ⟨z, o, none⟩ = some v → W.cell? ⟨z, o, none⟩ = some v := fun z o hz hb v e => by
    have := f.blk z hz (by omega)
    unfold World.cell? at e ⊢
    rw [this]
    exact e
  obtain ⟨v, g, b⟩ := f.split (by omega) (by omega)
  exact ⟨cl _ _ (by omega) (by omega) _ h.a0, cl _ _ (by omega) (by omega) _ h.a1, cl _ _ (by omega) (by omega) _ h.b0, cl _ _ (by omega) (by omega) _ h.b1, cl _ _ h4.2 h4.1 _ h.x0, cl _ _ h4.2 h4.1 _ h.x1, cl _ _ h5.2 h5.1 _ h.y0, cl _ _ h5.2 h5.1 _ h.y1, (h.xN.kept g h6).later b, (h.xR.kept g h6).later b, (h.yN.kept g h7).later b, (h.yR.kept g h7).later b, Fr.old h.old f h1 (by omega)⟩
set_option maxRecDepth 100000 in
set_option maxHeartbeats 8000000 in
theorem pass_any (lo hi : Int) (KA : AskK lo hi) (ta tb : Tb) (sa : Option Addr) (sl sc : Nat) (xs : List Aq) (late : Bool) (bk : Nat) (w0 w : World) (b : Below w0.heap.size w0 w) (hbk : w0.heap.size ≤ bk) (hn : w.heap[bk]? = some (.cells (newB late).toArray 36)) (hA : TbOk w0 ta) (hB : TbOk w0 tb) (hS : AqL w0 sa sl xs) (bh : Bh w0) (ot : Ot w0) (ho : 1 < w0.heap.size) :
    Calls Tryd.prog 7 #[ta.val, tb.val, .slice sa sl sc, .int .i64 lo, .int .i64 hi, .pointer (some ⟨bk, 0, none⟩)] w fun e w' => e = .returned (.bool true) ∧ Below w0.heap.size w0 w' := by
  have bkl := blk_lt hn
  have OTB := Lib.hid (p := ∀ W, Below w0.heap.size w0 W → Ot W ∧ Bh W) (fun W q => ⟨⟨(q.cell (p := ⟨1, 0, none⟩) ho).trans ot.1, (q.cell (p := ⟨1, 1, none⟩) ho).trans ot.2⟩, bh.later q⟩)
  have KOA := Lib.hid (fun (W : World) (q : Below w0.heap.size w0 W) => own_any ta.an ta.ar ta.ln ta.cn ta.lr ta.cr ta.ss ta.rs W (hA.nl.later q) (hA.rl.later q) hA.nn hA.rn (bh.later q))
  have KOB := Lib.hid (fun (W : World) (q : Below w0.heap.size w0 W) => own_any tb.an tb.ar tb.ln tb.cn tb.lr tb.cr tb.ss tb.rs W (hB.nl.later q) (hB.rl.later q) hB.nn hB.rn (bh.later q))
  have KIA := Lib.hid (fun (W : World) (q : Below w0.heap.size w0 W) (Bx : Nat) (x y : Option Addr) (m c n d : Nat) (hN : NO W Bx ta.an (.slice x m c) ta.ln ta.ss) (hR : RO W Bx (.slice y n d) ta.lr ta.rs) => intact_any Bx ta.an ta.ar x y ta.ln ta.cn ta.lr ta.cr m c n d ta.ss ta.rs W (hA.nl.later q) (hA.rl.later q) hA.nn (bh.later q) hN hR)
  have KIB := Lib.hid (fun (W : World) (q : Below w0.heap.size w0 W) (Bx : Nat) (x y : Option Addr) (m c n d : Nat) (hN : NO W Bx tb.an (.slice x m c) tb.ln tb.ss) (hR : RO W Bx (.slice y n d) tb.lr tb.rs) => intact_any Bx tb.an tb.ar x y tb.ln tb.cn tb.lr tb.cr m c n d tb.ss tb.rs W (hB.nl.later q) (hB.rl.later q) hB.nn (bh.later q) hN hR)
  have TBA := Lib.hid (fun (W : World) (Bx : Nat) (x y : Option Addr) (m c n d : Nat) (hN : NO W Bx ta.an (.slice x m c) ta.ln ta.ss) (hR : RO W Bx (.slice y n d) ta.lr ta.rs) => tb_of_own hA.nl hA.rl hN hR)
  have TBB := Lib.hid (fun (W : World) (Bx : Nat) (x y : Option Addr) (m c n d : Nat) (hN : NO W Bx tb.an (.slice x m c) tb.ln tb.ss) (hR : RO W Bx (.slice y n d) tb.lr tb.rs) => tb_of_own hB.nl hB.rl hN hR)
  have SCR := Lib.hid hS
  have HN := Lib.hid hn
  have sll : sl ≤ 1048576 := hS.2.1
  have KAA := Lib.hid KA
  obtain ⟨an, ln, cn, tss, ar, lr, cr, trs⟩ := ta
  obtain ⟨bn, mn, dn, uss, br, mr, dr, urs⟩ := tb
  have B1 := Lib.hid (two_boxes w (.slice an ln cn) (.slice ar lr cr) (.slice bn mn dn) (.slice br mr dr) 25)
  have C1 := Lib.hid (p := Below w0.heap.size w0 ((w.alloc (.cells #[.slice an ln cn, .slice ar lr cr] 25)).alloc (.cells #[.slice bn mn dn, .slice br mr dr] 25))) (b.trans (B1.out.mono b.size))
  have CE := Lib.hid (fun W (q : Below ((w.alloc (.cells #[.slice an ln cn, .slice ar lr cr] 25)).alloc (.cells #[.slice bn mn dn, .slice br mr dr] 25)).heap.size ((w.alloc (.cells #[.slice an ln cn, .slice ar lr cr] 25)).alloc (.cells #[.slice bn mn dn, .slice br mr dr] 25)) W) => two_cells q)
  obtain ⟨q0, q1⟩ := CE.out _ (Below.refl _ _)
  obtain ⟨a0, a1, _, _⟩ := box_all2 q0
  obtain ⟨b0, b1, _, _⟩ := box_all2 q1
  have BB := Lib.hid b
  clear b hn hA hB hS bh ot KA q0 q1
  simp only [Tb.val] at *
  go_enter Tryd.func7, Tryd.ntmps7
  go_upto_region 2 with (go_at_call 9; refine (KOA.out _ C1.out).mono ?_; rintro e w2 ⟨xa, xm, xc, v2, rfl, hNO, hRO, hb⟩; obtain ⟨xb, xn, xd, hv2, _⟩ := ro_hd hRO; subst hv2; have N2 := Lib.hid hNO; have R2 := Lib.hid hRO; have D2 := Lib.hid (hb.trans ((below_al w2 (.cells #[.slice xa xm xc, .slice xb xn xd] 25)).mono hb.size)); have S2 := Lib.hid hb.size; have A2 := Lib.hid (below_al w2 (.cells #[.slice xa xm xc, .slice xb xn xd] 25)); have C2 := Lib.hid (C1.out.trans (D2.out.mono C1.out.size)); obtain ⟨q0, q1⟩ := CE.out _ D2.out; obtain ⟨a2, a3, _, _⟩ := box_all2 q0; obtain ⟨b2, b3, _, _⟩ := box_all2 q1; clear hNO hRO hb q0 q1)
  go_upto_region 3 with (go_at_call 9; refine (KOB.out _ C2.out).mono ?_; rintro e w3 ⟨ya, ym, yc, v3, rfl, hNO, hRO, hb⟩; obtain ⟨yb, yn, yd, hv3, _⟩ := ro_hd hRO; subst hv3; have N3 := Lib.hid hNO; have R3 := Lib.hid hRO; have D3 := Lib.hid (hb.trans ((below_al w3 (.cells #[.slice ya ym yc, .slice yb yn yd] 25)).mono hb.size)); have S3 := Lib.hid hb.size; have A3 := Lib.hid (below_al w3 (.cells #[.slice ya ym yc, .slice yb yn yd] 25)); clear hNO hRO hb)
  have P0 := Lib.hid (p := PsI (w3.alloc (.cells #[.slice ya ym yc, .slice yb yn yd] 25)) w.heap.size w2.heap.size w3.heap.size ((w.alloc (.cells #[.slice an ln cn, .slice ar lr cr] 25)).alloc (.cells #[.slice bn mn dn, .slice br mr dr] 25)).heap.size (w2.alloc (.cells #[.slice xa xm xc, .slice xb xn xd] 25)).heap.size ⟨an, ln, cn, tss, ar, lr, cr, trs⟩ ⟨bn, mn, dn, uss, br, mr, dr, urs⟩ xa xb xm xc xn xd ya yb ym yc yn yd w0) (by
    have DD := D2.out.trans (D3.out.mono D2.out.size)
    obtain ⟨q0, q1⟩ := CE.out _ DD
    obtain ⟨c0, c1, _, _⟩ := box_all2 q0
    obtain ⟨c2, c3, _, _⟩ := box_all2 q1
    obtain ⟨c4, c5, _, _⟩ := box_all2 ((D3.out.block _ (by simp)).trans (World.alloc_heap_new w2 (.cells #[.slice xa xm xc, .slice xb xn xd] 25)))
    obtain ⟨c6, c7, _, _⟩ := box_all2 (World.alloc_heap_new w3 (.cells #[.slice ya ym yc, .slice yb yn yd] 25))
    exact ⟨c0, c1, c2, c3, c4, c5, c6, c7, (N2.out.later A2.out).later D3.out, (R2.out.later A2.out).later D3.out, N3.out.later A3.out, R3.out.later A3.out, C2.out.trans (D3.out.mono C2.out.size)⟩)
  have s2 : (w.heap.size + 1 + 1 ≤ w2.heap.size) ∧ w2.heap.size + 1 ≤ w3.heap.size := by
    have e1 := S2.out
    have e2 := S3.out
    simp only [World.size_alloc] at e1 e2
    exact ⟨e1, e2⟩
  have SZ := Lib.hid s2
  have NB := Lib.hid (p := (w3.alloc (.cells #[.slice ya ym yc, .slice yb yn yd] 25)).heap[bk]? = some (.cells (newB late).toArray 36)) (by
    have DD := B1.out.trans ((D2.out.trans (D3.out.mono D2.out.size)).mono B1.out.size)
    exact (DD.block bk bkl).trans HN.out)
  have SW : (w3.alloc (.cells #[.slice ya ym yc, .slice yb yn yd] 25)).heap.size = w3.heap.size + 1 := World.size_alloc _ _
  have SX : ((w.alloc (.cells #[.slice an ln cn, .slice ar lr cr] 25)).alloc (.cells #[.slice bn mn dn, .slice br mr dr] 25)).heap.size = w.heap.size + 1 + 1 := by simp only [World.size_alloc]
  have SY : (w2.alloc (.cells #[.slice xa xm xc, .slice xb xn xd] 25)).heap.size = w2.heap.size + 1 := World.size_alloc _ _
  rw [SX, SY] at P0
  obtain ⟨W0, hW0⟩ : ∃ u, w3.alloc (.cells #[.slice ya ym yc, .slice yb yn yd] 25) = u := ⟨_, rfl⟩
  rw [hW0] at P0 NB SW
  rw [hW0]
  have c12 : W0.cell? ⟨bk, 12, none⟩ = some (.bool late) := by rw [Joins.cell_of_block NB.out]; simp [newB]
  have BK0 := Lib.hid (bkS_new W0.heap.size NB.out)
  have PG := Lib.hid (p := ∀ W, Fr W0.heap.size bk W0 W → PsI W w.heap.size w2.heap.size w3.heap.size (w.heap.size + 1 + 1) (w2.heap.size + 1) ⟨an, ln, cn, tss, ar, lr, cr, trs⟩ ⟨bn, mn, dn, uss, br, mr, dr, urs⟩ xa xb xm xc xn xd ya yb ym yc yn yd w0 ∧ Gl W0.heap.size bk W ∧ W0.heap.size ≤ W.heap.size) (fun W f => by
    have p := psI_go P0.out f rfl hbk (by omega) (by omega) ⟨by omega, by omega⟩ ⟨by omega, by omega⟩ (by omega) (by omega)
    exact ⟨p, ⟨(OTB.out W p.old).1, ⟨by have := P0.out.old.size; omega, by omega⟩⟩, f.size⟩)
  clear KOA KOB C1 CE B1 D2 D3 A2 A3 C2 N2 R2 N3 R3 S2 S3 SZ P0 NB HN a0 a1 a2 a3 b0 b1 b2 b3 hW0 SX SY
  go_wp2
  clear c12
  go_loopw [16] (fun t ws => ∃ i : Nat, i ≤ sl ∧ t = .int .i64 (i : Int) ∧ RowKit.Hid (BkS ws W0.heap.size bk late (4 * i) [] ∧ Fr W0.heap.size bk W0 ws)) (fun t _ => sl - (intOf t).toNat)
  case atStart => exact ⟨0, Nat.zero_le _, rfl, BK0.out, Fr.refl _ _ _⟩
  case round =>
    obtain ⟨i, hil, rfl, hQ⟩ := hrel
    rename World => ws
    have KS := Lib.hid hQ.out.1
    have FS := Lib.hid hQ.out.2
    clear hQ
    obtain ⟨ps, gs, bs⟩ := PG.out ws FS.out
    by_cases hlt : i < sl
    · have kc : (i : Int) < (sl : Int) := by omega
      have kw : IntKind.i64.wrap ((i : Int) + 1) = (i : Int) + 1 := by simp [IntKind.wrap, IntKind.bits, IntKind.signed]; omega
      obtain ⟨z, o, x, rfl, ax0, DX0⟩ := SCR.out.atAll hlt
      obtain ⟨d0, d1, d2⟩ := DX0 ws ps.old
      obtain ⟨a0, a1, b0, b1, x0, x1, y0, y1, xN, xR, yN, yR, old⟩ := ps
      obtain ⟨kd, na, nn, nc, ns, N⟩ := x
      simp only at d0 d1 d2
      have AX := Lib.hid (p := ∀ W, Below w0.heap.size w0 W → AqOk W ⟨kd, na, nn, nc, ns, N⟩) (fun W q => ax0.later q)
      have DX := Lib.hid (p := ∀ W, Below w0.heap.size w0 W → W.cell? ⟨z, o + i * 3, none⟩ = some (.int .i64 kd) ∧ W.cell? ⟨z, o + i * 3 + 1, none⟩ = some (.slice na nn nc) ∧ W.cell? ⟨z, o + i * 3 + 2, none⟩ = some (.int .i64 N)) DX0
      clear ax0 DX0
      by_cases hk : kd < lo ∨ hi < kd
      · have NX := Lib.hid (p := BkS ws W0.heap.size bk late (4 * (i + 1)) []) (KS.out.mono (by omega))
        by_cases k1 : kd < lo
        · go_wp2
          go_roundw
          case rel => exact ⟨i + 1, by omega, by go_num, NX.out, FS.out⟩
          case measure => simp [intOf]; omega
        · have k2 : hi < kd := by omega
          go_wp2
          go_roundw
          case rel => exact ⟨i + 1, by omega, by go_num, NX.out, FS.out⟩
          case measure => simp [intOf]; omega
      · have k1 : ¬ kd < lo := fun q => hk (.inl q)
        have k2 : ¬ hi < kd := fun q => hk (.inr q)
        have KQ := Lib.hid (p := ∀ (k : Nat) (W : World), k ≤ 30000000 → BkS W W0.heap.size bk late k [] → Fr W0.heap.size bk W0 W → Calls Tryd.prog 10 #[.agg #[.slice xa xm xc, .slice xb xn xd], .agg #[.slice ya ym yc, .slice yb yn yd], .agg #[.int .i64 kd, .slice na nn nc, .int .i64 N], .pointer (some ⟨bk, 0, none⟩)] W fun e w' => AskE W0.heap.size bk late k W e w') (fun k W hk hS fW => by
          obtain ⟨pW, gW, bW⟩ := PG.out W fW
          obtain ⟨qa, ia, ca⟩ := TBA.out W _ _ _ _ _ _ _ pW.xN pW.xR
          obtain ⟨qb, ib, cb⟩ := TBB.out W _ _ _ _ _ _ _ pW.yN pW.yR
          exact KAA.out W0.heap.size bk late k ⟨xa, xm, xc, tss, xb, xn, xd, qa⟩ ⟨ya, ym, yc, uss, yb, yn, yd, qb⟩ _ _ _ _ ⟨kd, na, nn, nc, ns, N⟩ W (by simp only; omega) (by simp only; omega) hS ia ib ca cb (AX.out W pW.old) gW bW hk)
        have SB := Lib.hid (p := ∀ W, Fr W0.heap.size bk W0 W → W.cell? ⟨w2.heap.size, 0, none⟩ = some (.slice xa xm xc) ∧ W.cell? ⟨w2.heap.size, 1, none⟩ = some (.slice xb xn xd) ∧ W.cell? ⟨w3.heap.size, 0, none⟩ = some (.slice ya ym yc) ∧ W.cell? ⟨w3.heap.size, 1, none⟩ = some (.slice yb yn yd) ∧ W.cell? ⟨z, o + i * 3, none⟩ = some (.int .i64 kd) ∧ W.cell? ⟨z, o + i * 3 + 1, none⟩ = some (.slice na nn nc) ∧ W.cell? ⟨z, o + i * 3 + 2, none⟩ = some (.int .i64 N)) (fun W fW => by
          obtain ⟨pW, _, _⟩ := PG.out W fW
          exact ⟨pW.x0, pW.x1, pW.y0, pW.y1, DX.out W pW.old⟩)
        clear hk
        go_upto_region 8 with fail
        have FD := Lib.hid (FS.out.trans (Fr.below (bk := bk) (Below.refl _ ws).drew bs))
        have KD := Lib.hid (KQ.out (4 * i) ws.drew (by omega) (KS.out.below (Below.refl _ ws).drew) FD.out)
        go_region_held3 (fun w' => w'.cell? ⟨w2.heap.size, 0, none⟩ = some (.slice xa xm xc) ∧ w'.cell? ⟨w2.heap.size, 1, none⟩ = some (.slice xb xn xd) ∧ w'.cell? ⟨w3.heap.size, 0, none⟩ = some (.slice ya ym yc) ∧ w'.cell? ⟨w3.heap.size, 1, none⟩ = some (.slice yb yn yd) ∧ w'.cell? ⟨z, o + i * 3, none⟩ = some (.int .i64 kd) ∧ w'.cell? ⟨z, o + i * 3 + 1, none⟩ = some (.slice na nn nc) ∧ w'.cell? ⟨z, o + i * 3 + 2, none⟩ = some (.int .i64 N)) (first | exact ⟨x0, x1, y0, y1, d0, d1, d2⟩ | exact SB.out _ F4.out) (first | (go_at_call 10; refine KD.out.mono ?_; rintro e w4 ⟨rfl, hS, hF⟩; have S4 := Lib.hid hS; have F4 := Lib.hid (FD.out.trans hF); clear hS hF))
        go_upto_if 60 with fail
        go_cut [17] (fun v wx => v = .bool true ∧ RowKit.Hid (BkS wx W0.heap.size bk late (4 * i + 4) [] ∧ Fr W0.heap.size bk W0 wx))
        case first =>
          cases late with
          | false =>
            go_wp2
            go_meet
            case rel => exact ⟨rfl, S4.out.mono (by omega), F4.out⟩
          | true =>
            go_upto_region 10 with fail
            obtain ⟨u0, u1, u2, u3, u4, u5, u6⟩ := SB.out _ F4.out
            have FE := Lib.hid (F4.out.trans (Fr.below (bk := bk) (Below.refl _ w4).drew (PG.out _ F4.out).2.2))
            have KE := Lib.hid (KQ.out (4 * i + 2) w4.drew (by omega) (S4.out.below (Below.refl _ w4).drew) FE.out)
            go_region_held3 (fun w' => w'.cell? ⟨w2.heap.size, 0, none⟩ = some (.slice xa xm xc) ∧ w'.cell? ⟨w2.heap.size, 1, none⟩ = some (.slice xb xn xd) ∧ w'.cell? ⟨w3.heap.size, 0, none⟩ = some (.slice ya ym yc) ∧ w'.cell? ⟨w3.heap.size, 1, none⟩ = some (.slice yb yn yd) ∧ w'.cell? ⟨z, o + i * 3, none⟩ = some (.int .i64 kd) ∧ w'.cell? ⟨z, o + i * 3 + 1, none⟩ = some (.slice na nn nc) ∧ w'.cell? ⟨z, o + i * 3 + 2, none⟩ = some (.int .i64 N)) (first | exact ⟨u0, u1, u2, u3, u4, u5, u6⟩ | exact SB.out _ F5.out) (first | (go_at_call 10; refine KE.out.mono ?_; rintro e w5 ⟨rfl, hS, hF⟩; have S5 := Lib.hid hS; have F5 := Lib.hid (FE.out.trans hF); clear hS hF))
            go_wp2
            go_meet
            case rel => exact ⟨rfl, S5.out.mono (by omega), F5.out⟩
        case rest =>
          as_aux_lemma =>
            obtain ⟨rfl, hD⟩ := hcut
            rename World => wc
            have S6 := Lib.hid hD.out.1
            have F6 := Lib.hid hD.out.2
            clear hD S4 F4
            obtain ⟨p6, g6, b6⟩ := PG.out _ F6.out
            have P6 := Lib.hid p6
            obtain ⟨e0, e1, e2, e3, e4, e5, e6, e7, _, _, _, _, _⟩ := p6
            have KI1 := Lib.hid (KIA.out wc P6.out.old _ _ _ _ _ _ _ P6.out.xN P6.out.xR)
            clear x0 x1 y0 y1 d0 d1 d2 a0 a1 b0 b1
            go_wp2_with (first
              | (go_at_call 11; have mk1 := KI1; refine KI1.out.mono ?_; rintro e w7 ⟨rfl, hb⟩; have F7 := Lib.hid (F6.out.trans (Fr.below (bk := bk) hb b6)); have S7 := Lib.hid (S6.out.below hb); obtain ⟨p7, g7, b7⟩ := PG.out _ F7.out; have KI2 := Lib.hid (KIB.out w7 p7.old _ _ _ _ _ _ _ p7.yN p7.yR); obtain ⟨h0, h1, h2, h3, h4, h5, h6, h7, _, _, _, _, _⟩ := p7; clear KI1 mk1 hb)
              | (go_at_call 11; refine KI2.out.mono ?_; rintro e w8 ⟨rfl, hb⟩; have F8 := Lib.hid (F7.out.trans (Fr.below (bk := bk) hb b7)); have S8 := Lib.hid (S7.out.below hb); have KK := Lib.hid (kept_S W0.heap.size bk late (4 * i + 4) [] w8 S8.out (by omega) (PG.out _ F8.out).2.1 (PG.out _ F8.out).2.2); clear hb)
              | (go_at_call 12; refine KK.out.mono ?_; rintro e w9 ⟨rfl, hb⟩; have F9 := Lib.hid (F8.out.trans (Fr.below (bk := bk) hb (PG.out _ F8.out).2.2)); have S9 := Lib.hid (S8.out.below hb); clear hb))
            go_roundw
            case rel => exact ⟨i + 1, by omega, by go_num, S9.out.mono (by omega), F9.out⟩
            case measure => simp [intOf]; omega
    · obtain rfl : i = sl := by omega
      have kc : ¬ (i : Int) < (i : Int) := by omega
      have OLD := Lib.hid ps.old
      cases late with
      | false =>
        clear ps
        go_wp2
        go_ret
        exact ⟨rfl, OLD.out⟩
      | true =>
        have KT := Lib.hid (settled_any W0.heap.size bk (4 * i) ws KS.out (by omega) bs gs)
        clear ps
        go_wp2_with (go_at_call 13; refine KT.out.mono ?_; rintro e w9 ⟨rfl, hF⟩; have F9 := Lib.hid (PG.out _ (FS.out.trans hF)).1.old; clear hF)
        go_ret
        exact ⟨rfl, F9.out⟩
end Go.Proofs.YtglgdfgdfkeogaaDoor

namespace Go.Proofs.YtglgdfgdfkeogaaDoor
open Go.RowKit
set_option linter.unusedVariables false
set_option linter.unusedSimpArgs false

/-- A table of own whose rows may have changed places. -/
structure SwT (W : World) (B : Nat) (an xa xb : Option Addr) (xm xc xn xd : Nat) (ss : List ByteArray) (qs : List Rw) : Prop where
  N : NO W B an (.slice xa xm xc) xm ss
  sl : ss.length = xm
  sb : xm ≤ 8796093021952 ∧ ∀ s ∈ ss, s.size ≤ 140737488351232
  ql : qs.length = xn
  R : ∀ q ∈ qs, RowN W B q q.cs
  wf : ∀ q ∈ qs, (∀ c ∈ q.cs, (Lit.int .i64 c.v).wf = true) ∧ q.cs.length ≤ 8796093021952
  L : xn = 0 ∨ ∃ g cur, xb = some ⟨g, 0, none⟩ ∧ (B ≤ g ∧ W.heap[g]? = some (.cells cur 49)) ∧ ∀ i, i < xn → cur[i]? = some (qv (qs.getD i default))
  n0 : xb = none → xn = 0 ∧ xd = 0
  le : xn ≤ xd ∧ xn ≤ 5864062014635
theorem SwT.below {W W' : World} {B : Nat} {an xa xb : Option Addr} {xm xc xn xd : Nat} {ss : List ByteArray} {qs : List Rw} (h : SwT W B an xa xb xm xc xn xd ss qs) (b : Below W.heap.size W W') : SwT W' B an xa xb xm xc xn xd ss qs := by
  refine ⟨h.N.later b, h.sl, h.sb, h.ql, fun q hq => row_later (h.R q hq) b, h.wf, ?_, h.n0, h.le⟩
  rcases h.L with z | ⟨g, cur, e, ⟨e1, e2⟩, e3⟩
  · exact .inl z
  · exact .inr ⟨g, cur, e, ⟨e1, (b.block g (blk_lt e2)).trans e2⟩, e3⟩
theorem SwT.tb {W : World} {B : Nat} {an xa xb : Option Addr} {xm xc xn xd : Nat} {ss : List ByteArray} {qs : List Rw} (h : SwT W B an xa xb xm xc xn xd ss qs) : TbIs W ⟨xa, xm, xc, ss, xb, xn, xd, qs⟩ ss (qs.map (·.cs)) := by
  obtain ⟨_, nl⟩ := h.N.nl h.sl h.sb.1 h.sb.2
  refine ⟨nl, ?_, ⟨h.ql, h.le.2, fun r hr => ?_, ?_⟩, h.n0, rfl, rfl⟩
  · intro e
    rcases h.N with ⟨_, k, k0⟩ | ⟨g, c', k, _⟩
    · injection k with _ _ k; exact ⟨k0, k⟩
    · injection k with k; simp only at e; rw [e] at k; cases k
  · obtain ⟨rc, g, e, _⟩ := rowN_rc (h.R r hr) (h.wf r hr).1 (h.wf r hr).2
    obtain ⟨a1, a2, a3, _⟩ := h.R r hr
    exact ⟨rc, (fun z => by rw [e] at z; cases z), by omega, a3⟩
  · rcases h.L with z | ⟨g, cur, e, ⟨e1, e2⟩, e3⟩
    · exact .inl z
    · refine .inr ⟨g, 0, e, blk_lt e2, fun i hi => ?_⟩
      rw [Nat.zero_add, Joins.cell_of_block e2, e3 i hi]
      rfl
theorem SwT.cell {W : World} {B : Nat} {an xa xb : Option Addr} {xm xc xn xd : Nat} {ss : List ByteArray} {qs : List Rw} (h : SwT W B an xa xb xm xc xn xd ss qs) {i : Nat} (hi : i < xn) : ∃ g, xb = some ⟨g, 0, none⟩ ∧ B ≤ g ∧ g < W.heap.size ∧ ∀ j, j < xn → W.cell? ⟨g, j, none⟩ = some (.slice (qs.getD j default).a (qs.getD j default).n (qs.getD j default).cap) ∧ W.frozen? ⟨g, j, none⟩ = false := by
  rcases h.L with z | ⟨g, cur, e, ⟨e1, e2⟩, e3⟩
  · omega
  · exact ⟨g, e, e1, blk_lt e2, fun j hj => ⟨by rw [Joins.cell_of_block e2, e3 j hj]; rfl, Joins.unfrozen_of_block e2 _⟩⟩
theorem SwT.swap {W : World} {B : Nat} {an xa : Option Addr} {xm xc xn xd g i j : Nat} {ss : List ByteArray} {qs : List Rw} (h : SwT W B an xa (some ⟨g, 0, none⟩) xm xc xn xd ss qs) (hi : i < xn) (hj : j < xn) (ne : i ≠ j) (u v : Value) (hu : u = qv (qs.getD j default)) (hv : v = qv (qs.getD i default)) :
    SwT ((W.setCell ⟨g, i, none⟩ u).setCell ⟨g, j, none⟩ v) B an xa (some ⟨g, 0, none⟩) xm xc xn xd ss ((qs.set i (qs.getD j default)).set j (qs.getD i default)) := by
  subst hu hv
  rcases h.L with z | ⟨g', cur, e, ⟨e1, e2⟩, e3⟩
  · omega
  injection e with e
  injection e with e
  subst e
  have gr := gr_two W g i j (qv (qs.getD j default)) (qv (qs.getD i default))
  have hb2 := Joins.block_setCell (i := j) (Joins.block_setCell (i := i) e2 (qv (qs.getD j default))) (qv (qs.getD i default))
  have mem : ∀ q ∈ (qs.set i (qs.getD j default)).set j (qs.getD i default), q ∈ qs := fun q hq => by
    have gi : qs.getD i default ∈ qs := by rw [show qs.getD i default = qs[i]'(by rw [h.ql]; exact hi) by simp [List.getD, h.ql, hi]]; exact List.getElem_mem _
    have gj : qs.getD j default ∈ qs := by rw [show qs.getD j default = qs[j]'(by rw [h.ql]; exact hj) by simp [List.getD, h.ql, hj]]; exact List.getElem_mem _
    rcases List.mem_or_eq_of_mem_set hq with r | r
    · rcases List.mem_or_eq_of_mem_set r with r | r
      · exact r
      · rw [r]; exact gj
    · rw [r]; exact gi
  refine ⟨?_, h.sl, h.sb, by simp [h.ql], fun q hq => row_kept (h.R q (mem q hq)) gr (fun k ek e => ?_), fun q hq => h.wf q (mem q hq), .inr ⟨g, _, rfl, ⟨e1, hb2⟩, fun k hk => ?_⟩, h.n0, h.le⟩
  · rcases h.N with z | ⟨gn, c, k1, k2, k3, k4, k5⟩
    · exact .inl z
    · have c0 := k5 0 (by omega)
      have ng : ¬ g = gn := fun q => by
        subst q
        rw [Joins.cell_of_block e2, e3 0 (by omega)] at c0
        injection c0 with c0
        cases c0
      refine .inr ⟨gn, c, k1, k2, k3, ⟨k4.1, Nat.lt_of_lt_of_le k4.2 gr.size⟩, fun k hk => ?_⟩
      rw [World.cell?_of_block (a := ⟨gn, k, none⟩) (gr.block gn k4.2 (by intro q; injection q with q; exact ng q.symm))]
      exact k5 k hk
  · injection e with e
    subst e
    obtain ⟨cu, fz, q⟩ := rowN_block (h.R q (mem q hq)) g ek
    exact blk_ty q e2 (by decide) rfl
  · have hql : qs.length = xn := h.ql
    have cs : xn ≤ cur.size := by
      rcases Nat.lt_or_ge cur.size xn with q | q
      · have := e3 cur.size q
        rw [Array.getElem?_eq_none (Nat.le_refl _)] at this
        cases this
      · exact q
    rw [Array.getElem?_setIfInBounds, Array.getElem?_setIfInBounds]
    unfold List.getD
    rw [List.getElem?_set, List.getElem?_set]
    by_cases kj : j = k
    · subst kj
      simp [h.ql, hj, show j < cur.size by omega]
    · by_cases ki : i = k
      · subst ki
        simp [kj, h.ql, hi, show i < cur.size by omega]
      · simp only [if_neg kj, if_neg ki]
        have := e3 k hk
        unfold List.getD at this
        exact this
theorem swT_of {W w0 : World} {B : Nat} {an ar xa xb : Option Addr} {ln lr xm xc xn xd : Nat} {ss : List ByteArray} {rs : List Rw} (hn : NL w0 an ln ss) (hr : RL w0 ar lr rs) (N : NO W B an (.slice xa xm xc) ln ss) (R : RO W B (.slice xb xn xd) lr rs) (lb : LB W (.slice xb xn xd)) : ∃ qs, SwT W B an xa xb xm xc xn xd ss qs := by
  obtain ⟨e1, nl⟩ := N.nl hn.1 hn.2.1 hn.2.2.1
  subst e1
  rcases R with ⟨e, z⟩ | ⟨g, c, qs, e, h2, h3, h4, h5, h6⟩
  · injection e with a1 a2 a3
    subst a1 a2 a3
    exact ⟨[], N, hn.1, ⟨hn.2.1, hn.2.2.1⟩, rfl, (fun q hq => by cases hq), (fun q hq => by cases hq), .inl rfl, fun _ => ⟨rfl, rfl⟩, Nat.le_refl _, Nat.zero_le _⟩
  · injection e with a1 a2 a3
    subst a1 a2 a3
    obtain ⟨cur, hg⟩ := lb g rfl
    have key : ∀ k, k < xn → (qs.getD k default) ∈ qs ∧ rs.getD k default ∈ rs := fun k hk => by
      have q1 : k < qs.length := by omega
      have q2 : k < rs.length := by rw [hr.1]; exact hk
      exact ⟨by rw [show qs.getD k default = qs[k] by simp [List.getD, q1]]; exact List.getElem_mem q1, by rw [show rs.getD k default = rs[k] by simp [List.getD, q2]]; exact List.getElem_mem q2⟩
    refine ⟨(List.range xn).map (fun k => ⟨(qs.getD k default).a, (qs.getD k default).n, (qs.getD k default).cap, (rs.getD k default).cs⟩), N, hn.1, ⟨hn.2.1, hn.2.2.1⟩, by simp, fun q hq => ?_, fun q hq => ?_, .inr ⟨g, cur, rfl, ⟨h3.1, hg⟩, fun i hi => ?_⟩, (fun z => by cases z), h2, hr.2.1⟩
    · obtain ⟨k, hk, rfl⟩ := List.mem_map.1 hq
      have := h6 k (List.mem_range.1 hk)
      exact this
    · obtain ⟨k, hk, rfl⟩ := List.mem_map.1 hq
      have m := (key k (List.mem_range.1 hk)).2
      have rc := (hr.2.2.1 _ m).1
      exact ⟨rc.2.2.1, by rw [rc.1]; exact rc.2.1⟩
    · have c0 := h5 i hi
      rw [Joins.cell_of_block hg] at c0
      rw [c0]
      simp [List.getD, hi, qv]
set_option maxRecDepth 100000 in
set_option maxHeartbeats 8000000 in
theorem turned_any (ta : Tb) (w : World) (hA : TbOk w ta) (bh : Bh w) (hsm : ta.ln ≤ 1048576) :
    Calls Tryd.prog 8 #[ta.val] w fun e w' => e = .returned (.bool true) ∧ Below w.heap.size w w' := by
  have KOA := Lib.hid (fun (W : World) (q : Below w.heap.size w W) => own_any2 ta.an ta.ar ta.ln ta.cn ta.lr ta.cr ta.ss ta.rs W (hA.nl.later q) (hA.rl.later q) hA.nn hA.rn (bh.later q))
  have SWO := Lib.hid (fun (W : World) (B : Nat) (xa xb : Option Addr) (xm xc xn xd : Nat) (N : NO W B ta.an (.slice xa xm xc) ta.ln ta.ss) (R : RO W B (.slice xb xn xd) ta.lr ta.rs) (lb : LB W (.slice xb xn xd)) => swT_of hA.nl hA.rl N R lb)
  obtain ⟨an, ln, cn, tss, ar, lr, cr, trs⟩ := ta
  have B0 := Lib.hid (below_al w (.cells #[.slice an ln cn, .slice ar lr cr] 25))
  obtain ⟨a0, a1, _, _⟩ := box_all2 (World.alloc_heap_new w (.cells #[.slice an ln cn, .slice ar lr cr] 25))
  have NLN := Lib.hid (p := ∀ (W : World) (B : Nat) (x : Option Addr) (m c : Nat), NO W B an (.slice x m c) ln tss → m = ln) (fun W B x m c k => (k.nl hA.nl.1 hA.nl.2.1 hA.nl.2.2.1).1)
  clear hA bh
  simp only [Tb.val] at *
  go_enter Tryd.func8, Tryd.ntmps8
  go_upto_region 2 with (go_at_call 9; refine (KOA.out _ B0.out).mono ?_; rintro e w2 ⟨xa, xm, xc, v2, rfl, hNO, hRO, hb, hlb⟩; obtain ⟨xb, xn, xd, hv2, _⟩ := ro_hd hRO; subst hv2; obtain ⟨qs, hSW⟩ := SWO.out _ _ _ _ _ _ _ _ hNO hRO hlb; have hm := NLN.out _ _ _ _ _ hNO; subst hm; have SW2 := Lib.hid hSW; have D2 := Lib.hid hb; clear hNO hRO hb hlb hSW)
  have A2 := Lib.hid (below_al w2 (.cells #[.slice xa xm xc, .slice xb xn xd] 25))
  have HX := Lib.hid (World.alloc_heap_new w2 (.cells #[.slice xa xm xc, .slice xb xn xd] 25))
  have E2 := Lib.hid (p := Below w.heap.size w (w2.alloc (.cells #[.slice xa xm xc, .slice xb xn xd] 25))) ((B0.out.trans (D2.out.mono B0.out.size)).alloc (Nat.le_trans B0.out.size D2.out.size) _)
  have SW3 := Lib.hid (SW2.out.below A2.out)
  obtain ⟨W0, hW0⟩ : ∃ u, w2.alloc (.cells #[.slice xa xm xc, .slice xb xn xd] 25) = u := ⟨_, rfl⟩
  rw [hW0] at HX E2 SW3 A2
  rw [hW0]
  obtain ⟨X, hX⟩ : ∃ x, w2.heap.size = x := ⟨_, rfl⟩
  rw [hX] at HX
  rw [hX]
  have XB := Lib.hid (p := X < W0.heap.size) (blk_lt HX.out)
  have GLT := Lib.hid (p := ∀ g, xb = some ⟨g, 0, none⟩ → 0 < xn → g < X) (fun g e hn => by
    obtain ⟨g', e1, _, e2, _⟩ := SW2.out.cell hn
    rw [e] at e1; injection e1 with e1; injection e1 with e1; subst e1
    rw [← hX]; exact e2)
  have KB := Lib.hid (fun (W : World) (qs : List Rw) (h : SwT W (w.heap.size + 1) an xa xb xm xc xn xd tss qs) => bind_any ⟨xa, xm, xc, tss, xb, xn, xd, qs⟩ tss (qs.map (·.cs)) xa xm xc tss W h.tb h.tb.nl (by omega))
  have KRB := Lib.hid (fun (W : World) (qs : List Rw) (h : SwT W (w.heap.size + 1) an xa xb xm xc xn xd tss qs) => rBind_any ⟨xa, xm, xc, tss, xb, xn, xd, qs⟩ tss (qs.map (·.cs)) xa xm xc tss W h.tb h.tb.nl (by omega))
  have nb := SW3.out.le.2
  have KC := Lib.hid (fun (W : World) (qs : List Rw) (k : Nat) (hk : k ≤ xn) (h : SwT W (w.heap.size + 1) an xa xb xm xc xn xd tss qs) => cut_any ⟨xa, xm, xc, tss, xb, xn, xd, qs⟩ tss (qs.map (·.cs)) (k : Int) W h.tb (by omega))
  have KRC := Lib.hid (fun (W : World) (qs : List Rw) (k : Nat) (hk : k ≤ xn) (h : SwT W (w.heap.size + 1) an xa xb xm xc xn xd tss qs) => rCut_any ⟨xa, xm, xc, tss, xb, xn, xd, qs⟩ tss (qs.map (·.cs)) (k : Int) W h.tb h.le.1 (by omega))
  unfold TabE at KC KRC
  unfold BndE at KB
  unfold RBE at KRB
  simp only [Tb.val] at KB KRB KC KRC
  have bs : (w.alloc (.cells #[.slice an xm cn, .slice ar lr cr] 25)).heap.size = w.heap.size + 1 := World.size_alloc _ _
  rw [bs] at SW3
  obtain ⟨x0, x1, _, _⟩ := box_all2 HX.out
  clear KOA SWO NLN a0 a1 SW2 D2 A2 hX hW0 bs
  go_wp2_with (first
    | (go_at_call 14; refine (KB.out W0 qs SW3.out).mono ?_; rintro e w4 ⟨la, lm, lc, rfl, _, _, _, hb⟩; have S4 := Lib.hid (SW3.out.below hb); have H4 := Lib.hid ((hb.block X XB.out).trans HX.out); have E4 := Lib.hid (E2.out.trans (hb.mono E2.out.size)); have X4 := Lib.hid (blk_lt H4.out); obtain ⟨x0, x1, _, _⟩ := box_all2 H4.out; clear hb)
    | (go_at_call 15; refine (KC.out w4 qs xn (Nat.le_refl _) S4.out).mono ?_; rintro e w5 ⟨u5, rfl, _, hb⟩; have S5 := Lib.hid (S4.out.below hb); have H5 := Lib.hid ((hb.block X X4.out).trans H4.out); have E5 := Lib.hid (E4.out.trans (hb.mono E4.out.size)); clear hb))
  obtain ⟨hf, hhf⟩ : ∃ h : Nat, xn / 2 = h := ⟨_, rfl⟩
  have dv : (xn : Int).tdiv 2 = (hf : Int) := by rw [Int.tdiv_eq_ediv_of_nonneg (by omega)]; omega
  have kwd : IntKind.i64.wrap (hf : Int) = (hf : Int) := by simp [IntKind.wrap, IntKind.bits, IntKind.signed]; omega
  clear x0 x1
  go_loopw [4] (fun t ws => ∃ (i : Nat) (ps : List Rw), i ≤ hf ∧ t = .int .i64 (i : Int) ∧ RowKit.Hid (SwT ws (w.heap.size + 1) an xa xb xm xc xn xd tss ps ∧ ws.heap[X]? = some (.cells #[.slice xa xm xc, .slice xb xn xd] 25) ∧ Below w.heap.size w ws)) (fun t _ => hf - (intOf t).toNat)
  case atStart => exact ⟨0, qs, Nat.zero_le _, rfl, S5.out, H5.out, E5.out⟩
  case round =>
    obtain ⟨i, ps, hi, rfl, hQ⟩ := hrel
    rename World => ws
    have SS := Lib.hid hQ.out.1
    have HS := Lib.hid hQ.out.2.1
    have ES := Lib.hid hQ.out.2.2
    clear hQ
    obtain ⟨x0, x1, _, _⟩ := box_all2 HS.out
    by_cases hlt : i < hf
    · have kc : (i : Int) < (hf : Int) := by omega
      have kw : IntKind.i64.wrap ((i : Int) + 1) = (i : Int) + 1 := by simp [IntKind.wrap, IntKind.bits, IntKind.signed]; omega
      obtain ⟨j, hj⟩ : ∃ j : Nat, xn - 1 - i = j := ⟨_, rfl⟩
      have k1 : IntKind.i64.wrap ((xn : Int) - 1) = (xn : Int) - 1 := by simp [IntKind.wrap, IntKind.bits, IntKind.signed]; omega
      have k2 : IntKind.i64.wrap ((xn : Int) - 1 - (i : Int)) = (j : Int) := by simp [IntKind.wrap, IntKind.bits, IntKind.signed]; omega
      obtain ⟨g, rfl, gB, gs, gc⟩ := SS.out.cell (i := i) (by omega)
      obtain ⟨c0, f0⟩ := gc i (by omega)
      obtain ⟨c1, f1⟩ := gc j (by omega)
      have kj : (j : Int) < (xn : Int) := by omega
      have ki : (i : Int) < (xn : Int) := by omega
      have gX := GLT.out g rfl (by omega)
      have SWa := Lib.hid (SS.out.swap (i := i) (j := j) (by omega) (by omega) (by omega) _ _ rfl rfl)
      have SWb := Lib.hid (SS.out.swap (i := j) (j := i) (by omega) (by omega) (by omega) _ _ rfl rfl)
      have HXa := Lib.hid (p := ∀ (a b : Nat) (u v : Value), ((ws.setCell ⟨g, a, none⟩ u).setCell ⟨g, b, none⟩ v).heap[X]? = some (.cells #[.slice xa xm xc, .slice (some ⟨g, 0, none⟩) xn xd] 25)) (fun a b u v => by
        have ne : ¬ g = X := by omega
        simp only [World.setCell, Array.getElem?_modify, ne, if_false]
        exact HS.out)
      have EXa := Lib.hid (p := ∀ (a b : Nat) (u v : Value), Below w.heap.size w ((ws.setCell ⟨g, a, none⟩ u).setCell ⟨g, b, none⟩ v)) (fun a b u v => (ES.out.setCell (p := ⟨g, a, none⟩) (by simp; omega) _).setCell (p := ⟨g, b, none⟩) (by simp; omega) _)
      unfold qv at SWa SWb
      clear KB KRB KC KRC B0 E2 E4 E5 S4 S5 H4 H5 X4 XB SW3 HX GLT SS HS ES gc
      go_wp2
      go_region
      all_goals
        as_aux_lemma =>
          go_wp2
          go_roundw
          case rel => first
            | exact ⟨i + 1, _, by omega, by go_num, SWa.out.below (below_eq (Below.refl _ _) rfl rfl rfl rfl), HXa.out _ _ _ _, below_eq (EXa.out _ _ _ _) rfl rfl rfl rfl⟩
            | exact ⟨i + 1, _, by omega, by go_num, SWb.out.below (below_eq (Below.refl _ _) rfl rfl rfl rfl), HXa.out _ _ _ _, below_eq (EXa.out _ _ _ _) rfl rfl rfl rfl⟩
          case measure => simp [intOf]; omega
    · obtain rfl : i = hf := by omega
      have kc : ¬ (i : Int) < (i : Int) := by omega
      have FT := Lib.hid (p := ∀ qs : List Rw, qs.map (·.cs) = (if bindE tss (ps.map (·.cs)) tss = 0 then bndR tss (ps.map (·.cs)) tss else []) → qs.length ≤ 4096 ∧ ∀ q ∈ qs, q.cs.length ≤ 2000000 ∧ ∀ c ∈ q.cs, (Lit.int .i64 c.v).wf = true) (fun qs hq => bnd_fit SS.out.tb hq (by rw [SS.out.sl]; omega))
      have XS := Lib.hid (p := X < ws.heap.size) (blk_lt HS.out)
      go_upto_region 9 with (go_at_call 14; refine (KB.out ws ps SS.out).mono ?_; rintro e w6 ⟨la, lm, lc, rfl, q6, hR, hQ, hb⟩; have R6 := Lib.hid hR; have Q6 := Lib.hid hQ; have S6 := Lib.hid (SS.out.below hb); have H6 := Lib.hid ((hb.block X XS.out).trans HS.out); have E6 := Lib.hid (ES.out.trans (hb.mono ES.out.size)); obtain ⟨x2, x3, _, _⟩ := box_all2 H6.out; clear hR hQ hb)
      have X6 := Lib.hid (p := X < w6.heap.size) (blk_lt H6.out)
      clear x0 x1
      go_upto_region 10 with (go_at_call 16; refine (KRB.out w6 ps S6.out).mono ?_; rintro e w7 ⟨ka, km, kc', rfl, q7, hR, hQ, hb⟩; have R7 := Lib.hid hR; have Q7 := Lib.hid hQ; have L7 := Lib.hid (R6.out.below hb); have S7 := Lib.hid (S6.out.below hb); have H7 := Lib.hid ((hb.block X X6.out).trans H6.out); have E7 := Lib.hid (E6.out.trans (hb.mono E6.out.size)); obtain ⟨x4, x5, _, _⟩ := box_all2 H7.out; clear hR hQ hb)
      have X7 := Lib.hid (p := X < w7.heap.size) (blk_lt H7.out)
      clear x2 x3
      go_upto_region 11 with (go_at_call 15; refine (KC.out w7 ps i (by omega) S7.out).mono ?_; rintro e w8 ⟨u8, rfl, hI, hb⟩; obtain ⟨ua, ul, uc, uq, va, vl, vc, vq⟩ := u8; have I8 := Lib.hid hI; have D8 := Lib.hid (hb.trans ((below_al w8 (.cells #[.slice ua ul uc, .slice va vl vc] 25)).mono hb.size)); have A8 := Lib.hid (below_al w8 (.cells #[.slice ua ul uc, .slice va vl vc] 25)); clear hI hb)
      have S8 := Lib.hid (S7.out.below D8.out)
      have H8 := Lib.hid ((D8.out.block X X7.out).trans H7.out)
      have E8 := Lib.hid (E7.out.trans (D8.out.mono E7.out.size))
      have HT8 := Lib.hid (World.alloc_heap_new w8 (.cells #[.slice ua ul uc, .slice va vl vc] 25))
      obtain ⟨x6, x7, _, _⟩ := box_all2 H8.out
      clear x4 x5
      go_upto_region 12 with (go_at_call 17; refine (KRC.out _ ps i (by omega) S8.out).mono ?_; rintro e w9 ⟨u9, rfl, hI, hb⟩; obtain ⟨ya, yl, yc, yq, za, zl, zc, zq⟩ := u9; have I9 := Lib.hid hI; have D9 := Lib.hid (hb.trans ((below_al w9 (.cells #[.slice ya yl yc, .slice za zl zc] 25)).mono hb.size)); have A9 := Lib.hid (below_al w9 (.cells #[.slice ya yl yc, .slice za zl zc] 25)); clear hI hb)
      have E9 := Lib.hid (E8.out.trans (D9.out.mono E8.out.size))
      obtain ⟨f1, f2⟩ := FT.out q6 Q6.out
      obtain ⟨g1, g2⟩ := FT.out q7 Q7.out
      have B79 := Lib.hid (D8.out.trans (D9.out.mono D8.out.size))
      obtain ⟨el, rl, _⟩ := (rwo_rwa L7.out (fun q hq => (f2 q hq).1)).rl f1 (fun q hq => by have := (f2 q hq).1; omega) (fun q hq => (f2 q hq).2)
      obtain ⟨ek, rk, _⟩ := R7.out.rl g1 (fun q hq => by have := (g2 q hq).1; omega) (fun q hq => (g2 q hq).2)
      have elk : km = lm := by
        have := congrArg List.length (Q6.out.trans Q7.out.symm)
        simp at this
        omega
      subst elk
      have KS := Lib.hid (sameRows_any la ka km lc kc' q6 q7 _ (rl.later B79.out) (rk.later B79.out) (Q6.out.trans Q7.out.symm))
      have I8b := Lib.hid (I8.out.later (A8.out.trans (D9.out.mono A8.out.size)))
      have I9b := Lib.hid (I9.out.later A9.out)
      have BXs := Lib.hid (p := ∀ W, Below (w9.alloc (.cells #[.slice ya yl yc, .slice za zl zc] 25)).heap.size (w9.alloc (.cells #[.slice ya yl yc, .slice za zl zc] 25)) W → (W.cell? ⟨w8.heap.size, 0, none⟩ = some (.slice ua ul uc) ∧ W.cell? ⟨w8.heap.size, 1, none⟩ = some (.slice va vl vc)) ∧ W.cell? ⟨w9.heap.size, 0, none⟩ = some (.slice ya yl yc) ∧ W.cell? ⟨w9.heap.size, 1, none⟩ = some (.slice za zl zc)) (fun W q => by
        have t1 := (D9.out.block _ (blk_lt HT8.out)).trans HT8.out
        have t2 := World.alloc_heap_new w9 (.cells #[.slice ya yl yc, .slice za zl zc] 25)
        obtain ⟨m0, m1, _, _⟩ := box_all2 ((q.block _ (blk_lt t1)).trans t1)
        obtain ⟨m2, m3, _, _⟩ := box_all2 ((q.block _ (blk_lt t2)).trans t2)
        exact ⟨⟨m0, m1⟩, m2, m3⟩)
      have KT := Lib.hid (fun (W : World) (q : Below (w9.alloc (.cells #[.slice ya yl yc, .slice za zl zc] 25)).heap.size (w9.alloc (.cells #[.slice ya yl yc, .slice za zl zc] 25)) W) => sameT_any ⟨ua, ul, uc, uq, va, vl, vc, vq⟩ ⟨ya, yl, yc, yq, za, zl, zc, zq⟩ _ _ W (I8b.out.later q) (I9b.out.later q))
      simp only [Tb.val] at KT
      clear f1 f2 g1 g2 el rl ek rk x6 x7
      go_wp2_with (first
        | (go_at_call 18; refine KS.out.mono ?_; rintro e wa ⟨rfl, qa, hqa⟩; have Ba := Lib.hid (p := Below (w9.alloc (.cells #[.slice ya yl yc, .slice za zl zc] 25)).heap.size (w9.alloc (.cells #[.slice ya yl yc, .slice za zl zc] 25)) wa) (by rw [hqa]; exact drewN_below _ qa); obtain ⟨⟨m0, m1⟩, m2, m3⟩ := BXs.out _ Ba.out; have Ea := Lib.hid (E9.out.trans (Ba.out.mono E9.out.size)); clear hqa)
        | (go_at_call 19; refine (KT.out _ Ba.out).mono ?_; rintro e wb ⟨rfl, hb⟩; have Eb := Lib.hid (Ea.out.trans (hb.mono Ea.out.size)); clear hb))
      go_ret
      exact ⟨rfl, Eb.out⟩
end Go.Proofs.YtglgdfgdfkeogaaDoor

namespace Go.Proofs.YtglgdfgdfkeogaaDoor
open Go.RowKit
set_option linter.unusedVariables false
set_option linter.unusedSimpArgs false

theorem AqL.later {w w' : World} {a : Option Addr} {n : Nat} {xs : List Aq} (h : AqL w a n xs) (b : Below w.heap.size w w') : AqL w' a n xs := by
  obtain ⟨h1, h2, h3, h4⟩ := h
  refine ⟨h1, h2, fun x hx => (h3 x hx).later b, ?_⟩
  rcases h4 with h4 | ⟨z, o, e, hz, hc⟩
  · exact .inl h4
  · exact .inr ⟨z, o, e, Nat.lt_of_lt_of_le hz b.size, fun i hi => ⟨(b.cell (p := ⟨z, o + i * 3, none⟩) hz).trans (hc i hi).1, (b.cell (p := ⟨z, o + i * 3 + 1, none⟩) hz).trans (hc i hi).2.1, (b.cell (p := ⟨z, o + i * 3 + 2, none⟩) hz).trans (hc i hi).2.2⟩⟩
/-- What the laws are given. -/
structure AskG (w : World) (ta tb : Tb) (sa : Option Addr) (sl : Nat) (xs : List Aq) : Prop where
  a : TbOk w ta
  b : TbOk w tb
  s : AqL w sa sl xs
  bh : Bh w
  ot : Ot w
  ol : 1 < w.heap.size
  sm : ta.ln ≤ 1048576
theorem AskG.later {w w' : World} {ta tb : Tb} {sa : Option Addr} {sl : Nat} {xs : List Aq} (h : AskG w ta tb sa sl xs) (q : Below w.heap.size w w') : AskG w' ta tb sa sl xs :=
  ⟨h.a.later q, h.b.later q, h.s.later q, h.bh.later q, ⟨(q.cell (p := ⟨1, 0, none⟩) h.ol).trans h.ot.1, (q.cell (p := ⟨1, 1, none⟩) h.ol).trans h.ot.2⟩, Nat.lt_of_lt_of_le h.ol q.size, h.sm⟩
set_option maxRecDepth 100000 in
set_option maxHeartbeats 4000000 in
theorem asks_any (lo hi : Int) (KA : AskK lo hi) (ta tb : Tb) (sa : Option Addr) (sl sc : Nat) (xs : List Aq) (w : World) (h : AskG w ta tb sa sl xs) :
    Calls Tryd.prog 6 #[ta.val, tb.val, .slice sa sl sc, .int .i64 lo, .int .i64 hi] w fun e w' => e = .returned (.bool true) ∧ Below w.heap.size w w' := by
  have hB0 := two_boxes w (.slice ta.an ta.ln ta.cn) (.slice ta.ar ta.lr ta.cr) (.slice tb.an tb.ln tb.cn) (.slice tb.ar tb.lr tb.cr) 25
  have B0 := Lib.hid hB0
  have CE := Lib.hid (fun W (q : Below ((w.alloc (.cells #[.slice ta.an ta.ln ta.cn, .slice ta.ar ta.lr ta.cr] 25)).alloc (.cells #[.slice tb.an tb.ln tb.cn, .slice tb.ar tb.lr tb.cr] 25)).heap.size ((w.alloc (.cells #[.slice ta.an ta.ln ta.cn, .slice ta.ar ta.lr ta.cr] 25)).alloc (.cells #[.slice tb.an tb.ln tb.cn, .slice tb.ar tb.lr tb.cr] 25)) W) => two_cells q)
  have h1 := h.later hB0
  obtain ⟨w1, hw1⟩ : ∃ u, (w.alloc (.cells #[.slice ta.an ta.ln ta.cn, .slice ta.ar ta.lr ta.cr] 25)).alloc (.cells #[.slice tb.an tb.ln tb.cn, .slice tb.ar tb.lr tb.cr] 25) = u := ⟨_, rfl⟩
  rw [hw1] at h1 B0 CE
  have KP := Lib.hid (p := ∀ (late : Bool) (W : World), Below w1.heap.size w1 W → Calls Tryd.prog 7 #[ta.val, tb.val, .slice sa sl sc, .int .i64 lo, .int .i64 hi, .pointer (some ⟨W.heap.size, 0, none⟩)] (W.alloc (.cells (newB late).toArray 36)) fun e w' => e = .returned (.bool true) ∧ Below w1.heap.size w1 w') (fun late W q => pass_any lo hi KA ta tb sa sl sc xs late W.heap.size w1 _ (q.trans ((below_al W _).mono q.size)) q.size (World.alloc_heap_new W _) h1.a h1.b h1.s h1.bh h1.ot h1.ol)
  have KT := Lib.hid (fun (W : World) (q : Below w1.heap.size w1 W) => turned_any ta W (h1.a.later q) (h1.bh.later q) h1.sm)
  obtain ⟨an, ln, cn, tss, ar, lr, cr, trs⟩ := ta
  obtain ⟨bn, mn, dn, uss, br, mr, dr, urs⟩ := tb
  obtain ⟨q0, q1⟩ := CE.out _ (Below.refl _ _)
  obtain ⟨a0, a1, _, _⟩ := box_all2 q0
  obtain ⟨b0, b1, _, _⟩ := box_all2 q1
  clear h h1 hB0 KA q0 q1
  simp only [Tb.val] at *
  have K1 := Lib.hid (p := Calls Tryd.prog 7 #[.agg #[.slice an ln cn, .slice ar lr cr], .agg #[.slice bn mn dn, .slice br mr dr], .slice sa sl sc, .int .i64 lo, .int .i64 hi, .pointer (some ⟨w.heap.size + 1 + 1, 0, none⟩)] (w1.alloc (.cells (newB false).toArray 36)) fun e w' => e = .returned (.bool true) ∧ Below w1.heap.size w1 w') (by
    have := KP.out false w1 (Below.refl _ _)
    rwa [show w1.heap.size = w.heap.size + 1 + 1 by rw [← hw1]; simp only [World.size_alloc]] at this ⊢)
  have K2 := Lib.hid (KP.out true)
  clear KP
  rw [show (newB false).toArray = #[Value.slice none 0 0, Value.slice none 0 0, Value.slice none 0 0, Value.slice none 0 0, Value.slice none 0 0, Value.slice none 0 0, Value.slice none 0 0, Value.slice none 0 0, Value.slice none 0 0, Value.slice none 0 0, Value.slice none 0 0, Value.int .i64 0, Value.bool false, Value.slice none 0 0, Value.slice none 0 0, Value.slice none 0 0, Value.slice none 0 0, Value.slice none 0 0, Value.slice none 0 0] from rfl] at K1
  rw [show (newB true).toArray = #[Value.slice none 0 0, Value.slice none 0 0, Value.slice none 0 0, Value.slice none 0 0, Value.slice none 0 0, Value.slice none 0 0, Value.slice none 0 0, Value.slice none 0 0, Value.slice none 0 0, Value.slice none 0 0, Value.slice none 0 0, Value.int .i64 0, Value.bool true, Value.slice none 0 0, Value.slice none 0 0, Value.slice none 0 0, Value.slice none 0 0, Value.slice none 0 0, Value.slice none 0 0] from rfl] at K2
  subst hw1
  go_enter Tryd.func6, Tryd.ntmps6
  go_wp2_with (first
    | (go_at_call 7; have mk := K1; refine K1.out.mono ?_; rintro e w2 ⟨rfl, hb⟩; have D2 := Lib.hid hb; obtain ⟨q0, q1⟩ := CE.out _ hb; obtain ⟨a2, a3, _, _⟩ := box_all2 q0; obtain ⟨b2, b3, _, _⟩ := box_all2 q1; clear K1 mk hb q0 q1)
    | (go_at_call 7; refine (K2.out w2 D2.out).mono ?_; rintro e w3 ⟨rfl, hb⟩; have D3 := Lib.hid hb; obtain ⟨q0, q1⟩ := CE.out _ hb; obtain ⟨a4, a5, _, _⟩ := box_all2 q0; clear hb q0 q1)
    | (go_at_call 8; refine (KT.out w3 D3.out).mono ?_; rintro e w4 ⟨rfl, hb⟩; have D4 := Lib.hid (B0.out.trans ((D3.out.trans (hb.mono D3.out.size)).mono B0.out.size)); clear hb))
  go_ret
  exact ⟨rfl, D4.out⟩
set_option maxRecDepth 100000 in
theorem tableBinds_any (ta tb : Tb) (sa : Option Addr) (sl sc : Nat) (xs : List Aq) (w : World) (h : AskG w ta tb sa sl xs) :
    Calls Tryd.prog 3 #[ta.val, tb.val, .slice sa sl sc] w fun e w' => e = .returned (.bool true) ∧ Below w.heap.size w w' := by
  have hB0 := two_boxes w (.slice ta.an ta.ln ta.cn) (.slice ta.ar ta.lr ta.cr) (.slice tb.an tb.ln tb.cn) (.slice tb.ar tb.lr tb.cr) 25
  have B0 := Lib.hid hB0
  have K := Lib.hid (asks_any 1 2 askK_binds ta tb sa sl sc xs _ (h.later hB0))
  obtain ⟨q0, q1⟩ := two_cells (Below.refl _ ((w.alloc (.cells #[.slice ta.an ta.ln ta.cn, .slice ta.ar ta.lr ta.cr] 25)).alloc (.cells #[.slice tb.an tb.ln tb.cn, .slice tb.ar tb.lr tb.cr] 25)))
  obtain ⟨a0, a1, _, _⟩ := box_all2 q0
  obtain ⟨b0, b1, _, _⟩ := box_all2 q1
  obtain ⟨an, ln, cn, tss, ar, lr, cr, trs⟩ := ta
  obtain ⟨bn, mn, dn, uss, br, mr, dr, urs⟩ := tb
  clear h hB0 q0 q1
  simp only [Tb.val] at *
  go_enter Tryd.func3, Tryd.ntmps3
  go_wp2_with (go_at_call 6; refine K.out.mono ?_; rintro e w2 ⟨rfl, hb⟩; have D2 := Lib.hid (B0.out.trans (hb.mono B0.out.size)); clear hb)
  go_ret
  exact ⟨rfl, D2.out⟩
end Go.Proofs.YtglgdfgdfkeogaaDoor

namespace Go.Proofs.YtglgdfgdfkeogaaDoor
open Go.ChangeShapes Go.WideShapes Go.ChangeAt Go.RowKit Go.Deep
set_option linter.unusedVariables false

theorem ot_of_laid {w : World} {rest : List (String × DataW Unit)} (h : laidMet Tryd.prog (("payoff/payofflaw05.other", .agg [.lit (.bool true), .lit (.int .i64 99)]) :: rest) w) : Ot w ∧ 1 < w.heap.size := by
  have hg : Tryd.prog.globalNamed "payoff/payofflaw05.other" = some 1 := by kernel_rfl
  have hty : (Tryd.prog.globals[1]?).map (·.type) = some 53 := by kernel_rfl
  obtain ⟨ps, ⟨g', t', cs, fuel, p, q, hg', ht', hvar, hd, _, _⟩, _⟩ := h
  obtain rfl := Option.some.inj (hg.symm.trans hg')
  obtain rfl := Option.some.inj (hty.symm.trans ht')
  have e := trod_cl2 (bt := 4) (e := 3) Tryd.underlying53 rfl Tryd.underlying4 Tryd.underlying3 (by kernel_rfl) (by kernel_rfl) (by kernel_rfl) hd
  have c0 := World.var?_cell hg hvar 0
  have c1 := World.var?_cell hg hvar 1
  obtain ⟨l⟩ := cs
  simp at e
  subst e
  simp at c0 c1
  exact ⟨⟨c0, c1⟩, (addr_of c0).elim fun b hb => by obtain ⟨o, e, hlt⟩ := hb; injection e with e1; rw [e1]; exact hlt⟩
theorem askG_of {w : World} {ta tb : Tb} {sa : Option Addr} {sl : Nat} {xs : List Aq} (h0 : TbOk w ta) (h1 : TbOk w tb) (h2 : AqL w sa sl xs) (u0 : ta.ln ≤ 1048576) (bh : Bh w) (ot : Ot w ∧ 1 < w.heap.size) : AskG w ta tb sa sl xs := ⟨h0, h1, h2, bh, ot.1, ot.2, u0⟩
end Go.Proofs.YtglgdfgdfkeogaaDoor
