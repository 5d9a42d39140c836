import Derived.Test.YtpfjnnkjoabgbaaGreatDoorXBN
namespace Go.Proofs.YtpfjnnkjoabgbaaGreatDoor
open Go.RowKit
set_option linter.unusedVariables false
set_option linter.unusedSimpArgs false
/-- Three cells of a block are stored. -/
theorem set3 {W : World} {b : Nat} {t : TypeId} {c0 c1 c2 : Value} (h : BkP W b #[c0, c1, c2] t) (v0 v1 v2 : Value) : BkP (((W.setCell ⟨b, 0, none⟩ v0).setCell ⟨b, 1, none⟩ v1).setCell ⟨b, 2, none⟩ v2) b #[v0, v1, v2] t := by
  have := ((h.set2 0 v0 (by simp)).set2 1 v1 (by simp)).set2 2 v2 (by simp)
  simpa using this
set_option maxRecDepth 100000 in
set_option maxHeartbeats 3200000 in
theorem run_any {w : World} {p : Pg} (h : PV w p) (hR : Rws w) (hU : Rul w) {ra : Option Addr} {rn rc : Nat} {rs : List Rw} (hr : RL w ra rn rs) : Calls Tryz.prog 10 #[p.agg, .slice ra rn rc] w fun e w' => RnE w p (rowsF rs) e w' := by
  obtain ⟨W0, hW0⟩ : ∃ W, (w.alloc p.box).alloc (.cells #[.slice none 0 0, .int .i64 0, .int .i64 0] 32) = W := ⟨_, rfl⟩
  have B0 : Below w.heap.size w W0 := by rw [← hW0]; exact (allocBP w p.box).trans ((allocBP (w.alloc p.box) _).mono (by simp))
  have Z0 : BkP W0 (w.heap.size + 1) #[.slice none 0 0, .int .i64 0, .int .i64 0] 32 := by
    rw [← hW0]
    have := heapN (w.alloc p.box) (.cells #[.slice none 0 0, .int .i64 0, .int .i64 0] 32)
    rw [show (w.alloc p.box).heap.size = w.heap.size + 1 by simp] at this
    exact this
  have S0 : W0.heap.size = w.heap.size + 2 := by rw [← hW0]; simp
  have P0 : BkP W0 w.heap.size #[.slice p.na p.names.length p.nc, .slice p.ua p.curs.length p.uc, .slice p.pa p.pool.length p.pc, .int .i64 p.hor, .int .i64 p.cells, .int .i64 p.slots, .int .i64 p.stack, .slice p.da p.days.length p.dc] 26 := by rw [← hW0]; exact BkP.lat (heapN w p.box) (allocBP _ _)
  have KN := Lib.hid (new_any (h.later B0) (hR.below B0) (hU.lat B0))
  obtain ⟨a0, a1, a2, a3, a4, a5, a6, a7⟩ := box_all8 P0
  have HW := Lib.hid hW0
  by_cases hv : (vfyA p).1 = 0
  · have KN2 := Lib.hid (p := Calls Tryz.prog 12 #[p.agg] W0 fun e w' => ∃ mb p' cev D, e = .returned (.tuple #[.pointer (some ⟨mb, 0, none⟩), .int .i64 0]) ∧ RowKit.Hid (p'.key = p.key ∧ RnI w w'.heap.size mb w'.heap.size p' cev D (rowsF rs) 0 none 0 0 (w'.alloc (.cells #[.slice none 0 0, .int .i64 0, .int .i64 0] 32)))) (KN.out.mono (fun e w' q => by
      obtain ⟨mb, p', cev, D, rfl, k, m, g1, g2, g3⟩ := q.ok hv
      have al := allocBP w' (.cells #[.slice none 0 0, .int .i64 0, .int .i64 0] 32)
      have bw := B0.trans (q.bel.mono B0.size)
      have sz := q.bel.size
      refine ⟨mb, p', cev, D, rfl, k, ⟨bw.trans (al.mono bw.size), ⟨.slice none 0 0, m.lat al, fun g hg => by simp [Value.ownBlock] at hg⟩, (Z0.lat q.bel).lat al, heapN _ _, World.ownsRow_nil _ _ _ _, by omega, fun g hg => by have := g2 g hg; omega, m.dl, ⟨Nat.le_refl _, by omega, by omega, al.size⟩⟩⟩))
    have FE := Lib.hid (p := ∀ p', p'.key = p.key → ∀ N mb ob cev D d fa fn fc W, RnI w N mb ob p' cev D (rowsF rs) d fa fn fc W → (runMs p' (vfyA p').2.2.2.back (rowsF rs) d p'.born).1.over p'.hor → (d : Int) ≤ p'.hor + 1 → ∀ V, Below w.heap.size w V → (∀ g, Value.ownBlock (.slice fa fn fc) = some g → V.heap[g]? = W.heap[g]?) → RnE w p (rowsF rs) (.returned (.tuple #[.agg #[.slice fa fn fc, .int .i64 (runMs p' (vfyA p').2.2.2.back (rowsF rs) d p'.born).1.fault, .int .i64 (runMs p' (vfyA p').2.2.2.back (rowsF rs) d p'.born).1.day], .int .i64 0])) V) (fun p' k N mb ob cev D d fa fn fc W ri ov dl V bV kV => by
      have ev := vfyA_keyM k
      have eb := born_keyM k
      have eh : p'.hor = p.hor := congrArg (fun k => k.2.2.2.1) k
      have last := runMs_last ov (by omega)
      have er : runMs p' (vfyA p').2.2.2.back (rowsF rs) d p'.born = runMs p (vfyA p).2.2.2.back (rowsF rs) (p.hor + 1).toNat p.born := by
        rw [← last, ev, eb, eh]
        exact runMs_keyM k _ _ _ _
      have fl := ri.fl
      rw [er] at fl ⊢
      exact ⟨bV, fun z => absurd hv z, fun _ => ⟨fa, fn, fc, rfl, ownsRow_base (own_blkG fl kV) ri.go.2.2.1⟩⟩)
    have RR := Lib.hid (p := ∀ V, Below w.heap.size w V → RL V ra rn rs) (fun V b => hr.later b)
    have HV := Lib.hid (p := ∀ p', p'.key = p.key → (vfyA p').1 = 0) (fun p' k => by rw [vfyA_keyM k]; exact hv)
    unfold Pg.agg Pg.box at *
    obtain ⟨na, nc, names, ua, uc, curs, pa, pc, pool, hor, cells, slots, stack, da, dc, days⟩ := p
    simp only at *
    clear B0 h hR hU hr hW0 S0 Z0 P0 KN hv
    go_enter Tryz.func10, Tryz.ntmps10
    go_wp2_with fail
    go_at_call 12
    rw [HW.out]
    refine KN2.out.mono ?_
    rintro e w1 ⟨mb, p', cev, D, rfl, hk⟩
    have HK := Lib.hid hk.out.1
    have R0 := Lib.hid hk.out.2
    have hv := HV.out p' HK.out
    have FE2 := Lib.hid (FE.out p' HK.out)
    clear hk KN2 HV FE a0 a1 a2 a3 a4 a5 a6 a7 HW
    go_wp2
    obtain ⟨_, _, _, n4, n5, _⟩ := nds_of hv
    have HV := Lib.hid hv
    clear hv
    go_loopw [9] (fun t wr => ∃ (d : Nat) (fa : Option Addr) (fn fc : Nat), t = .int .i64 (d : Int) ∧ (d : Int) ≤ p'.hor + 1 ∧ RowKit.Hid (RnI w w1.heap.size mb w1.heap.size p' cev D (rowsF rs) d fa fn fc wr)) (fun t _ => (p'.hor + 2).toNat - (intOf t).toNat)
    case atStart => exact ⟨0, none, 0, 0, rfl, by omega, R0.out⟩
    case round =>
      clear R0
      rename World => wr
      obtain ⟨d, fa, fn, fc, rfl, hd, hI⟩ := hrel
      have ri := hI.out
      obtain ⟨pav, m, gp⟩ := ri.mc
      have KO := Lib.hid (over_any m.box)
      by_cases ov : (runMs p' (vfyA p').2.2.2.back (rowsF rs) d p'.born).1.over p'.hor
      · rw [decide_eq_true ov] at KO
        have FF := Lib.hid (FE2.out w1.heap.size mb w1.heap.size cev D d fa fn fc)
        clear hI m
        go_wp2_with fail
        go_at_call 15
        refine KO.out.mono ?_
        rintro e w4 ⟨rfl, b4⟩
        have ri4 := ri.lat b4
        obtain ⟨pav4, m4, _⟩ := ri4.mc
        obtain ⟨_, _, _, _, _, _, _, c15, c16⟩ := mach_over m4.box
        obtain ⟨o0, o1, o2⟩ := box_all3P ri4.obx
        obtain ⟨z0, z1, z2⟩ := box_all3P ri4.zb
        have f1 := ri4.obx.frozen 1
        have f2 := ri4.obx.frozen 2
        have g0 := ri4.zb.frozen 0
        have g1 := ri4.zb.frozen 1
        have g2 := ri4.zb.frozen 2
        have ne1 : ¬ mb = w1.heap.size := bk_ne m4.box ri4.obx (by decide)
        have ne2 : ¬ w1.heap.size = mb := fun z => ne1 z.symm
        have ne3 : ¬ w1.heap.size = w.heap.size + 1 := by have := ri4.go.2.1; omega
        have ne4 : ¬ w.heap.size + 1 = w1.heap.size := fun z => ne3 z.symm
        have FX := Lib.hid (fun V bV kV => FF.out w4 ri4 ov hd V bV kV)
        have HR4 := Lib.hid ri4
        have NB := Lib.hid (p := ∀ g, Value.ownBlock (.slice fa fn fc) = some g → g ≠ w1.heap.size ∧ g ≠ w.heap.size + 1) (fun g hg => ⟨fun z => own_neB ri4.fl ri4.obx (by decide) (by rw [hg, z]), fun z => own_neB ri4.fl ri4.zb (by decide) (by rw [hg, z])⟩)
        have BL := Lib.hid (p := Below w.heap.size w w4 ∧ w.heap.size ≤ w1.heap.size) ⟨ri4.bel, by have := ri4.go.2.1; omega⟩
        generalize (runMs p' (vfyA p').2.2.2.back (rowsF rs) d p'.born).1.fault = ft at *
        generalize (runMs p' (vfyA p').2.2.2.back (rowsF rs) d p'.born).1.day = dy at *
        clear ri ri4 m4 KO FF FE2 b4 RR
        go_wp2
        go_region
        all_goals
          go_wp2
          refine bodyPost_ret (v := .tuple #[.agg #[.slice fa fn fc, .int .i64 ft, .int .i64 dy], .int .i64 0]) ?r rfl ?s
          case r => simp [results, Tryz.results10, go_sem, z0, z1, z2, ne1, ne2, ne3, ne4, g0, g1, g2]
          case s =>
            refine FX.out _ ?_ ?_
            · exact ((((BL.out.1.setCell (by exact BL.out.2) _).setCell (by exact BL.out.2) _).setCell (by exact Nat.le_succ _) _).setCell (by exact Nat.le_succ _) _).setCell (by exact Nat.le_succ _) _ |>.trans (drew1B2 _ _)
            · intro g hg
              obtain ⟨q1, q2⟩ := NB.out g hg
              show ((((((w4.setCell _ _).setCell _ _).setCell _ _).setCell _ _).setCell _ _)).heap[g]? = _
              rw [bk_block q2, bk_block q2, bk_block q2, bk_block q1, bk_block q1]
      · have td := (runMs_today (a := rowsF rs) (p := p') (back := (vfyA p').2.2.2.back) d).2 ov
        have dh : (d : Int) ≤ p'.hor := by unfold Ms.over at ov; omega
        rw [decide_eq_false ov] at KO
        have ks : IntKind.i64.wrap ((d : Int) + 1) = (d : Int) + 1 := by simp [IntKind.wrap, IntKind.bits, IntKind.signed]; omega
        clear hI m gp
        go_wp2_with fail
        go_at_call 15
        refine KO.out.mono ?_
        rintro e w4 ⟨rfl, b4⟩
        have ri4 := ri.lat b4
        obtain ⟨pav4, m4, gp4⟩ := ri4.mc
        have rl := RR.out w4 ri4.bel
        have L1 := Lib.hid (runMs_fll HV.out (vfyA p').2.2.2.back (rowsF rs) p'.born (n := d) (by omega))
        have L2 := Lib.hid (dayFl_len HV.out (runMs p' (vfyA p').2.2.2.back (rowsF rs) d p'.born).1 (rowsF rs d))
        clear KO b4 ri
        by_cases hlt : d < rn
        · have rc4 : RC w4 (rs.getD d default).a (rs.getD d default).n (rowsF rs d) := (rl.2.2.1 _ (by simp [List.getD, rl.1, hlt])).1
          have kc : (d : Int) < (rn : Int) := by omega
          have k0 : ¬ (d : Int) < 0 := by omega
          obtain ⟨x, o, hra, hx, hc⟩ : ∃ b o, ra = some ⟨b, o, none⟩ ∧ b < w4.heap.size ∧ ∀ i, i < rn → w4.cell? ⟨b, o + i, none⟩ = some (.slice (rs.getD i default).a (rs.getD i default).n (rs.getD i default).cap) := by
            rcases rl.2.2.2 with q | q
            · omega
            · exact q
          have c0 := hc d hlt
          have KD := Lib.hid (day_any (cap := (rs.getD d default).cap) m4 HV.out ov rc4)
          have DD := Lib.hid (fun e W' (q : DyE D w4 mb p' (vfyA p').2.2.2 cev pav4 (runMs p' (vfyA p').2.2.2.back (rowsF rs) d p'.born).1 (rowsF rs d) e W') => ri4.day m4 gp4 ov q)
          generalize rs.getD d default = rw0 at *
          obtain ⟨ra0, rn0, rc0, rcs⟩ := rw0
          simp only at c0 KD
          subst hra
          clear ri4 m4 rl rc4 hc
          have TL := Lib.hid (p := ∀ flv W, RnD w w1.heap.size mb w1.heap.size p' cev D (rowsF rs) d fa fn fc flv W → ∀ a' n' c' W', W.grownBy W' (Value.ownBlock (.slice fa fn fc)) → OwF W' w1.heap.size (.slice a' n' c') ((runMs p' (vfyA p').2.2.2.back (rowsF rs) d p'.born).2 ++ dayFl p' (runMs p' (vfyA p').2.2.2.back (rowsF rs) d p'.born).1 (rowsF rs d)) → W'.cell? ⟨w1.heap.size, 0, none⟩ = some (.slice fa fn fc) ∧ W'.frozen? ⟨w1.heap.size, 0, none⟩ = false ∧ RowKit.Hid (RnI w w1.heap.size mb w1.heap.size p' cev D (rowsF rs) (d + 1) a' n' c' (W'.setCell ⟨w1.heap.size, 0, none⟩ (.slice a' n' c')))) (fun flv W q a' n' c' W' g o => q.next ov g o)
          go_wp2_with (first
            | (go_at_call 16; refine KD.out.mono ?_; intro e w5 hq; obtain ⟨flv, ff, rfl, rd⟩ := DD.out e w5 hq; have RD := Lib.hid rd; have o0 := (box_all3P rd.obx).1; clear rd hq)
            | (at_builtin; refine wp_flws w5 rfl _ _ rfl w1.heap.size 0 (.slice fa fn fc) flv _ _ rfl rfl RD.out.fl RD.out.nf (by have := L1.out; have := L2.out; omega) RD.out.go.2.2.2 ?_; intro a6 n6 c6 w6 q1 q2; obtain ⟨y0, y1, y2⟩ := TL.out flv w5 RD.out _ _ _ w6 q2 q1; clear q1 q2))
          refine ⟨⟨d + 1, _, _, _, by simp, by omega, y2⟩, ?_⟩
          simp [intOf]
          omega
        · have kc : ¬ (d : Int) < (rn : Int) := by omega
          have e0 : rowsF rs d = [] := by
            unfold rowsF
            simp only [List.getD, List.getElem?_eq_none (by rw [rl.1]; omega : rs.length ≤ d)]
            rfl
          have rc4 : RC w4 none 0 (rowsF rs d) := by rw [e0]; exact ⟨rfl, by omega, by simp, .inl rfl⟩
          have KD := Lib.hid (day_any (cap := 0) m4 HV.out ov rc4)
          have DD := Lib.hid (fun e W' (q : DyE D w4 mb p' (vfyA p').2.2.2 cev pav4 (runMs p' (vfyA p').2.2.2.back (rowsF rs) d p'.born).1 (rowsF rs d) e W') => ri4.day m4 gp4 ov q)
          clear ri4 m4 rl rc4 e0
          have TL := Lib.hid (p := ∀ flv W, RnD w w1.heap.size mb w1.heap.size p' cev D (rowsF rs) d fa fn fc flv W → ∀ a' n' c' W', W.grownBy W' (Value.ownBlock (.slice fa fn fc)) → OwF W' w1.heap.size (.slice a' n' c') ((runMs p' (vfyA p').2.2.2.back (rowsF rs) d p'.born).2 ++ dayFl p' (runMs p' (vfyA p').2.2.2.back (rowsF rs) d p'.born).1 (rowsF rs d)) → W'.cell? ⟨w1.heap.size, 0, none⟩ = some (.slice fa fn fc) ∧ W'.frozen? ⟨w1.heap.size, 0, none⟩ = false ∧ RowKit.Hid (RnI w w1.heap.size mb w1.heap.size p' cev D (rowsF rs) (d + 1) a' n' c' (W'.setCell ⟨w1.heap.size, 0, none⟩ (.slice a' n' c')))) (fun flv W q a' n' c' W' g o => q.next ov g o)
          go_wp2_with (first
            | (go_at_call 16; refine KD.out.mono ?_; intro e w5 hq; obtain ⟨flv, ff, rfl, rd⟩ := DD.out e w5 hq; have RD := Lib.hid rd; have o0 := (box_all3P rd.obx).1; clear rd hq)
            | (at_builtin; refine wp_flws w5 rfl _ _ rfl w1.heap.size 0 (.slice fa fn fc) flv _ _ rfl rfl RD.out.fl RD.out.nf (by have := L1.out; have := L2.out; omega) RD.out.go.2.2.2 ?_; intro a6 n6 c6 w6 q1 q2; obtain ⟨y0, y1, y2⟩ := TL.out flv w5 RD.out _ _ _ w6 q2 q1; clear q1 q2))
          refine ⟨⟨d + 1, _, _, _, by simp, by omega, y2⟩, ?_⟩
          simp [intOf]
          omega
  · have KN2 := Lib.hid (p := Calls Tryz.prog 12 #[p.agg] W0 fun e w' => e = .returned (.tuple #[.pointer none, .int .i64 (vfyA p).1]) ∧ Below W0.heap.size W0 w') (KN.out.mono (fun e w' q => ⟨q.bad hv, q.bel⟩))
    have z : ((vfyA p).1 != 0) = true := by simpa using hv
    have FE := Lib.hid (p := ∀ V, Below w.heap.size w V → RnE w p (rowsF rs) (.returned (.tuple #[.agg #[.slice none 0 0, .int .i64 0, .int .i64 0], .int .i64 (vfyA p).1])) V) (fun V b => ⟨b, fun _ => rfl, fun z => absurd z hv⟩)
    have ZZ := Lib.hid (p := ∀ V, Below W0.heap.size W0 V → BkP V (w.heap.size + 1) #[.slice none 0 0, .int .i64 0, .int .i64 0] 32 ∧ Below w.heap.size w V) (fun V b => ⟨Z0.lat b, B0.trans (b.mono B0.size)⟩)
    generalize (vfyA p).1 = en at *
    unfold Pg.agg Pg.box at *
    obtain ⟨na, nc, names, ua, uc, curs, pa, pc, pool, hor, cells, slots, stack, da, dc, days⟩ := p
    simp only at *
    clear B0 h hR hU hr hW0 S0 Z0 P0 KN hv
    go_enter Tryz.func10, Tryz.ntmps10
    go_wp2_with fail
    go_at_call 12
    rw [HW.out]
    refine KN2.out.mono ?_
    rintro e w1 ⟨rfl, b1⟩
    obtain ⟨zz, bw⟩ := ZZ.out w1 b1
    obtain ⟨y0, y1, y2⟩ := box_all3P zz
    have f0 := zz.frozen 0
    have f1 := zz.frozen 1
    have f2 := zz.frozen 2
    have S1 := Lib.hid (set3 zz (.slice none 0 0) (.int .i64 0) (.int .i64 0))
    have BW := Lib.hid bw
    clear b1 zz bw
    go_wp2
    refine bodyPost_ret (v := .tuple #[.agg #[.slice none 0 0, .int .i64 0, .int .i64 0], .int .i64 en]) ?r rfl ?s
    case r => simp [results, Tryz.results10, go_sem, y0, y1, y2]
    case s => exact FE.out _ (((BW.out.setCell (by exact Nat.le_succ _) _).setCell (by exact Nat.le_succ _) _).setCell (by exact Nat.le_succ _) _)
end Go.Proofs.YtpfjnnkjoabgbaaGreatDoor

namespace Go.Proofs.YtpfjnnkjoabgbaaGreatDoor
open Go.RowKit
set_option linter.unusedVariables false
set_option linter.unusedSimpArgs false
def FCm (w : World) (b o : Nat) (f : Fl) : Prop := w.cell? ⟨b, o, none⟩ = some (.int .i64 f.d) ∧ w.cell? ⟨b, o + 1, none⟩ = some (.string f.c) ∧ w.cell? ⟨b, o + 2, none⟩ = some (.int .i64 f.a)
theorem FCm.later {w w' : World} {B b o : Nat} {f : Fl} (h : FCm w b o f) (hb : Below B w w') (hB : b < B) : FCm w' b o f :=
  ⟨(hb.cell (p := ⟨b, o, none⟩) hB).trans h.1, (hb.cell (p := ⟨b, o + 1, none⟩) hB).trans h.2.1, (hb.cell (p := ⟨b, o + 2, none⟩) hB).trans h.2.2⟩
/-- A list of flows, where it lies. -/
def FLm (w : World) (a : Option Addr) (n : Nat) (fs : List Fl) : Prop := fs.length = n ∧ (n = 0 ∨ ∃ b o, a = some ⟨b, o, none⟩ ∧ b < w.heap.size ∧ ∀ i, i < n → FCm w b (o + i * 3) (fs.getD i default))
theorem FLm.later {w w' : World} {a : Option Addr} {n : Nat} {fs : List Fl} (h : FLm w a n fs) (b : Below w.heap.size w w') : FLm w' a n fs := by
  obtain ⟨h1, h2⟩ := h
  refine ⟨h1, ?_⟩
  rcases h2 with h2 | ⟨x, o, rfl, hx, hc⟩
  · exact .inl h2
  · exact .inr ⟨x, o, rfl, Nat.lt_of_lt_of_le hx b.size, fun i hi => (hc i hi).later b hx⟩
theorem focs_at : ∀ (l : List Fl) (i : Nat), i < l.length → ∀ j, j < 3 → (focs l)[i * 3 + j]? = (fo3 (l.getD i default))[j]?
  | [], i, h, _, _ => by simp at h
  | g :: gs, 0, h, j, hj => by
    show (fo3 g ++ focs gs)[0 * 3 + j]? = _
    rw [Nat.zero_mul, Nat.zero_add, List.getElem?_append_left (by simp [fo3]; omega)]
    rfl
  | g :: gs, i + 1, h, j, hj => by
    have ih := focs_at gs i (by simpa using h) j hj
    show (fo3 g ++ focs gs)[(i + 1) * 3 + j]? = _
    rw [List.getElem?_append_right (by simp [fo3]; omega)]
    rw [show (i + 1) * 3 + j - (fo3 g).length = i * 3 + j by simp [fo3]; omega, ih]
    rfl
theorem owf_fl {w : World} {B : Nat} {a : Option Addr} {n c : Nat} {l : List Fl} (h : OwF w B (.slice a n c) l) : FLm w a n l := by
  rcases h.2 with ⟨e, h0⟩ | ⟨g, cap, cur, e, e2, e3, e4, e5, e6, e7⟩
  · injection e with e1 e2 e3
    subst e1 e2 e3
    exact ⟨h0, .inl rfl⟩
  · injection e with e1 en ec
    subst e1 en ec
    refine ⟨rfl, .inr ⟨g, 0, rfl, (Array.getElem?_eq_some_iff.1 e3).1, fun i hi => ?_⟩⟩
    have q : ∀ j, j < 3 → w.cell? ⟨g, 0 + i * 3 + j, none⟩ = (fo3 (l.getD i default))[j]? := by
      intro j hj
      have := focs_at l i hi j hj
      rw [← e7, List.getElem?_take_of_lt (by omega)] at this
      rw [← this, Nat.zero_add]
      simp [World.cell?, e3]
    exact ⟨q 0 (by omega), q 1 (by omega), q 2 (by omega)⟩
set_option maxRecDepth 100000 in
theorem sameFl_any (a b : Option Addr) (n c1 c2 : Nat) (fs : List Fl) (w : World) (h : FLm w a n fs) (h' : FLm w b n fs) (hn : n ≤ 4000000000000) :
    Calls Tryz.prog 18 #[.slice a n c1, .slice b n c2] w fun e w' => e = .returned (.bool true) ∧ Below w.heap.size w w' := by
  obtain ⟨h1, h3⟩ := h
  obtain ⟨_, h3'⟩ := h'
  rcases h3 with h3 | ⟨x, o, rfl, hx, hc⟩
  · subst h3
    go_enter Tryz.func18, Tryz.ntmps18
    go_wp2
    go_loopw [5] (fun t wr => t = .int .i64 0 ∧ wr = w) (fun t _ => 0)
    case atStart => exact ⟨rfl, rfl⟩
    case round =>
      obtain ⟨rfl, rfl⟩ := hrel
      go_wp2
      go_ret
      exact ⟨rfl, Below.refl _ _⟩
  · rcases h3' with h3' | ⟨y, p, rfl, hy, hd⟩
    · subst h3'
      go_enter Tryz.func18, Tryz.ntmps18
      go_wp2
      go_loopw [5] (fun t wr => t = .int .i64 0 ∧ wr = w) (fun t _ => 0)
      case atStart => exact ⟨rfl, rfl⟩
      case round =>
        obtain ⟨rfl, rfl⟩ := hrel
        go_wp2
        go_ret
        exact ⟨rfl, Below.refl _ _⟩
    · have HC := Lib.hid hc
      have HD := Lib.hid hd
      clear hc hd
      go_enter Tryz.func18, Tryz.ntmps18
      go_wp2
      go_loopw [5] (fun t wr => ∃ k : Nat, k ≤ n ∧ t = .int .i64 k ∧ Below w.heap.size w wr) (fun t _ => n - (intOf t).toNat)
      case atStart => exact ⟨0, by omega, rfl, Below.refl _ _⟩
      case round =>
        obtain ⟨k, hk, rfl, hB⟩ := hrel
        have BB := Lib.hid hB
        by_cases hlt : k < n
        · obtain ⟨c0, c1, c2⟩ := (HC.out k hlt).later hB hx
          obtain ⟨e0, e1, e2⟩ := (HD.out k hlt).later hB hy
          have kc : (k : Int) < (n : Int) := by omega
          generalize fs.getD k default = f at *
          obtain ⟨fd, fc, fa⟩ := f
          simp only at c0 c1 c2 e0 e1 e2
          clear hB
          go_wp2
          go_region
          all_goals
            go_wp2
            go_roundw
            case rel => exact ⟨k + 1, by omega, by go_num, BB.out.drew⟩
            case measure => simp [intOf]; omega
        · obtain rfl : k = n := by omega
          clear hB
          go_wp2
          go_ret
          exact ⟨rfl, BB.out⟩
set_option maxRecDepth 100000 in
theorem num15_any (e : Int) (w : World) : Calls Tryz.prog 14 #[.int .i64 e] w fun r w' => r = .returned (.int .i64 e) ∧ w' = w := by
  go_enter Tryz.func14, Tryz.ntmps14
  go_wp2
  go_ret
  exact ⟨rfl, rfl⟩
end Go.Proofs.YtpfjnnkjoabgbaaGreatDoor

namespace Go.Proofs.YtpfjnnkjoabgbaaGreatDoor
open Go.RowKit
set_option linter.unusedVariables false
set_option linter.unusedSimpArgs false
/-- The rows' cells. -/
theorem pa_cells {w : World} {a : Option Addr} {c : Nat} {past : List (List Cl)} {vs : List Value} (h : PaV w (.slice a past.length c) past vs) {k : Nat} (hk : k < past.length) : ∃ g o ra rz, a = some ⟨g, o, none⟩ ∧ g < w.heap.size ∧ w.cell? ⟨g, o + k, none⟩ = some (.slice ra (past.getD k []).length rz) ∧ RwV w (.slice ra (past.getD k []).length rz) (past.getD k []) := by
  rcases h.form with ⟨_, e⟩ | ⟨g, o, cap, cur, e, e2, _, _, _, hc⟩
  · rw [e] at hk; simp at hk
  · injection e with e1 _ e3
    subst e1
    obtain ⟨ra, rz, hv, _⟩ := h.rows k hk
    have r := h.rows k hk
    rw [hv] at r
    refine ⟨g, o, ra, rz, rfl, (Array.getElem?_eq_some_iff.1 e2).1, ?_, r⟩
    have := hc k hk
    rw [hv] at this
    simpa [World.cell?, e2] using this
end Go.Proofs.YtpfjnnkjoabgbaaGreatDoor
