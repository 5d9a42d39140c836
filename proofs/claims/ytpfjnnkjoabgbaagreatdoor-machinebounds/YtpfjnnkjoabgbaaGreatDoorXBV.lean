import Derived.Test.YtpfjnnkjoabgbaaGreatDoorXBU
namespace Go.Proofs.YtpfjnnkjoabgbaaGreatDoor
open Go.RowKit
set_option linter.unusedVariables false
set_option linter.unusedSimpArgs false
theorem fuel_tot {p : Pg} (h : (vfyA p).1 = 0) : (vfyA p).2.2.2.fuel = (totN p.days p.days.length : Int) := by
  obtain ⟨c, e⟩ := vfyA_canM h
  rw [e] at h ⊢
  obtain ⟨v1, v2, v3⟩ := vfy_ok h
  rw [v3]
  exact all_fuel _ (Nat.le_refl _) v1
set_option maxRecDepth 100000 in
set_option maxHeartbeats 6400000 in
theorem machineBounds_any {w : World} {p : Pg} (h : PV w p) (hR : Rws w) (hU : Rul w) {ra : Option Addr} {rn rc : Nat} {rs : List Rw} (hr : RL w ra rn rs) {ha : Option Addr} {hn hc : Nat} {hs : List Bool} (hh : Hop w ha hn hs) (hl : hn ≤ maxLen) : Calls Tryz.prog 6 #[p.agg, .slice ra rn rc, .slice ha hn hc] w fun e w' => e = .returned (.bool true) ∧ Below w.heap.size w w' := by
  obtain ⟨W0, hW0⟩ : ∃ W, w.alloc p.box = W := ⟨_, rfl⟩
  have B0 : Below w.heap.size w W0 := by rw [← hW0]; exact allocBP w p.box
  have P0 : BkP W0 w.heap.size #[.slice p.na p.names.length p.nc, .slice p.ua p.curs.length p.uc, .slice p.pa p.pool.length p.pc, .int .i64 p.hor, .int .i64 p.cells, .int .i64 p.slots, .int .i64 p.stack, .slice p.da p.days.length p.dc] 26 := by rw [← hW0]; exact heapN w p.box
  have KP := Lib.hid (plain15_any (hR.below B0) (hU.lat B0))
  have CL := Lib.hid (p := ∀ V, Below W0.heap.size W0 V → (V.cell? ⟨w.heap.size, 0, none⟩ = some (.slice p.na p.names.length p.nc) ∧ V.cell? ⟨w.heap.size, 1, none⟩ = some (.slice p.ua p.curs.length p.uc) ∧ V.cell? ⟨w.heap.size, 2, none⟩ = some (.slice p.pa p.pool.length p.pc) ∧ V.cell? ⟨w.heap.size, 3, none⟩ = some (.int .i64 p.hor) ∧ V.cell? ⟨w.heap.size, 4, none⟩ = some (.int .i64 p.cells) ∧ V.cell? ⟨w.heap.size, 5, none⟩ = some (.int .i64 p.slots) ∧ V.cell? ⟨w.heap.size, 6, none⟩ = some (.int .i64 p.stack) ∧ V.cell? ⟨w.heap.size, 7, none⟩ = some (.slice p.da p.days.length p.dc)) ∧ Below w.heap.size w V) (fun V b => ⟨box_all8 (P0.lat b), B0.trans (b.mono B0.size)⟩)
  have KT := Lib.hid (fun V (b : Below W0.heap.size W0 V) => taken_any (h.later (B0.trans (b.mono B0.size))) (hR.below (B0.trans (b.mono B0.size))) (hU.lat (B0.trans (b.mono B0.size))))
  have HW := Lib.hid hW0
  have nr := hr.2.1
  have KN := Lib.hid (fun e W => num15_any e W)
  by_cases hv : (vfyA p).1 = 0
  · have KT1 := Lib.hid (p := ∀ V, Below W0.heap.size W0 V → Calls Tryz.prog 13 #[p.agg] V fun e w' => e = .returned (.tuple #[.agg #[.int .i64 (vfyA p).2.2.2.stack, .int .i64 (vfyA p).2.2.2.fuel, .int .i64 (vfyA p).2.2.2.back], .bool true]) ∧ Below V.heap.size V w') (fun V b => (KT.out V b).mono (fun e w' q => by obtain ⟨rfl, q2⟩ := q; rw [decide_eq_true hv]; exact ⟨rfl, q2⟩))
    have KA := Lib.hid (p := ∀ V, Below W0.heap.size W0 V → ∀ d : Nat, Calls Tryz.prog 17 #[.slice ra rn rc, .int .i64 (d : Int)] V fun e w' => ∃ a n c, e = .returned (.slice a n c) ∧ RowKit.Hid (RC w' a n (rowsF rs d) ∧ Below V.heap.size V w')) (fun V b d => (at_any (rc := rc) (hr.later (B0.trans (b.mono B0.size))) (by omega) (d : Int)).mono (fun e w' q => by
      obtain ⟨b5, a5, n5, c5, rfl, q1, _⟩ := q
      rw [if_pos (by omega), Int.toNat_natCast] at q1
      exact ⟨a5, n5, c5, rfl, q1, b5⟩))
    have HP := Lib.hid (p := ∀ V, Below W0.heap.size W0 V → Hop V ha hn hs) (fun V b => hh.lat (B0.trans (b.mono B0.size)))
    have hor4 := (nds_of hv).2.2.2.1
    have hor5 := (nds_of hv).2.2.2.2.1
    have cel6 := (nds_of hv).2.2.2.2.2.1
    have cel7 := (nds_of hv).2.2.2.2.2.2.1
    have nam8 := (nds_of hv).2.2.2.2.2.2.2.1
    have KW := Lib.hid (fun V (b : Below W0.heap.size W0 V) => new_owned hv h hR hU (B0.trans (b.mono B0.size)))
    have KR := Lib.hid (fun V (b : Below W0.heap.size W0 V) => resume_owned hv h hR hU (B0.trans (b.mono B0.size)))
    obtain ⟨M, hM⟩ : ∃ M : Nat → Ms, M = fun d => (runMs p (vfyA p).2.2.2.back (rowsF rs) d p.born).1 := ⟨_, rfl⟩
    obtain ⟨PK, hPK⟩ : ∃ K, K = p.key := ⟨_, rfl⟩
    have STP : ∀ d, ¬ (M d).over p.hor → M (d + 1) = dayMs p (vfyA p).2.2.2.back (M d) (rowsF rs d) := fun d no => by
      rw [hM] at no ⊢
      simp only [runMs]
      rw [if_neg no]
    have TDY : ∀ d : Nat, ¬ (M d).over p.hor → (M d).today = (d : Int) := fun d no0 => by
      have no : ¬ (runMs p (vfyA p).2.2.2.back (rowsF rs) d p.born).1.over p.hor := by rw [hM] at no0; exact no0
      have td := (runMs_today (a := rowsF rs) (p := p) (back := (vfyA p).2.2.2.back) d).2 no
      rw [hM]
      exact td
    have TD := Lib.hid (p := ∀ d : Nat, ¬ (M d).over p.hor → (d : Int) ≤ p.hor) (fun d no => by
      have := TDY d no
      have z := no
      unfold Ms.over at z
      omega)
    have ONE := Lib.hid (p := ∀ (d : Nat), ¬ (M d).over p.hor → ∀ (w W : World) mb1 q1, q1.key = PK → On w W mb1 q1 (M d) → ∀ a n c, RC W a n (rowsF rs d) → Calls Tryz.prog 16 #[.pointer (some ⟨mb1, 0, none⟩), .slice a n c] W fun e W' => ∃ la ln lc g, e = .returned (.tuple #[.slice la ln lc, .int .i64 g, .int .i64 0]) ∧ RowKit.Hid (On w W' mb1 q1 (M (d + 1)))) (fun d no w W mb1 q1 k1 on a n c hr => by
      have := on.day (c := c) (k1.trans hPK) hv no hr
      rw [← STP d no] at this
      exact this)
    have OVO := Lib.hid (p := ∀ (s : Ms) (w W : World) mb1 q1, q1.key = PK → On w W mb1 q1 s → Calls Tryz.prog 15 #[.pointer (some ⟨mb1, 0, none⟩)] W fun e w' => e = .returned (.bool (decide (s.over p.hor))) ∧ Below W.heap.size W w') (fun s w W mb1 q1 k1 on => by
      have eh : q1.hor = p.hor := congrArg (fun k => k.2.2.2.1) (k1.trans hPK)
      have := on.over
      rw [eh] at this
      exact this)
    have ADQ : ∀ (d : Nat) (q : Pg), q.key = p.key → AdM q (M d) := fun d q k => by
      have hvq : (vfyA q).1 = 0 := by rw [vfyA_keyM k]; exact hv
      obtain ⟨_, _, _, _, _, _, _, _, hcan⟩ := nds_of hvq
      have a := AdM.run hcan.2.2.1 (back := (vfyA p).2.2.2.back) (a := rowsF rs) d
      rw [born_keyM k, runMs_keyM k] at a
      rw [hM]
      exact a
    have SRS := Lib.hid (p := ∀ (d : Nat), ¬ (M d).over p.hor → ∀ (w4 W : World) mb1 q1, Below W0.heap.size W0 w4 → q1.key = PK → On w4 W mb1 q1 (M (d + 1)) → Calls Tryz.prog 19 #[.pointer (some ⟨mb1, 0, none⟩)] W fun e w9 => ∃ sp ca cl cc ga gl gc fl dd, e = .returned (.agg #[.int .i64 ((d : Int) + 1), .int .i64 sp, .slice ca cl cc, .slice ga gl gc, .int .i64 fl, .int .i64 dd]) ∧ 0 ≤ sp ∧ sp ≤ (vfyA p).2.2.2.fuel ∧ ((gl : Nat) : Int) = min ((d : Int) + 1) (vfyA p).2.2.2.back ∧ ((cl : Nat) : Int) = p.cells ∧ RowKit.Hid (Below w4.heap.size w4 w9 ∧ ∀ V, Below w9.heap.size w9 V → Calls Tryz.prog 11 #[p.agg] V fun e w10 => ∃ p' : Pg, e = .returned (.agg #[.slice p'.na p'.names.length p'.nc, .slice p'.ua p'.curs.length p'.uc, .slice p'.pa p'.pool.length p'.pc, .int .i64 p'.hor, .int .i64 p'.cells, .int .i64 p'.slots, .int .i64 p'.stack, .slice p'.da p'.days.length p'.dc]) ∧ RowKit.Hid (Below V.heap.size V w10 ∧ ∀ U, Below w10.heap.size w10 U → Calls Tryz.prog 24 #[.agg #[.int .i64 ((d : Int) + 1), .int .i64 sp, .slice ca cl cc, .slice ga gl gc, .int .i64 fl, .int .i64 dd]] U fun e w11 => ∃ cb cd gb gd, e = .returned (.agg #[.int .i64 ((d : Int) + 1), .int .i64 sp, .slice cb cl cd, .slice gb gl gd, .int .i64 fl, .int .i64 dd]) ∧ RowKit.Hid (Below U.heap.size U w11 ∧ ∀ X, Below w11.heap.size w11 X → Calls Tryz.prog 23 #[.agg #[.slice p'.na p'.names.length p'.nc, .slice p'.ua p'.curs.length p'.uc, .slice p'.pa p'.pool.length p'.pc, .int .i64 p'.hor, .int .i64 p'.cells, .int .i64 p'.slots, .int .i64 p'.stack, .slice p'.da p'.days.length p'.dc], .agg #[.int .i64 ((d : Int) + 1), .int .i64 sp, .slice cb cl cd, .slice gb gl gd, .int .i64 fl, .int .i64 dd]] X fun e w12 => ∃ mb q, e = .returned (.tuple #[.pointer (some ⟨mb, 0, none⟩), .int .i64 0]) ∧ RowKit.Hid (q.key = PK ∧ Tw w4 w12 mb1 q1 mb q (M (d + 1)) (M (d + 1)) ∧ Below X.heap.size X w12))))) (fun d no w4 W mb1 q1 b4 k1 on => (on.state (by rw [vfyA_keyM (k1.trans hPK)]; exact hv)).mono (fun e w9 z => by
      obtain ⟨b9, ca, cc, ga, gc, vs, rfl, o9, pv9, _⟩ := z
      have on9 := on.lat b9
      have okp : MsOk p (vfyA p).2.2.2 (M (d + 1)) := on.ok.key (k1.trans hPK).symm
      have adp := ADQ (d + 1) p rfl
      have td1 : (M (d + 1)).today = (d : Int) + 1 := by
        have := TDY d no
        rw [STP d no]
        simp only [dayMs]
        omega
      have pl := okp.pl
      have t1 := okp.t1
      rw [td1] at pl t1
      have fu : (M (d + 1)).steps ≤ (vfyA p).2.2.2.fuel := by
        rw [fuel_tot hv]
        have x1 := adp.st
        have x2 := stpN_le (l := p.days) (t := (M (d + 1)).today) p.days.length (Nat.le_refl _)
        omega
      have ce : ((M (d + 1)).cells.length : Int) = p.cells := by rw [okp.ce]; omega
      refine ⟨_, ca, _, cc, ga, _, gc, _, _, by rw [td1], okp.s0, fu, pl, ce, on9.bel, fun V bV => (KR.out V (b4.trans ((on9.bel.trans (bV.mono on9.bel.size)).mono b4.size))).mono (fun e w10 y => ?_)⟩
      obtain ⟨p', rfl, y⟩ := y
      obtain ⟨k', b', rs'⟩ := y.out
      refine ⟨p', rfl, b', fun U bU => ?_⟩
      have cp := copied_any (t := (M (d + 1)).today) (st := (M (d + 1)).steps) (ft := (M (d + 1)).fault) (dy := (M (d + 1)).day) (((o9.lat bV).lat b').lat bU) (((pv9.lat bV).lat b').lat bU) (by omega) (by omega) (fun i hi => by
        obtain ⟨r1, r2⟩ := okp.pr ((M (d + 1)).past.getD i []) (by simp [List.getD, hi])
        exact ⟨by omega, r2⟩)
      rw [td1] at cp
      refine cp.mono (fun e w11 c => ?_)
      obtain ⟨b11, cb, cd, gb, gd, us, rfl, o11, pv11, _⟩ := c
      refine ⟨cb, cd, gb, gd, rfl, b11, fun X bX => ?_⟩
      have rsx := rs' X ((bU.trans (b11.mono bU.size)).trans (bX.mono (bU.trans (b11.mono bU.size)).size)) (M (d + 1)) okp (ADQ (d + 1)) cb cd gb gd us (.inr (ownsRow_base (o11.lat bX) (Nat.zero_le _))) (pv11.lat bX)
      rw [td1] at rsx
      refine rsx.mono (fun e w12 r => ?_)
      obtain ⟨mb, q, e, k, t⟩ := (((((on9.lat bV).lat b').lat bU).lat b11).lat bX).resumed r
      exact ⟨mb, q, e, (k.trans k').trans hPK.symm, t, r.bel⟩))
    have KW2 := Lib.hid (p := ∀ V, Below W0.heap.size W0 V → Calls Tryz.prog 11 #[p.agg] V fun e w4 => ∃ p' : Pg, e = .returned (.agg #[.slice p'.na p'.names.length p'.nc, .slice p'.ua p'.curs.length p'.uc, .slice p'.pa p'.pool.length p'.pc, .int .i64 p'.hor, .int .i64 p'.cells, .int .i64 p'.slots, .int .i64 p'.stack, .slice p'.da p'.days.length p'.dc]) ∧ RowKit.Hid (Below V.heap.size V w4 ∧ Calls Tryz.prog 12 #[.agg #[.slice p'.na p'.names.length p'.nc, .slice p'.ua p'.curs.length p'.uc, .slice p'.pa p'.pool.length p'.pc, .int .i64 p'.hor, .int .i64 p'.cells, .int .i64 p'.slots, .int .i64 p'.stack, .slice p'.da p'.days.length p'.dc]] w4 fun e w5 => ∃ mb1 q1, e = .returned (.tuple #[.pointer (some ⟨mb1, 0, none⟩), .int .i64 0]) ∧ RowKit.Hid (q1.key = PK ∧ On w4 w5 mb1 q1 (M 0)))) (fun V b => (KW.out V b).mono (fun e w4 z => by
      obtain ⟨p', rfl, z⟩ := z
      obtain ⟨b4, nw⟩ := z.out
      refine ⟨p', rfl, b4, (nw w4 (Below.refl _ _)).mono (fun e w5 y => ?_)⟩
      obtain ⟨mb1, q1, c1, D1, rfl, y⟩ := y
      obtain ⟨k1, b45, m1, g1, g2, g3⟩ := y.out
      have t := on_born b45 m1 g1 g2
      rw [born_keyM k1] at t
      have e0 : M 0 = p.born := by rw [hM]; rfl
      exact ⟨mb1, q1, rfl, k1.trans hPK.symm, by rw [e0]; exact t⟩))
    clear KT hr h hR hU B0 P0 hW0 KW KR ADQ STP TDY hM hPK hv hh cel6 cel7 nam8
    generalize (vfyA p).2.2.2.stack = ns at *
    generalize (vfyA p).2.2.2.fuel = nf at *
    generalize (vfyA p).2.2.2.back = nb at *
    unfold Pg.agg Pg.box at *
    obtain ⟨na, nc, names, ua, uc, curs, pa, pc, pool, hor, cells, slots, stack, da, dc, days⟩ := p
    simp only at *
    go_enter Tryz.func6, Tryz.ntmps6
    go_wp2_with fail
    go_at_call 9
    rw [HW.out]
    refine KP.out.mono ?_
    rintro e w1 ⟨rfl, b1⟩
    obtain ⟨⟨a0, a1, a2, a3, a4, a5, a6, a7⟩, _⟩ := CL.out w1 b1
    go_wp2_with fail
    go_at_call 13
    refine (KT1.out w1 b1).mono ?_
    rintro e w2 ⟨rfl, b2⟩
    obtain ⟨W3, hW3⟩ : ∃ W, w2.alloc (.cells #[.int .i64 ns, .int .i64 nf, .int .i64 nb] 41) = W := ⟨_, rfl⟩
    have c3 : BkP W3 w2.heap.size #[.int .i64 ns, .int .i64 nf, .int .i64 nb] 41 := by rw [← hW3]; exact heapN _ _
    have C3 := Lib.hid c3
    have b12 := b1.trans (b2.mono b1.size)
    have B3 := Lib.hid (p := Below W0.heap.size W0 W3) (by rw [← hW3]; exact b12.trans ((allocBP w2 _).mono b12.size))
    have H3 := Lib.hid hW3
    clear a0 a1 a2 a3 a4 a5 a6 a7 b1 b2 b12 hW3 KP KT1 c3
    go_upto_region 3 with fail
    rw [H3.out]
    obtain ⟨⟨a0, a1, a2, a3, a4, a5, a6, a7⟩, _⟩ := CL.out W3 B3.out
    go_wp2_with fail
    go_at_call 11
    refine (KW2.out W3 B3.out).mono ?_
    rintro e w4 ⟨p1, rfl, h4⟩
    have B34 := Lib.hid h4.out.1
    have B4 := Lib.hid (p := Below W0.heap.size W0 w4) (B3.out.trans (h4.out.1.mono B3.out.size))
    have K4 := Lib.hid h4.out.2
    clear h4 a0 a1 a2 a3 a4 a5 a6 a7 KW2
    go_wp2_with fail
    go_at_call 12
    refine K4.out.mono ?_
    rintro e w5 ⟨mb0, q0, rfl, h5⟩
    have KQ0 := Lib.hid h5.out.1
    have O5 := Lib.hid h5.out.2
    clear h5 K4
    have BW4 := Lib.hid (p := ∀ V, Below w4.heap.size w4 V → (V.cell? ⟨w.heap.size, 3, none⟩ = some (.int .i64 hor) ∧ V.cell? ⟨w.heap.size, 4, none⟩ = some (.int .i64 cells) ∧ V.cell? ⟨w2.heap.size, 1, none⟩ = some (.int .i64 nf) ∧ V.cell? ⟨w2.heap.size, 2, none⟩ = some (.int .i64 nb)) ∧ Below W0.heap.size W0 V ∧ Below w.heap.size w V) (fun V b => by
      have q := CL.out V (B4.out.trans (b.mono B4.out.size))
      have pr := box_all3P (C3.out.lat (B34.out.trans (b.mono B34.out.size)))
      exact ⟨⟨q.1.2.2.2.1, q.1.2.2.2.2.1, pr.2.1, pr.2.2⟩, B4.out.trans (b.mono B4.out.size), q.2⟩)
    go_wp2_with (go_at_call 14; refine (KN.out 0 _).mono ?_; rintro e wx ⟨rfl, hwx⟩; replace hwx := hwx.symm; subst hwx)
    go_loopw [10, 12] (fun mp t wr => ∃ (d : Nat) (mb : Nat) (q : Pg), mp = .pointer (some ⟨mb, 0, none⟩) ∧ t = .int .i64 (d : Int) ∧ (d : Int) ≤ hor + 1 ∧ RowKit.Hid (q.key = PK ∧ On w4 wr mb q (M d))) (fun _ t _ => (hor + 2).toNat - (intOf t).toNat)
    case atStart => exact ⟨0, mb0, q0, rfl, rfl, by omega, KQ0.out, O5.out⟩
    case round =>
      clear O5 KQ0
      rename World => wr
      obtain ⟨d, mb, q, rfl, rfl, hd, hI⟩ := hrel
      obtain ⟨kq, on⟩ := hI.out
      have KQ := Lib.hid kq
      have ON := Lib.hid on
      have KOv := Lib.hid (OVO.out (M d) w4 wr mb q kq on)
      by_cases ov : (M d).over hor
      · rw [decide_eq_true ov] at KOv
        have BO := Lib.hid (p := ∀ V, Below wr.heap.size wr V → Below w.heap.size w V) (fun V b => (BW4.out V (on.lat b).bel).2.2)
        clear hI on kq SRS ONE
        go_wp2_with fail
        go_at_call 15
        refine KOv.out.mono ?_
        rintro e w9 ⟨rfl, b9⟩
        have B9 := Lib.hid (BO.out w9 b9)
        clear b9
        go_wp2
        go_ret
        exact ⟨rfl, B9.out⟩
      · rw [decide_eq_false ov] at KOv
        have dh := TD.out d ov
        have ks : IntKind.i64.wrap ((d : Int) + 1) = (d : Int) + 1 := by simp [IntKind.wrap, IntKind.bits, IntKind.signed]; omega
        have dn : ¬ hor < (d : Int) := by omega
        have K1 := Lib.hid (p := ∀ V, On w4 V mb q (M d) → ∀ a n c, RC V a n (rowsF rs d) → Calls Tryz.prog 16 #[.pointer (some ⟨mb, 0, none⟩), .slice a n c] V fun e W' => ∃ la ln lc g, e = .returned (.tuple #[.slice la ln lc, .int .i64 g, .int .i64 0]) ∧ RowKit.Hid (On w4 W' mb q (M (d + 1)))) (fun V o a n c hr => ONE.out d ov w4 V mb q KQ.out o a n c hr)
        have S1 := Lib.hid (fun (W : World) (o : On w4 W mb q (M (d + 1))) => SRS.out d ov w4 W mb q B4.out KQ.out o)
        clear hI on kq SRS ONE ov TD
        go_wp2_with fail
        go_at_call 15
        refine KOv.out.mono ?_
        rintro e w6 ⟨rfl, b6⟩
        have O6 := Lib.hid (ON.out.lat b6)
        have a3 := (BW4.out w6 O6.out.bel).1.1
        clear b6 KOv ON
        go_wp2_with fail
        go_at_call 17
        refine (KA.out w6 (BW4.out w6 O6.out.bel).2.1 d).mono ?_
        rintro e w7 ⟨a7, n7, c7, rfl, h7⟩
        have K7 := Lib.hid (K1.out w7 (O6.out.lat h7.out.2) a7 n7 c7 h7.out.1)
        clear h7 K1 O6 a3
        go_wp2_with fail
        go_at_call 16
        refine K7.out.mono ?_
        rintro e w8 ⟨la, ln, lc, g, rfl, h8⟩
        have K8 := Lib.hid (S1.out w8 h8.out)
        clear K7 h8 S1
        go_wp2_with fail
        go_at_call 19
        refine K8.out.mono ?_
        rintro e w9 ⟨sp, ca, cl, cc, ga, gl, gc, fl, dd, rfl, sp0, sp1, hgl, hcl, h9⟩
        obtain ⟨W10, hW10⟩ : ∃ W, w9.alloc (.cells #[.int .i64 ((d : Int) + 1), .int .i64 sp, .slice ca cl cc, .slice ga gl gc, .int .i64 fl, .int .i64 dd] 51) = W := ⟨_, rfl⟩
        obtain ⟨sb, hsb⟩ : ∃ sb, w9.heap.size = sb := ⟨_, rfl⟩
        have c10 : BkP W10 sb #[.int .i64 ((d : Int) + 1), .int .i64 sp, .slice ca cl cc, .slice ga gl gc, .int .i64 fl, .int .i64 dd] 51 := by rw [← hW10, ← hsb]; exact heapN _ _
        have b910 : Below w9.heap.size w9 W10 := by rw [← hW10]; exact allocBP _ _
        have B10 := Lib.hid (p := Below w4.heap.size w4 W10) (h9.out.1.trans (b910.mono h9.out.1.size))
        have KOw := Lib.hid (p := ∀ V, Below W10.heap.size W10 V → Calls Tryz.prog 11 #[.agg #[.slice na names.length nc, .slice ua curs.length uc, .slice pa pool.length pc, .int .i64 hor, .int .i64 cells, .int .i64 slots, .int .i64 stack, .slice da days.length dc]] V fun e w10 => ∃ p' : Pg, e = .returned (.agg #[.slice p'.na p'.names.length p'.nc, .slice p'.ua p'.curs.length p'.uc, .slice p'.pa p'.pool.length p'.pc, .int .i64 p'.hor, .int .i64 p'.cells, .int .i64 p'.slots, .int .i64 p'.stack, .slice p'.da p'.days.length p'.dc]) ∧ RowKit.Hid (Below V.heap.size V w10 ∧ ∀ U, Below w10.heap.size w10 U → Calls Tryz.prog 24 #[.agg #[.int .i64 ((d : Int) + 1), .int .i64 sp, .slice ca cl cc, .slice ga gl gc, .int .i64 fl, .int .i64 dd]] U fun e w11 => ∃ cb cd gb gd, e = .returned (.agg #[.int .i64 ((d : Int) + 1), .int .i64 sp, .slice cb cl cd, .slice gb gl gd, .int .i64 fl, .int .i64 dd]) ∧ RowKit.Hid (Below U.heap.size U w11 ∧ ∀ X, Below w11.heap.size w11 X → Calls Tryz.prog 23 #[.agg #[.slice p'.na p'.names.length p'.nc, .slice p'.ua p'.curs.length p'.uc, .slice p'.pa p'.pool.length p'.pc, .int .i64 p'.hor, .int .i64 p'.cells, .int .i64 p'.slots, .int .i64 p'.stack, .slice p'.da p'.days.length p'.dc], .agg #[.int .i64 ((d : Int) + 1), .int .i64 sp, .slice cb cl cd, .slice gb gl gd, .int .i64 fl, .int .i64 dd]] X fun e w12 => ∃ mbx qx, e = .returned (.tuple #[.pointer (some ⟨mbx, 0, none⟩), .int .i64 0]) ∧ RowKit.Hid (qx.key = PK ∧ Tw w4 w12 mb q mbx qx (M (d + 1)) (M (d + 1)) ∧ Below X.heap.size X w12)))) (fun V b => h9.out.2 V (b910.trans (b.mono b910.size)))
        have CS := Lib.hid (p := ∀ w', Below W10.heap.size W10 w' → (w'.cell? ⟨w.heap.size, 0, none⟩ = some (.slice na names.length nc) ∧ w'.cell? ⟨w.heap.size, 1, none⟩ = some (.slice ua curs.length uc) ∧ w'.cell? ⟨w.heap.size, 2, none⟩ = some (.slice pa pool.length pc) ∧ w'.cell? ⟨w.heap.size, 3, none⟩ = some (.int .i64 hor) ∧ w'.cell? ⟨w.heap.size, 4, none⟩ = some (.int .i64 cells) ∧ w'.cell? ⟨w.heap.size, 5, none⟩ = some (.int .i64 slots) ∧ w'.cell? ⟨w.heap.size, 6, none⟩ = some (.int .i64 stack) ∧ w'.cell? ⟨w.heap.size, 7, none⟩ = some (.slice da days.length dc)) ∧ (w'.cell? ⟨sb, 0, none⟩ = some (.int .i64 ((d : Int) + 1)) ∧ w'.cell? ⟨sb, 1, none⟩ = some (.int .i64 sp) ∧ w'.cell? ⟨sb, 2, none⟩ = some (.slice ca cl cc) ∧ w'.cell? ⟨sb, 3, none⟩ = some (.slice ga gl gc) ∧ w'.cell? ⟨sb, 4, none⟩ = some (.int .i64 fl) ∧ w'.cell? ⟨sb, 5, none⟩ = some (.int .i64 dd))) (fun w' b => ⟨(CL.out w' (BW4.out w' (B10.out.trans (b.mono B10.out.size))).2.1).1, box_all6 (c10.lat b)⟩)
        obtain ⟨⟨y1, y2, y3, y4⟩, _⟩ := BW4.out W10 B10.out
        obtain ⟨⟨a0, a1, a2, a3, a4, a5, a6, a7⟩, ⟨s0, s1, s2, s3, s4, s5⟩⟩ := CS.out W10 (Below.refl _ _)
        have H10 := Lib.hid hW10
        have HSB := Lib.hid hsb
        have n0 : ¬ sp < 0 := by omega
        have n1 : ¬ nf < sp := by omega
        clear hW10 c10 b910 h9 K8 hsb
        go_upto_region 15 with fail
        rw [H10.out, HSB.out]
        go_upto_if 64 with fail
        have hgl2 : (gl : Int) = if (d : Int) + 1 < nb then (d : Int) + 1 else nb := by rw [hgl]; split <;> omega
        go_cut [14] (fun bv wx => bv = .int .i64 (gl : Int) ∧ wx = W10)
        case first =>
          by_cases z : (d : Int) + 1 < nb
          · rw [if_pos z] at hgl2
            go_wp2
            go_meet
            case rel => exact ⟨by rw [hgl2], rfl⟩
          · rw [if_neg z] at hgl2
            go_wp2
            go_meet
            case rel => exact ⟨by rw [hgl2], rfl⟩
        case rest =>
          obtain ⟨hbv, hwc⟩ := hcut
          subst hbv
          replace hwc := hwc.symm
          subst hwc
          clear hgl hgl2
          go_upto_region 20 with fail
          clear y1 y2 y3 y4 n0 n1
          go_cut [15, 16] (fun xv fv wx => ∃ (mbx : Nat) (qx : Pg), xv = .pointer (some ⟨mbx, 0, none⟩) ∧ fv = .int .i64 0 ∧ RowKit.Hid (qx.key = PK ∧ Tw w4 wx mb q mbx qx (M (d + 1)) (M (d + 1))))
          case first =>
            go_region_held3 (fun w' => w'.cell? ⟨w.heap.size, 0, none⟩ = some (.slice na names.length nc) ∧ w'.cell? ⟨w.heap.size, 1, none⟩ = some (.slice ua curs.length uc) ∧ w'.cell? ⟨w.heap.size, 2, none⟩ = some (.slice pa pool.length pc) ∧ w'.cell? ⟨w.heap.size, 3, none⟩ = some (.int .i64 hor) ∧ w'.cell? ⟨w.heap.size, 4, none⟩ = some (.int .i64 cells) ∧ w'.cell? ⟨w.heap.size, 5, none⟩ = some (.int .i64 slots) ∧ w'.cell? ⟨w.heap.size, 6, none⟩ = some (.int .i64 stack) ∧ w'.cell? ⟨w.heap.size, 7, none⟩ = some (.slice da days.length dc) ∧ w'.cell? ⟨sb, 0, none⟩ = some (.int .i64 ((d : Int) + 1)) ∧ w'.cell? ⟨sb, 1, none⟩ = some (.int .i64 sp) ∧ w'.cell? ⟨sb, 2, none⟩ = some (.slice ca cl cc) ∧ w'.cell? ⟨sb, 3, none⟩ = some (.slice ga gl gc) ∧ w'.cell? ⟨sb, 4, none⟩ = some (.int .i64 fl) ∧ w'.cell? ⟨sb, 5, none⟩ = some (.int .i64 dd))
              (go_keep)
              (first
                | (go_at_call 11; refine (KOw.out _ (by first | exact Below.refl _ _ | exact drew1 _)).mono ?_; rintro e w12 ⟨p3, rfl, h12⟩; have B12 := Lib.hid (p := Below W10.heap.size W10 w12) (by first | exact h12.out.1 | exact (drew1 W10).trans h12.out.1); obtain ⟨⟨g0, g1, g2, g3, g4, g5, g6, g7⟩, ⟨i0, i1, i2, i3, i4, i5⟩⟩ := CS.out w12 B12.out)
                | (go_at_call 24; refine (h12.out.2 _ (by first | exact Below.refl _ _ | exact drew1 _)).mono ?_; rintro e w13 ⟨cb, cd, gb, gd, rfl, h13⟩; have B13 := Lib.hid (p := Below W10.heap.size W10 w13) (by first | exact B12.out.trans (h13.out.1.mono B12.out.size) | exact (B12.out.trans (drew1B2 _ _)).trans (h13.out.1.mono (B12.out.trans (drew1B2 _ _)).size)); obtain ⟨⟨j0, j1, j2, j3, j4, j5, j6, j7⟩, ⟨m0, m1, m2, m3, m4, m5⟩⟩ := CS.out w13 B13.out)
                | (go_at_call 23; refine (h13.out.2 _ (by first | exact Below.refl _ _ | exact drew1 _)).mono ?_; rintro e w14 ⟨mbx, qx, rfl, h14⟩; have B14 := Lib.hid (p := Below W10.heap.size W10 w14) (by first | exact B13.out.trans (h14.out.2.2.mono B13.out.size) | exact (B13.out.trans (drew1B2 _ _)).trans (h14.out.2.2.mono (B13.out.trans (drew1B2 _ _)).size)); obtain ⟨⟨t0, t1, t2, t3, t4, t5, t6, t7⟩, ⟨v0, v1, v2, v3, v4, v5⟩⟩ := CS.out w14 B14.out))
            all_goals
              go_wp2
              go_meet
              case rel => exact ⟨mbx, qx, rfl, rfl, h14.out.1, by first | exact h14.out.2.1 | exact h14.out.2.1.lat (drew1 _)⟩
          case rest =>
            obtain ⟨mbx, qx, hx1, hx2, hcut⟩ := hcut
            subst hx1 hx2
            have KQX := Lib.hid hcut.out.1
            have TX := Lib.hid hcut.out.2
            have HX := Lib.hid (p := Hop wc ha hn hs) (HP.out wc (BW4.out wc TX.out.bel).2.1)
            clear hcut CS KOw B10 H10 a0 a1 a2 a3 a4 a5 a6 a7 s0 s1 s2 s3 s4 s5
            by_cases hlt : d < hn
            · obtain ⟨x, o, hha, hx, hcc⟩ := HX.out.resolve_left (by omega)
              have c0 := hcc d hlt
              have kc : (d : Int) < (hn : Int) := by omega
              have k0 : ¬ (d : Int) < 0 := by omega
              have kd : decide (d < hn) = true := decide_eq_true hlt
              subst hha
              clear hcc HX
              cases hb : hs.getD d default with
              | true =>
                rw [hb] at c0
                go_wp2_with (go_at_call 14; refine (KN.out 0 _).mono ?_; rintro e wx ⟨rfl, hwx⟩; replace hwx := hwx.symm; subst hwx)
                refine ⟨⟨d + 1, mbx, qx, rfl, by simp, by omega, KQX.out, TX.out.swap.one⟩, ?_⟩
                simp [intOf]
                omega
              | false =>
                rw [hb] at c0
                go_wp2_with (go_at_call 14; refine (KN.out 0 _).mono ?_; rintro e wx ⟨rfl, hwx⟩; replace hwx := hwx.symm; subst hwx)
                refine ⟨⟨d + 1, mb, q, rfl, by simp, by omega, KQ.out, TX.out.one⟩, ?_⟩
                simp [intOf]
                omega
            · have kc : ¬ (d : Int) < (hn : Int) := by omega
              have kd : decide (d < hn) = false := decide_eq_false hlt
              have kd2 : decide ((d : Int) < (hn : Int)) = false := decide_eq_false kc
              go_wp2_with (go_at_call 14; refine (KN.out 0 _).mono ?_; rintro e wx ⟨rfl, hwx⟩; replace hwx := hwx.symm; subst hwx)
              refine ⟨⟨d + 1, mb, q, rfl, by simp, by omega, KQ.out, TX.out.one⟩, ?_⟩
              simp [intOf]
              omega
  · have KT1 := Lib.hid (p := ∀ V, Below W0.heap.size W0 V → Calls Tryz.prog 13 #[p.agg] V fun e w' => ∃ x y z, e = .returned (.tuple #[.agg #[.int .i64 x, .int .i64 y, .int .i64 z], .bool false]) ∧ Below V.heap.size V w') (fun V b => (KT.out V b).mono (fun e w' q => by obtain ⟨rfl, q2⟩ := q; rw [decide_eq_false hv]; exact ⟨_, _, _, rfl, q2⟩))
    clear KT hr h hR hU B0 P0 hW0 hv hh
    unfold Pg.agg Pg.box at *
    obtain ⟨na, nc, names, ua, uc, curs, pa, pc, pool, hor, cells, slots, stack, da, dc, days⟩ := p
    simp only at *
    go_enter Tryz.func6, Tryz.ntmps6
    go_wp2_with fail
    go_at_call 9
    rw [HW.out]
    refine KP.out.mono ?_
    rintro e w1 ⟨rfl, b1⟩
    obtain ⟨⟨a0, a1, a2, a3, a4, a5, a6, a7⟩, _⟩ := CL.out w1 b1
    go_wp2_with fail
    go_at_call 13
    refine (KT1.out w1 b1).mono ?_
    rintro e w2 ⟨tx, ty, tz, rfl, b2⟩
    have b12 := b1.trans (b2.mono b1.size)
    have BE := Lib.hid (p := ∀ o, Below w.heap.size w (w2.alloc o)) (fun o => (CL.out _ (b12.trans ((allocBP w2 o).mono b12.size))).2)
    clear b1 b2 b12
    go_wp2
    go_ret
    exact ⟨rfl, BE.out _⟩
end Go.Proofs.YtpfjnnkjoabgbaaGreatDoor
