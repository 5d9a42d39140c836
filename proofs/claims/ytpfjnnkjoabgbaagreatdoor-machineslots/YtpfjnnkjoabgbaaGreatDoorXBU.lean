import Derived.Test.YtpfjnnkjoabgbaaGreatDoorXBT
namespace Go.Proofs.YtpfjnnkjoabgbaaGreatDoor
open Go.RowKit
set_option linter.unusedVariables false
set_option linter.unusedSimpArgs false
set_option maxRecDepth 100000 in
set_option maxHeartbeats 6400000 in
theorem machineSlots_any {w : World} {p : Pg} (h : PV w p) (hR : Rws w) (hU : Rul w) {ra : Option Addr} {rn rc : Nat} {rs : List Rw} (hr : RL w ra rn rs) (day : Int) : Calls Tryz.prog 8 #[p.agg, .slice ra rn rc, .int .i64 day] w fun e w' => e = .returned (.bool true) ∧ Below w.heap.size w w' := by
  obtain ⟨W0, hW0⟩ : ∃ W, w.alloc p.box = W := ⟨_, rfl⟩
  have B0 : Below w.heap.size w W0 := by rw [← hW0]; exact allocBP w p.box
  have P0 : BkP W0 w.heap.size #[.slice p.na p.names.length p.nc, .slice p.ua p.curs.length p.uc, .slice p.pa p.pool.length p.pc, .int .i64 p.hor, .int .i64 p.cells, .int .i64 p.slots, .int .i64 p.stack, .slice p.da p.days.length p.dc] 26 := by rw [← hW0]; exact heapN w p.box
  have KP := Lib.hid (plain15_any (hR.below B0) (hU.lat B0))
  have CL := Lib.hid (p := ∀ V, Below W0.heap.size W0 V → (V.cell? ⟨w.heap.size, 0, none⟩ = some (.slice p.na p.names.length p.nc) ∧ V.cell? ⟨w.heap.size, 1, none⟩ = some (.slice p.ua p.curs.length p.uc) ∧ V.cell? ⟨w.heap.size, 2, none⟩ = some (.slice p.pa p.pool.length p.pc) ∧ V.cell? ⟨w.heap.size, 3, none⟩ = some (.int .i64 p.hor) ∧ V.cell? ⟨w.heap.size, 4, none⟩ = some (.int .i64 p.cells) ∧ V.cell? ⟨w.heap.size, 5, none⟩ = some (.int .i64 p.slots) ∧ V.cell? ⟨w.heap.size, 6, none⟩ = some (.int .i64 p.stack) ∧ V.cell? ⟨w.heap.size, 7, none⟩ = some (.slice p.da p.days.length p.dc)) ∧ Below w.heap.size w V) (fun V b => ⟨box_all8 (P0.lat b), B0.trans (b.mono B0.size)⟩)
  have KT := Lib.hid (fun V (b : Below W0.heap.size W0 V) => taken_any (h.later (B0.trans (b.mono B0.size))) (hR.below (B0.trans (b.mono B0.size))) (hU.lat (B0.trans (b.mono B0.size))))
  have HW := Lib.hid hW0
  have nr := hr.2.1
  have KN := Lib.hid (fun e W => num15_any e W)
  by_cases hv : (vfyA p).1 = 0
  · have KT1 := Lib.hid (p := ∀ V, Below W0.heap.size W0 V → Calls Tryz.prog 13 #[p.agg] V fun e w' => ∃ x y z, e = .returned (.tuple #[.agg #[.int .i64 x, .int .i64 y, .int .i64 z], .bool true]) ∧ Below V.heap.size V w') (fun V b => (KT.out V b).mono (fun e w' q => by obtain ⟨rfl, q2⟩ := q; rw [decide_eq_true hv]; exact ⟨_, _, _, rfl, q2⟩))
    by_cases rg : 0 ≤ day ∧ day ≤ p.hor
    · obtain ⟨dn, rfl⟩ : ∃ dn : Nat, day = (dn : Int) := ⟨day.toNat, by omega⟩
      have KA := Lib.hid (p := ∀ V, Below W0.heap.size W0 V → ∀ d : Nat, Calls Tryz.prog 17 #[.slice ra rn rc, .int .i64 (d : Int)] V fun e w' => ∃ a n c, e = .returned (.slice a n c) ∧ RowKit.Hid (RC w' a n (rowsF rs d) ∧ Below V.heap.size V w')) (fun V b d => (at_any (rc := rc) (hr.later (B0.trans (b.mono B0.size))) (by omega) (d : Int)).mono (fun e w' q => by
        obtain ⟨b5, a5, n5, c5, rfl, q1, _⟩ := q
        rw [if_pos (by omega), Int.toNat_natCast] at q1
        exact ⟨a5, n5, c5, rfl, q1, b5⟩))
      have hor4 := (nds_of hv).2.2.2.1
      have hor5 := (nds_of hv).2.2.2.2.1
      have KW := Lib.hid (fun V (b : Below W0.heap.size W0 V) => new_owned hv h hR hU (B0.trans (b.mono B0.size)))
      have KR := Lib.hid (fun V (b : Below W0.heap.size W0 V) => resume_owned hv h hR hU (B0.trans (b.mono B0.size)))
      obtain ⟨M, hM⟩ : ∃ M : Nat → Ms, M = fun d => (runMs p (vfyA p).2.2.2.back (rowsF rs) d p.born).1 := ⟨_, rfl⟩
      obtain ⟨PK, hPK⟩ : ∃ K, K = p.key := ⟨_, rfl⟩
      obtain ⟨G, hG⟩ : ∃ G : Nat → Int, G = fun d => (dayGo p (M d) (rowsF rs d)).1 := ⟨_, rfl⟩
      have STP : ∀ d, ¬ (M d).over p.hor → M (d + 1) = dayMs p (vfyA p).2.2.2.back (M d) (rowsF rs d) := fun d no => by
        rw [hM] at no ⊢
        simp only [runMs]
        rw [if_neg no]
      have ONE := Lib.hid (p := ∀ (d : Nat), ¬ (M d).over p.hor → ∀ (w W : World) mb1 q1, q1.key = PK → On w W mb1 q1 (M d) → ∀ a n c, RC W a n (rowsF rs d) → Calls Tryz.prog 16 #[.pointer (some ⟨mb1, 0, none⟩), .slice a n c] W fun e W' => ∃ la ln lc g, e = .returned (.tuple #[.slice la ln lc, .int .i64 g, .int .i64 0]) ∧ RowKit.Hid (On w W' mb1 q1 (M (d + 1)))) (fun d no w W mb1 q1 k1 on a n c hr => by
        have := on.day (c := c) (k1.trans hPK) hv no hr
        rw [← STP d no] at this
        exact this)
      have OVO := Lib.hid (p := ∀ (s : Ms) (w W : World) mb1 q1, q1.key = PK → On w W mb1 q1 s → Calls Tryz.prog 15 #[.pointer (some ⟨mb1, 0, none⟩)] W fun e w' => e = .returned (.bool (decide (s.over p.hor))) ∧ Below W.heap.size W w') (fun s w W mb1 q1 k1 on => by
        have eh : q1.hor = p.hor := congrArg (fun k => k.2.2.2.1) (k1.trans hPK)
        have := on.over
        rw [eh] at this
        exact this)
      have ADQ : ∀ (d : Nat) (q : Pg), q.key = p.key → AdM q (sD (M d) 0) := fun d q k => by
        have hvq : (vfyA q).1 = 0 := by rw [vfyA_keyM k]; exact hv
        obtain ⟨_, _, _, _, _, _, _, _, hcan⟩ := nds_of hvq
        have a := AdM.run hcan.2.2.1 (back := (vfyA p).2.2.2.back) (a := rowsF rs) d
        rw [born_keyM k, runMs_keyM k] at a
        rw [hM]
        exact ⟨a.t0, Int.natCast_nonneg _, a.ce, a.pr, a.fa⟩
      obtain ⟨BF, hBF⟩ : ∃ B, (M dn).steps = B := ⟨_, rfl⟩
      have SRS := Lib.hid (p := ∀ (w4 W : World) mb1 q1, Below W0.heap.size W0 w4 → q1.key = PK → On w4 W mb1 q1 (M dn) → Calls Tryz.prog 19 #[.pointer (some ⟨mb1, 0, none⟩)] W fun e w9 => ∃ td ca cl cc ga gl gc fl dd, e = .returned (.agg #[.int .i64 td, .int .i64 BF, .slice ca cl cc, .slice ga gl gc, .int .i64 fl, .int .i64 dd]) ∧ RowKit.Hid (Below w4.heap.size w4 w9 ∧ ∀ V, Below w9.heap.size w9 V → Calls Tryz.prog 11 #[p.agg] V fun e w10 => ∃ p' : Pg, e = .returned (.agg #[.slice p'.na p'.names.length p'.nc, .slice p'.ua p'.curs.length p'.uc, .slice p'.pa p'.pool.length p'.pc, .int .i64 p'.hor, .int .i64 p'.cells, .int .i64 p'.slots, .int .i64 p'.stack, .slice p'.da p'.days.length p'.dc]) ∧ RowKit.Hid (Below V.heap.size V w10 ∧ ∀ U, Below w10.heap.size w10 U → Calls Tryz.prog 23 #[.agg #[.slice p'.na p'.names.length p'.nc, .slice p'.ua p'.curs.length p'.uc, .slice p'.pa p'.pool.length p'.pc, .int .i64 p'.hor, .int .i64 p'.cells, .int .i64 p'.slots, .int .i64 p'.stack, .slice p'.da p'.days.length p'.dc], .agg #[.int .i64 td, .int .i64 0, .slice ca cl cc, .slice ga gl gc, .int .i64 fl, .int .i64 dd]] U fun e w11 => ∃ mb q, e = .returned (.tuple #[.pointer (some ⟨mb, 0, none⟩), .int .i64 0]) ∧ RowKit.Hid (q.key = PK ∧ Tw w4 w11 mb1 q1 mb q (M dn) (sD (M dn) ((M dn).steps - BF)) ∧ Below U.heap.size U w11)))) (fun w4 W mb1 q1 b4 k1 on => (on.state (by rw [vfyA_keyM (k1.trans hPK)]; exact hv)).mono (fun e w9 z => by
        obtain ⟨b9, ca, cc, ga, gc, vs, rfl, o9, pv9, _⟩ := z
        have on9 := on.lat b9
        have okp : MsOk p (vfyA p).2.2.2 (M dn) := on.ok.key (k1.trans hPK).symm
        have t0 := okp.t0
        have ok0 : MsOk p (vfyA p).2.2.2 (sD (M dn) 0) := ⟨okp.t0, okp.t1, Int.le_refl _, by show (0 : Int) ≤ (M dn).today * 262144; omega, okp.ce, okp.ci, okp.pl, okp.pr, okp.f0, okp.f1⟩
        refine ⟨_, ca, _, cc, ga, _, gc, _, _, by rw [hBF], on9.bel, fun V bV => (KR.out V (b4.trans ((on9.bel.trans (bV.mono on9.bel.size)).mono b4.size))).mono (fun e w10 y => ?_)⟩
        obtain ⟨p', rfl, y⟩ := y
        obtain ⟨k', b', rs'⟩ := y.out
        refine ⟨p', rfl, b', fun U bU => (rs' U bU (sD (M dn) 0) ok0 (ADQ dn) ca cc ga gc vs (.inr (ownsRow_base (((o9.lat bV).lat b').lat bU) (Nat.zero_le _))) (((pv9.lat bV).lat b').lat bU)).mono (fun e w11 r => ?_)⟩
        obtain ⟨mb, q, e, k, t⟩ := (((on9.lat bV).lat b').lat bU).resumed r
        have e0 : (M dn).steps - BF = 0 := by rw [hBF]; omega
        exact ⟨mb, q, e, (k.trans k').trans hPK.symm, by rw [e0]; exact t, r.bel⟩))
      have DYS := Lib.hid (p := ∀ (d : Nat), ¬ (M d).over p.hor → ∀ (w W : World) mb1 q1 mb2 q2, q1.key = PK → q2.key = PK → Tw w W mb1 q1 mb2 q2 (M d) (sD (M d) ((M d).steps - BF)) → ∀ V, Below W.heap.size W V → ∀ a n c, RC V a n (rowsF rs d) → Calls Tryz.prog 16 #[.pointer (some ⟨mb1, 0, none⟩), .slice a n c] V fun e w1 => ∃ la ln lc, e = .returned (.tuple #[.slice la ln lc, .int .i64 (G d), .int .i64 0]) ∧ RowKit.Hid (Below w.heap.size w w1 ∧ ∀ w2, Below w1.heap.size w1 w2 → ∀ a n c, RC w2 a n (rowsF rs d) → Calls Tryz.prog 16 #[.pointer (some ⟨mb2, 0, none⟩), .slice a n c] w2 fun e w3 => ∃ ka kn kc, e = .returned (.tuple #[.slice ka kn kc, .int .i64 (G d), .int .i64 0]) ∧ RowKit.Hid (Calls Tryz.prog 18 #[.slice la ln lc, .slice ka kn kc] w3 fun e w4 => e = .returned (.bool true) ∧ RowKit.Hid (Tw w w4 mb1 q1 mb2 q2 (M (d + 1)) (sD (M (d + 1)) ((M (d + 1)).steps - BF)))))) (fun d no w W mb1 q1 mb2 q2 k1 k2 tw V b a n c hr => by
        have st := STP d no
        have := (tw.lat b).days2 (c := c) (k1.trans hPK) (k2.trans hPK) hv no hr
        have e1 : (M d).steps - BF + ((dayGo p (M d) (rowsF rs d)).2.1 : Int) = (M (d + 1)).steps - BF := by
          rw [st]
          simp only [dayMs]
          omega
        rw [e1, ← st] at this
        rw [hG]
        exact this)
      have STS := Lib.hid (p := ∀ (s : Ms) (t : Int) (w W : World) mb1 q1 mb2 q2, q1.key = PK → q2.key = PK → Tw w W mb1 q1 mb2 q2 s (sD s t) → Calls Tryz.prog 19 #[.pointer (some ⟨mb1, 0, none⟩)] W fun e w1 => ∃ ca cc ga gc, e = .returned (.agg #[.int .i64 s.today, .int .i64 s.steps, .slice ca s.cells.length cc, .slice ga s.past.length gc, .int .i64 s.fault, .int .i64 s.day]) ∧ RowKit.Hid (∀ V, Below w1.heap.size w1 V → Calls Tryz.prog 19 #[.pointer (some ⟨mb2, 0, none⟩)] V fun e w2 => ∃ cb cd gb gd, e = .returned (.agg #[.int .i64 s.today, .int .i64 t, .slice cb s.cells.length cd, .slice gb s.past.length gd, .int .i64 s.fault, .int .i64 s.day]) ∧ RowKit.Hid (Below V.heap.size V w2 ∧ ∀ U, Below w2.heap.size w2 U → Calls Tryz.prog 25 #[.agg #[.int .i64 s.today, .int .i64 s.steps, .slice ca s.cells.length cc, .slice ga s.past.length gc, .int .i64 s.fault, .int .i64 s.day], .agg #[.int .i64 s.today, .int .i64 s.steps, .slice cb s.cells.length cd, .slice gb s.past.length gd, .int .i64 s.fault, .int .i64 s.day]] U fun e w3 => e = .returned (.bool true) ∧ RowKit.Hid (Tw w w3 mb1 q1 mb2 q2 s (sD s t))))) (fun s t w W mb1 q1 mb2 q2 k1 k2 tw => tw.states2 (by rw [vfyA_keyM (k1.trans hPK)]; exact hv) (by rw [vfyA_keyM (k2.trans hPK)]; exact hv))
      have SRG := Lib.hid (p := ∀ (s : Ms) (w W : World) mb1 q1 mb2 q2 t, q1.key = PK → Tw w W mb1 q1 mb2 q2 s (sD s t) → 0 ≤ s.steps ∧ s.steps ≤ 1000000000) (fun s w W mb1 q1 mb2 q2 t k1 tw => by
        have okp : MsOk p (vfyA p).2.2.2 s := tw.ok.key (k1.trans hPK).symm
        have := okp.s0
        have := okp.s1
        have := okp.t1
        have := okp.t0
        omega)
      have KW2 := Lib.hid (p := ∀ V, Below W0.heap.size W0 V → Calls Tryz.prog 11 #[p.agg] V fun e w4 => ∃ p' : Pg, e = .returned (.agg #[.slice p'.na p'.names.length p'.nc, .slice p'.ua p'.curs.length p'.uc, .slice p'.pa p'.pool.length p'.pc, .int .i64 p'.hor, .int .i64 p'.cells, .int .i64 p'.slots, .int .i64 p'.stack, .slice p'.da p'.days.length p'.dc]) ∧ RowKit.Hid (Below V.heap.size V w4 ∧ Calls Tryz.prog 12 #[.agg #[.slice p'.na p'.names.length p'.nc, .slice p'.ua p'.curs.length p'.uc, .slice p'.pa p'.pool.length p'.pc, .int .i64 p'.hor, .int .i64 p'.cells, .int .i64 p'.slots, .int .i64 p'.stack, .slice p'.da p'.days.length p'.dc]] w4 fun e w5 => ∃ mb1 q1, e = .returned (.tuple #[.pointer (some ⟨mb1, 0, none⟩), .int .i64 0]) ∧ RowKit.Hid (q1.key = PK ∧ On w4 w5 mb1 q1 (M 0)))) (fun V b => (KW.out V b).mono (fun e w4 z => by
        obtain ⟨p', rfl, z⟩ := z
        obtain ⟨b4, nw⟩ := z.out
        refine ⟨p', rfl, b4, (nw w4 (Below.refl _ _)).mono (fun e w5 y => ?_)⟩
        obtain ⟨mb1, q1, c1, D1, rfl, y⟩ := y
        obtain ⟨k1, b45, m1, g1, g2, g3⟩ := y.out
        have t := on_born b45 m1 g1 g2
        rw [born_keyM k1] at t
        have e0 : M 0 = p.born := by rw [hM]; rfl
        exact ⟨mb1, q1, rfl, k1.trans hPK.symm, by rw [e0]; exact t⟩))
      have TD := Lib.hid (p := ∀ d : Nat, ¬ (M d).over p.hor → (d : Int) ≤ p.hor) (fun d no0 => by
        have no : ¬ (runMs p (vfyA p).2.2.2.back (rowsF rs) d p.born).1.over p.hor := by rw [hM] at no0; exact no0
        have td := (runMs_today (a := rowsF rs) (p := p) (back := (vfyA p).2.2.2.back) d).2 no
        have z := no
        unfold Ms.over at z
        omega)
      have NO0 := Lib.hid (p := ¬ (M 0).over p.hor) (by
        have e0 : M 0 = p.born := by rw [hM]; rfl
        rw [e0]
        unfold Ms.over Pg.born
        simp only
        omega)
      clear KT hr h hR hU B0 P0 hW0 KW KR ADQ STP hM hPK hG hv hBF
      unfold Pg.agg Pg.box at *
      obtain ⟨na, nc, names, ua, uc, curs, pa, pc, pool, hor, cells, slots, stack, da, dc, days⟩ := p
      simp only at *
      obtain ⟨rg1, rg2⟩ := rg
      have n0 : ¬ (dn : Int) < 0 := by omega
      have n1 : ¬ hor < (dn : Int) := by omega
      have n2 : decide (hor < (dn : Int)) = false := decide_eq_false n1
      go_enter Tryz.func8, Tryz.ntmps8
      go_wp2_with fail
      go_at_call 9
      rw [HW.out]
      refine KP.out.mono ?_
      rintro e w1 ⟨rfl, b1⟩
      obtain ⟨⟨a0, a1, a2, a3, a4, a5, a6, a7⟩, _⟩ := CL.out w1 b1
      go_wp2_with fail
      go_at_call 13
      refine (KT1.out w1 b1).mono ?_
      rintro e w2 ⟨tx, ty, tz, rfl, b2⟩
      obtain ⟨W3, hW3⟩ : ∃ W, w2.alloc (.cells #[.int .i64 tx, .int .i64 ty, .int .i64 tz] 41) = W := ⟨_, rfl⟩
      have b12 := b1.trans (b2.mono b1.size)
      have B3 := Lib.hid (p := Below W0.heap.size W0 W3) (by rw [← hW3]; exact b12.trans ((allocBP w2 _).mono b12.size))
      have H3 := Lib.hid hW3
      clear a0 a1 a2 a3 a4 a5 a6 a7 b1 b2 b12 hW3 KP KT1
      go_upto_region 3 with fail
      rw [H3.out]
      obtain ⟨⟨a0, a1, a2, a3, a4, a5, a6, a7⟩, _⟩ := CL.out W3 B3.out
      go_wp2_with fail
      go_at_call 11
      refine (KW2.out W3 B3.out).mono ?_
      rintro e w4 ⟨p1, rfl, h4⟩
      have B4 := Lib.hid (p := Below W0.heap.size W0 w4) (B3.out.trans (h4.out.1.mono B3.out.size))
      have K4 := Lib.hid h4.out.2
      clear h4 a0 a1 a2 a3 a4 a5 a6 a7 KW2
      go_wp2_with fail
      go_at_call 12
      refine K4.out.mono ?_
      rintro e w5 ⟨mb1, q1, rfl, h5⟩
      have KQ1 := Lib.hid h5.out.1
      have O5 := Lib.hid h5.out.2
      clear h5 K4
      have BW4 := Lib.hid (p := ∀ V, Below w4.heap.size w4 V → V.cell? ⟨w.heap.size, 3, none⟩ = some (.int .i64 hor) ∧ Below W0.heap.size W0 V ∧ Below w.heap.size w V) (fun V b => ⟨(CL.out V (B4.out.trans (b.mono B4.out.size))).1.2.2.2.1, B4.out.trans (b.mono B4.out.size), (CL.out V (B4.out.trans (b.mono B4.out.size))).2⟩)
      go_wp2_with (go_at_call 14; refine (KN.out 0 _).mono ?_; rintro e wx ⟨rfl, hwx⟩; replace hwx := hwx.symm; subst hwx)
      go_loopw [12] (fun t wr => ∃ (d : Nat), t = .int .i64 (d : Int) ∧ d ≤ dn ∧ RowKit.Hid (On w4 wr mb1 q1 (M d) ∧ ¬ (M d).over hor)) (fun t _ => dn - (intOf t).toNat)
      case atStart => exact ⟨0, rfl, by omega, O5.out, NO0.out⟩
      case round =>
        clear O5 NO0
        rename World => wr
        obtain ⟨d, rfl, hd, hI⟩ := hrel
        obtain ⟨on, no⟩ := hI.out
        have ON := Lib.hid on
        by_cases hlt : d < dn
        · have kc : (d : Int) < (dn : Int) := by omega
          have ks : IntKind.i64.wrap ((d : Int) + 1) = (d : Int) + 1 := by simp [IntKind.wrap, IntKind.bits, IntKind.signed]; omega
          have K1 := Lib.hid (p := ∀ V, On w4 V mb1 q1 (M d) → ∀ a n c, RC V a n (rowsF rs d) → Calls Tryz.prog 16 #[.pointer (some ⟨mb1, 0, none⟩), .slice a n c] V fun e W' => ∃ la ln lc g, e = .returned (.tuple #[.slice la ln lc, .int .i64 g, .int .i64 0]) ∧ RowKit.Hid (On w4 W' mb1 q1 (M (d + 1)))) (fun V o a n c hr => ONE.out d no w4 V mb1 q1 KQ1.out o a n c hr)
          clear hI on no SRS DYS STS SRG
          go_wp2_with fail
          go_at_call 17
          refine (KA.out wr (BW4.out wr ON.out.bel).2.1 d).mono ?_
          rintro e w6 ⟨a6, n6, c6, rfl, h6⟩
          have K6 := Lib.hid (K1.out w6 (ON.out.lat h6.out.2) a6 n6 c6 h6.out.1)
          clear h6 K1
          go_wp2_with fail
          go_at_call 16
          refine K6.out.mono ?_
          rintro e w7 ⟨la, ln, lc, g, rfl, h7⟩
          have K7 := Lib.hid (OVO.out (M (d + 1)) w4 w7 mb1 q1 KQ1.out h7.out)
          clear K6
          by_cases ov : (M (d + 1)).over hor
          · rw [decide_eq_true ov] at K7
            go_wp2_with fail
            go_at_call 15
            refine K7.out.mono ?_
            rintro e w8 ⟨rfl, b8⟩
            have B8 := Lib.hid (BW4.out w8 (h7.out.lat b8).bel).2.2
            clear b8
            go_wp2
            go_ret
            exact ⟨rfl, B8.out⟩
          · rw [decide_eq_false ov] at K7
            have NO := Lib.hid ov
            go_wp2_with fail
            go_at_call 15
            refine K7.out.mono ?_
            rintro e w8 ⟨rfl, b8⟩
            have O8 := Lib.hid (h7.out.lat b8)
            clear b8 K7 h7
            go_wp2
            refine ⟨⟨d + 1, by simp, by omega, O8.out, NO.out⟩, ?_⟩
            simp [intOf]
            omega
        · obtain rfl : d = dn := by omega
          have kc : ¬ (d : Int) < (d : Int) := by omega
          have KS := Lib.hid (SRS.out w4 wr mb1 q1 B4.out KQ1.out on)
          clear hI on no SRS ONE ON
          go_wp2_with fail
          go_at_call 19
          refine KS.out.mono ?_
          rintro e w9 ⟨td, ca, cl, cc, ga, gl, gc, fl, dd, rfl, h9⟩
          obtain ⟨W10, hW10⟩ : ∃ W, w9.alloc (.cells #[.int .i64 td, .int .i64 BF, .slice ca cl cc, .slice ga gl gc, .int .i64 fl, .int .i64 dd] 51) = W := ⟨_, rfl⟩
          obtain ⟨sb, hsb⟩ : ∃ sb, w9.heap.size = sb := ⟨_, rfl⟩
          have c10 : BkP W10 sb #[.int .i64 td, .int .i64 BF, .slice ca cl cc, .slice ga gl gc, .int .i64 fl, .int .i64 dd] 51 := by rw [← hW10, ← hsb]; exact heapN _ _
          obtain ⟨s0, s1, s2, s3, s4, s5⟩ := box_all6 c10
          have f1 := c10.frozen 1
          have b910 : Below w9.heap.size w9 W10 := by rw [← hW10]; exact allocBP _ _
          obtain ⟨W11, hW11⟩ : ∃ W, W10.setCell ⟨sb, 1, none⟩ (.int .i64 0) = W := ⟨_, rfl⟩
          have c11 : BkP W11 sb #[.int .i64 td, .int .i64 0, .slice ca cl cc, .slice ga gl gc, .int .i64 fl, .int .i64 dd] 51 := by
            rw [← hW11]
            have := c10.set2 1 (.int .i64 0) (by simp)
            simpa using this
          have b911 : Below w9.heap.size w9 W11 := by rw [← hW11]; exact b910.setCell (by exact (by omega : w9.heap.size ≤ sb)) _
          have B11 := Lib.hid (p := Below w4.heap.size w4 W11) (h9.out.1.trans (b911.mono h9.out.1.size))
          have KOw := Lib.hid (p := ∀ V, Below W11.heap.size W11 V → Calls Tryz.prog 11 #[.agg #[.slice na names.length nc, .slice ua curs.length uc, .slice pa pool.length pc, .int .i64 hor, .int .i64 cells, .int .i64 slots, .int .i64 stack, .slice da days.length dc]] V fun e w10 => ∃ p' : Pg, e = .returned (.agg #[.slice p'.na p'.names.length p'.nc, .slice p'.ua p'.curs.length p'.uc, .slice p'.pa p'.pool.length p'.pc, .int .i64 p'.hor, .int .i64 p'.cells, .int .i64 p'.slots, .int .i64 p'.stack, .slice p'.da p'.days.length p'.dc]) ∧ RowKit.Hid (Below V.heap.size V w10 ∧ ∀ U, Below w10.heap.size w10 U → Calls Tryz.prog 23 #[.agg #[.slice p'.na p'.names.length p'.nc, .slice p'.ua p'.curs.length p'.uc, .slice p'.pa p'.pool.length p'.pc, .int .i64 p'.hor, .int .i64 p'.cells, .int .i64 p'.slots, .int .i64 p'.stack, .slice p'.da p'.days.length p'.dc], .agg #[.int .i64 td, .int .i64 0, .slice ca cl cc, .slice ga gl gc, .int .i64 fl, .int .i64 dd]] U fun e w11 => ∃ mb q, e = .returned (.tuple #[.pointer (some ⟨mb, 0, none⟩), .int .i64 0]) ∧ RowKit.Hid (q.key = PK ∧ Tw w4 w11 mb1 q1 mb q (M d) (sD (M d) ((M d).steps - BF)) ∧ Below U.heap.size U w11))) (fun V b => h9.out.2 V (b911.trans (b.mono b911.size)))
          have CS := Lib.hid (p := ∀ w', Below W11.heap.size W11 w' → (w'.cell? ⟨w.heap.size, 0, none⟩ = some (.slice na names.length nc) ∧ w'.cell? ⟨w.heap.size, 1, none⟩ = some (.slice ua curs.length uc) ∧ w'.cell? ⟨w.heap.size, 2, none⟩ = some (.slice pa pool.length pc) ∧ w'.cell? ⟨w.heap.size, 3, none⟩ = some (.int .i64 hor) ∧ w'.cell? ⟨w.heap.size, 4, none⟩ = some (.int .i64 cells) ∧ w'.cell? ⟨w.heap.size, 5, none⟩ = some (.int .i64 slots) ∧ w'.cell? ⟨w.heap.size, 6, none⟩ = some (.int .i64 stack) ∧ w'.cell? ⟨w.heap.size, 7, none⟩ = some (.slice da days.length dc)) ∧ (w'.cell? ⟨sb, 0, none⟩ = some (.int .i64 td) ∧ w'.cell? ⟨sb, 1, none⟩ = some (.int .i64 0) ∧ w'.cell? ⟨sb, 2, none⟩ = some (.slice ca cl cc) ∧ w'.cell? ⟨sb, 3, none⟩ = some (.slice ga gl gc) ∧ w'.cell? ⟨sb, 4, none⟩ = some (.int .i64 fl) ∧ w'.cell? ⟨sb, 5, none⟩ = some (.int .i64 dd))) (fun w' b => ⟨(CL.out w' (BW4.out w' (B11.out.trans (b.mono B11.out.size))).2.1).1, box_all6 (c11.lat b)⟩)
          have H10 := Lib.hid hW10
          have H11 := Lib.hid hW11
          have HSB := Lib.hid hsb
          clear hW10 hW11 c10 c11 b910 b911 h9 KS hsb
          go_upto_region 15 with fail
          rw [H10.out, HSB.out]
          go_upto_region 17 with fail
          rw [H11.out]
          clear s0 s1 s2 s3 s4 s5 f1
          obtain ⟨⟨a0, a1, a2, a3, a4, a5, a6, a7⟩, ⟨s0, s1, s2, s3, s4, s5⟩⟩ := CS.out W11 (Below.refl _ _)
          go_cut [15, 16] (fun xv fv wx => ∃ (mbx : Nat) (qx : Pg), xv = .pointer (some ⟨mbx, 0, none⟩) ∧ fv = .int .i64 0 ∧ RowKit.Hid (qx.key = PK ∧ Tw w4 wx mb1 q1 mbx qx (M d) (sD (M d) ((M d).steps - BF))))
          case first =>
            go_region_held3 (fun w' => w'.cell? ⟨w.heap.size, 0, none⟩ = some (.slice na names.length nc) ∧ w'.cell? ⟨w.heap.size, 1, none⟩ = some (.slice ua curs.length uc) ∧ w'.cell? ⟨w.heap.size, 2, none⟩ = some (.slice pa pool.length pc) ∧ w'.cell? ⟨w.heap.size, 3, none⟩ = some (.int .i64 hor) ∧ w'.cell? ⟨w.heap.size, 4, none⟩ = some (.int .i64 cells) ∧ w'.cell? ⟨w.heap.size, 5, none⟩ = some (.int .i64 slots) ∧ w'.cell? ⟨w.heap.size, 6, none⟩ = some (.int .i64 stack) ∧ w'.cell? ⟨w.heap.size, 7, none⟩ = some (.slice da days.length dc) ∧ w'.cell? ⟨sb, 0, none⟩ = some (.int .i64 td) ∧ w'.cell? ⟨sb, 1, none⟩ = some (.int .i64 0) ∧ w'.cell? ⟨sb, 2, none⟩ = some (.slice ca cl cc) ∧ w'.cell? ⟨sb, 3, none⟩ = some (.slice ga gl gc) ∧ w'.cell? ⟨sb, 4, none⟩ = some (.int .i64 fl) ∧ w'.cell? ⟨sb, 5, none⟩ = some (.int .i64 dd))
              (go_keep)
              (first
                | (go_at_call 11; refine (KOw.out _ (by first | exact Below.refl _ _ | exact drew1 _)).mono ?_; rintro e w12 ⟨p3, rfl, h12⟩; have B12 := Lib.hid (p := Below W11.heap.size W11 w12) (by first | exact h12.out.1 | exact (drew1 W11).trans h12.out.1); obtain ⟨⟨g0, g1, g2, g3, g4, g5, g6, g7⟩, ⟨i0, i1, i2, i3, i4, i5⟩⟩ := CS.out w12 B12.out)
                | (go_at_call 23; refine (h12.out.2 _ (by first | exact Below.refl _ _ | exact drew1 _)).mono ?_; rintro e w13 ⟨mbx, qx, rfl, h13⟩; have B13 := Lib.hid (p := Below W11.heap.size W11 w13) (by first | exact B12.out.trans (h13.out.2.2.mono B12.out.size) | exact (B12.out.trans (drew1B2 _ _)).trans (h13.out.2.2.mono (B12.out.trans (drew1B2 _ _)).size)); obtain ⟨⟨j0, j1, j2, j3, j4, j5, j6, j7⟩, ⟨m0, m1, m2, m3, m4, m5⟩⟩ := CS.out w13 B13.out))
            all_goals
              go_wp2
              go_meet
              case rel => exact ⟨mbx, qx, rfl, rfl, h13.out.1, by first | exact h13.out.2.1 | exact h13.out.2.1.lat (drew1 _)⟩
          case rest =>
            obtain ⟨mbx, qx, hx1, hx2, hcut⟩ := hcut
            subst hx1 hx2
            have KQX := Lib.hid hcut.out.1
            have TX := Lib.hid hcut.out.2
            clear hcut CS KOw B11 H10 H11 a0 a1 a2 a3 a4 a5 a6 a7 s0 s1 s2 s3 s4 s5
            go_wp2_with (go_at_call 14; refine (KN.out 0 _).mono ?_; rintro e wx ⟨rfl, hwx⟩; replace hwx := hwx.symm; subst hwx)
            go_loopw [17] (fun t wr => ∃ (k : Nat), t = .int .i64 (k : Int) ∧ (k : Int) ≤ hor + 1 ∧ RowKit.Hid (Tw w4 wr mb1 q1 mbx qx (M k) (sD (M k) ((M k).steps - BF)))) (fun t _ => (hor + 2).toNat - (intOf t).toNat)
            case atStart => exact ⟨d, rfl, by omega, TX.out⟩
            case round =>
              clear TX
              rename World => wr
              obtain ⟨k, rfl, hk, hI⟩ := hrel
              have tw := hI.out
              have KOv := Lib.hid (OVO.out (M k) w4 wr mb1 q1 KQ1.out tw.one)
              by_cases ov : (M k).over hor
              · rw [decide_eq_true ov] at KOv
                have KO2 := Lib.hid (p := ∀ V, Below wr.heap.size wr V → Calls Tryz.prog 15 #[.pointer (some ⟨mbx, 0, none⟩)] V fun e w' => e = .returned (.bool true) ∧ Below V.heap.size V w') (fun V b => by
                  have := OVO.out _ w4 V mbx qx KQX.out (tw.lat b).swap.one
                  rw [decide_eq_true (show (sD (M k) ((M k).steps - BF)).over hor from ov)] at this
                  exact this)
                have TB := Lib.hid tw.bel
                clear hI tw ov
                go_wp2_with fail
                go_at_call 15
                refine KOv.out.mono ?_
                rintro e w19 ⟨rfl, b9⟩
                have B9 := Lib.hid b9
                clear b9 KOv
                go_wp2_with fail
                go_at_call 15
                refine (KO2.out w19 B9.out).mono ?_
                rintro e w20 ⟨rfl, b10⟩
                have B10 := Lib.hid (p := Below w.heap.size w w20) (by
                  have x1 := TB.out.trans (B9.out.mono TB.out.size)
                  have x2 := x1.trans (b10.mono x1.size)
                  exact (BW4.out w20 x2).2.2)
                clear b10
                go_wp2
                go_ret
                exact ⟨rfl, B10.out⟩
              · rw [decide_eq_false ov] at KOv
                have dh := TD.out k ov
                have ks : IntKind.i64.wrap ((k : Int) + 1) = (k : Int) + 1 := by simp [IntKind.wrap, IntKind.bits, IntKind.signed]; omega
                have dn2 : ¬ hor < (k : Int) := by omega
                have KD := Lib.hid (fun (V : World) (b : Below wr.heap.size wr V) (a : Option Addr) (n c : Nat) (hr : RC V a n (rowsF rs k)) => DYS.out k ov w4 wr mb1 q1 mbx qx KQ1.out KQX.out tw V b a n c hr)
                obtain ⟨T1, hT1⟩ : ∃ T, (M (k + 1)).steps - BF = T := ⟨_, rfl⟩
                rw [hT1] at KD
                have TWR := Lib.hid tw
                have HT1 := Lib.hid hT1
                clear hI tw ov hT1 DYS TD OVO
                go_wp2_with fail
                go_at_call 15
                refine KOv.out.mono ?_
                rintro e w19 ⟨rfl, b9⟩
                have B9 := Lib.hid b9
                have a3 := (BW4.out w19 (TWR.out.lat b9).bel).1
                have BB9 := Lib.hid (BW4.out w19 (TWR.out.lat b9).bel).2.1
                clear b9 KOv TWR
                go_wp2_with fail
                go_at_call 17
                refine (KA.out w19 BB9.out k).mono ?_
                rintro e w20 ⟨a10, n10, c10, rfl, h10⟩
                have K10 := Lib.hid (KD.out w20 (B9.out.trans (h10.out.2.mono B9.out.size)) a10 n10 c10 h10.out.1)
                clear h10 KD a3 BB9 B9
                go_wp2_with fail
                go_at_call 16
                refine K10.out.mono ?_
                rintro e w21 ⟨la, ln, lc, rfl, h11⟩
                have B21 := Lib.hid h11.out.1
                have K11 := Lib.hid h11.out.2
                clear h11 K10
                go_wp2_with fail
                go_at_call 17
                refine (KA.out w21 (BW4.out w21 B21.out).2.1 k).mono ?_
                rintro e w22 ⟨a12, n12, c12, rfl, h12⟩
                have K12 := Lib.hid (K11.out w22 h12.out.2 a12 n12 c12 h12.out.1)
                clear h12 K11 B21
                go_wp2_with fail
                go_at_call 16
                refine K12.out.mono ?_
                rintro e w23 ⟨ka, kn, kc2, rfl, h13⟩
                go_wp2_with fail
                go_at_call 18
                refine h13.out.mono ?_
                rintro e w24 ⟨rfl, h14⟩
                have K14 := Lib.hid (STS.out (M (k + 1)) T1 w4 w24 mb1 q1 mbx qx KQ1.out KQX.out h14.out)
                obtain ⟨r0, r1⟩ := SRG.out (M (k + 1)) w4 w24 mb1 q1 mbx qx T1 KQ1.out h14.out
                have kw : IntKind.i64.wrap (T1 + BF) = (M (k + 1)).steps := by
                  have := HT1.out
                  rw [show T1 + BF = (M (k + 1)).steps by omega]
                  simp [IntKind.wrap, IntKind.bits, IntKind.signed]
                  omega
                clear h13 h14 K12 r0 r1
                go_wp2_with fail
                go_at_call 19
                refine K14.out.mono ?_
                rintro e w25 ⟨ca1, cc1, ga1, gc1, rfl, h15⟩
                obtain ⟨W26, hW26⟩ : ∃ W, w25.alloc (.cells #[.int .i64 (M (k + 1)).today, .int .i64 (M (k + 1)).steps, .slice ca1 (M (k + 1)).cells.length cc1, .slice ga1 (M (k + 1)).past.length gc1, .int .i64 (M (k + 1)).fault, .int .i64 (M (k + 1)).day] 51) = W := ⟨_, rfl⟩
                have c26 : BkP W26 w25.heap.size #[.int .i64 (M (k + 1)).today, .int .i64 (M (k + 1)).steps, .slice ca1 (M (k + 1)).cells.length cc1, .slice ga1 (M (k + 1)).past.length gc1, .int .i64 (M (k + 1)).fault, .int .i64 (M (k + 1)).day] 51 := by rw [← hW26]; exact heapN _ _
                have K26 := Lib.hid (h15.out W26 (by rw [← hW26]; exact allocBP _ _))
                have C26 := Lib.hid c26
                have lt26 : w25.heap.size < W26.heap.size := by rw [← hW26]; simp
                have H26 := Lib.hid hW26
                clear K14 h15 c26 hW26
                go_upto_region 29 with fail
                rw [H26.out]
                go_wp2_with fail
                go_at_call 19
                refine K26.out.mono ?_
                rintro e w27 ⟨cb1, cd1, gb1, gd1, rfl, h16⟩
                obtain ⟨W28, hW28⟩ : ∃ W, w27.alloc (.cells #[.int .i64 (M (k + 1)).today, .int .i64 T1, .slice cb1 (M (k + 1)).cells.length cd1, .slice gb1 (M (k + 1)).past.length gd1, .int .i64 (M (k + 1)).fault, .int .i64 (M (k + 1)).day] 51) = W := ⟨_, rfl⟩
                have c28 : BkP W28 w27.heap.size #[.int .i64 (M (k + 1)).today, .int .i64 T1, .slice cb1 (M (k + 1)).cells.length cd1, .slice gb1 (M (k + 1)).past.length gd1, .int .i64 (M (k + 1)).fault, .int .i64 (M (k + 1)).day] 51 := by rw [← hW28]; exact heapN _ _
                have y1 : W28.cell? ⟨w27.heap.size, 1, none⟩ = some (.int .i64 T1) := by rw [c28.cell]; rfl
                have z1 := c28.frozen 1
                obtain ⟨W29, hW29⟩ : ∃ W, W28.setCell ⟨w27.heap.size, 1, none⟩ (.int .i64 (M (k + 1)).steps) = W := ⟨_, rfl⟩
                have c29 : BkP W29 w27.heap.size #[.int .i64 (M (k + 1)).today, .int .i64 (M (k + 1)).steps, .slice cb1 (M (k + 1)).cells.length cd1, .slice gb1 (M (k + 1)).past.length gd1, .int .i64 (M (k + 1)).fault, .int .i64 (M (k + 1)).day] 51 := by
                  rw [← hW29]
                  have := c28.set2 1 (.int .i64 (M (k + 1)).steps) (by simp)
                  simpa using this
                have b2729 : Below w27.heap.size w27 W29 := by rw [← hW29, ← hW28]; exact (allocBP _ _).setCell (by exact Nat.le_refl _) _
                obtain ⟨u0, u1, u2, u3, u4, u5⟩ := box_all6 c29
                obtain ⟨v0, v1, v2, v3, v4, v5⟩ := box_all6 ((C26.out.lat h16.out.1).lat b2729)
                have K29 := Lib.hid (h16.out.2 W29 b2729)
                have H28 := Lib.hid hW28
                have H29 := Lib.hid hW29
                clear K26 h16 c28 c29 b2729 hW28 hW29 C26 H26
                go_upto_region 30 with fail
                rw [H28.out]
                go_upto_region 31 with fail
                rw [H29.out]
                clear y1 z1
                go_wp2_with fail
                go_at_call 25
                refine K29.out.mono ?_
                rintro e w30 ⟨rfl, h17⟩
                have TE := Lib.hid (p := Tw w4 w30 mb1 q1 mbx qx (M (k + 1)) (sD (M (k + 1)) ((M (k + 1)).steps - BF))) (by rw [HT1.out]; exact h17.out)
                clear K29 h17 u0 u1 u2 u3 u4 u5 v0 v1 v2 v3 v4 v5
                go_wp2
                refine ⟨⟨k + 1, by simp, by omega, TE.out⟩, ?_⟩
                simp [intOf]
                omega
    · have rg2 : day < 0 ∨ p.hor < day := by omega
      clear KT hr h hR hU B0 P0 hW0 hv rg
      unfold Pg.agg Pg.box at *
      obtain ⟨na, nc, names, ua, uc, curs, pa, pc, pool, hor, cells, slots, stack, da, dc, days⟩ := p
      simp only at *
      go_enter Tryz.func8, Tryz.ntmps8
      go_wp2_with fail
      go_at_call 9
      rw [HW.out]
      refine KP.out.mono ?_
      rintro e w1 ⟨rfl, b1⟩
      obtain ⟨⟨a0, a1, a2, a3, a4, a5, a6, a7⟩, _⟩ := CL.out w1 b1
      go_wp2_with fail
      go_at_call 13
      refine (KT1.out w1 b1).mono ?_
      rintro e w2 ⟨tx, ty, tz, rfl, b2⟩
      obtain ⟨W3, hW3⟩ : ∃ W, w2.alloc (.cells #[.int .i64 tx, .int .i64 ty, .int .i64 tz] 41) = W := ⟨_, rfl⟩
      have b12 := b1.trans (b2.mono b1.size)
      have B3 := Lib.hid (p := Below W0.heap.size W0 W3) (by rw [← hW3]; exact b12.trans ((allocBP w2 _).mono b12.size))
      have H3 := Lib.hid hW3
      clear a0 a1 a2 a3 a4 a5 a6 a7 b1 b2 b12 hW3 KP KT1
      go_upto_region 3 with fail
      rw [H3.out]
      obtain ⟨⟨a0, a1, a2, a3, a4, a5, a6, a7⟩, bw⟩ := CL.out W3 B3.out
      have BW := Lib.hid bw
      clear bw
      by_cases z : day < 0
      · have z1 : decide (day < 0) = true := decide_eq_true z
        go_wp2
        go_ret
        exact ⟨rfl, BW.out⟩
      · have z2 : hor < day := by omega
        have z1 : decide (day < 0) = false := decide_eq_false z
        have z3 : decide (hor < day) = true := decide_eq_true z2
        go_wp2
        go_ret
        exact ⟨rfl, BW.out⟩
  · have KT1 := Lib.hid (p := ∀ V, Below W0.heap.size W0 V → Calls Tryz.prog 13 #[p.agg] V fun e w' => ∃ x y z, e = .returned (.tuple #[.agg #[.int .i64 x, .int .i64 y, .int .i64 z], .bool false]) ∧ Below V.heap.size V w') (fun V b => (KT.out V b).mono (fun e w' q => by obtain ⟨rfl, q2⟩ := q; rw [decide_eq_false hv]; exact ⟨_, _, _, rfl, q2⟩))
    clear KT hr h hR hU B0 P0 hW0 hv
    unfold Pg.agg Pg.box at *
    obtain ⟨na, nc, names, ua, uc, curs, pa, pc, pool, hor, cells, slots, stack, da, dc, days⟩ := p
    simp only at *
    go_enter Tryz.func8, Tryz.ntmps8
    go_wp2_with fail
    go_at_call 9
    rw [HW.out]
    refine KP.out.mono ?_
    rintro e w1 ⟨rfl, b1⟩
    obtain ⟨⟨a0, a1, a2, a3, a4, a5, a6, a7⟩, _⟩ := CL.out w1 b1
    go_wp2_with fail
    go_at_call 13
    refine (KT1.out w1 b1).mono ?_
    rintro e w2 ⟨tx, ty, tz, rfl, b2⟩
    have b12 := b1.trans (b2.mono b1.size)
    have BE := Lib.hid (p := ∀ o, Below w.heap.size w (w2.alloc o)) (fun o => (CL.out _ (b12.trans ((allocBP w2 o).mono b12.size))).2)
    clear b1 b2 b12
    go_wp2
    go_ret
    exact ⟨rfl, BE.out _⟩
end Go.Proofs.YtpfjnnkjoabgbaaGreatDoor
