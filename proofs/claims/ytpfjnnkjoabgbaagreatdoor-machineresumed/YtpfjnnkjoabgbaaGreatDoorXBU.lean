import Derived.Test.YtpfjnnkjoabgbaaGreatDoorXBT
namespace Go.Proofs.YtpfjnnkjoabgbaaGreatDoor
open Go.RowKit
set_option linter.unusedVariables false
set_option linter.unusedSimpArgs false
set_option maxRecDepth 100000 in
set_option maxHeartbeats 6400000 in
theorem machineResumed_any {w : World} {p : Pg} (h : PV w p) (hR : Rws w) (hU : Rul w) {ra : Option Addr} {rn rc : Nat} {rs : List Rw} (hr : RL w ra rn rs) {ha : Option Addr} {hn hc : Nat} {hs : List Bool} (hh : Hop w ha hn hs) (hl : hn ≤ maxLen) : Calls Tryz.prog 7 #[p.agg, .slice ra rn rc, .slice ha hn hc] w fun e w' => e = .returned (.bool true) ∧ Below w.heap.size w w' := by
  obtain ⟨W0, hW0⟩ : ∃ W, w.alloc p.box = W := ⟨_, rfl⟩
  have B0 : Below w.heap.size w W0 := by rw [← hW0]; exact allocBP w p.box
  have P0 : BkP W0 w.heap.size #[.slice p.na p.names.length p.nc, .slice p.ua p.curs.length p.uc, .slice p.pa p.pool.length p.pc, .int .i64 p.hor, .int .i64 p.cells, .int .i64 p.slots, .int .i64 p.stack, .slice p.da p.days.length p.dc] 26 := by rw [← hW0]; exact heapN w p.box
  have KP := Lib.hid (plain15_any (hR.below B0) (hU.lat B0))
  have CL := Lib.hid (p := ∀ V, Below W0.heap.size W0 V → (V.cell? ⟨w.heap.size, 0, none⟩ = some (.slice p.na p.names.length p.nc) ∧ V.cell? ⟨w.heap.size, 1, none⟩ = some (.slice p.ua p.curs.length p.uc) ∧ V.cell? ⟨w.heap.size, 2, none⟩ = some (.slice p.pa p.pool.length p.pc) ∧ V.cell? ⟨w.heap.size, 3, none⟩ = some (.int .i64 p.hor) ∧ V.cell? ⟨w.heap.size, 4, none⟩ = some (.int .i64 p.cells) ∧ V.cell? ⟨w.heap.size, 5, none⟩ = some (.int .i64 p.slots) ∧ V.cell? ⟨w.heap.size, 6, none⟩ = some (.int .i64 p.stack) ∧ V.cell? ⟨w.heap.size, 7, none⟩ = some (.slice p.da p.days.length p.dc)) ∧ Below w.heap.size w V) (fun V b => ⟨box_all8 (P0.lat b), B0.trans (b.mono B0.size)⟩)
  have KT := Lib.hid (fun V (b : Below W0.heap.size W0 V) => taken_any (h.later (B0.trans (b.mono B0.size))) (hR.below (B0.trans (b.mono B0.size))) (hU.lat (B0.trans (b.mono B0.size))))
  have HW := Lib.hid hW0
  have nr := hr.2.1
  have KN := Lib.hid (fun e W => num15_any e W)
  by_cases hv : (vfyA p).1 = 0
  · have KA := Lib.hid (p := ∀ V, Below W0.heap.size W0 V → ∀ d : Nat, Calls Tryz.prog 17 #[.slice ra rn rc, .int .i64 (d : Int)] V fun e w' => ∃ a n c, e = .returned (.slice a n c) ∧ RowKit.Hid (RC w' a n (rowsF rs d) ∧ Below V.heap.size V w')) (fun V b d => (at_any (rc := rc) (hr.later (B0.trans (b.mono B0.size))) (by omega) (d : Int)).mono (fun e w' q => by
      obtain ⟨b5, a5, n5, c5, rfl, q1, _⟩ := q
      rw [if_pos (by omega), Int.toNat_natCast] at q1
      exact ⟨a5, n5, c5, rfl, q1, b5⟩))
    have HP := Lib.hid (p := ∀ V, Below W0.heap.size W0 V → Hop V ha hn hs) (fun V b => hh.lat (B0.trans (b.mono B0.size)))
    have hor4 := (nds_of hv).2.2.2.1
    have hor5 := (nds_of hv).2.2.2.2.1
    have KW := Lib.hid (fun V (b : Below W0.heap.size W0 V) => new_owned hv h hR hU (B0.trans (b.mono B0.size)))
    have KR := Lib.hid (fun V (b : Below W0.heap.size W0 V) => resume_owned hv h hR hU (B0.trans (b.mono B0.size)))
    have KT1 := Lib.hid (p := ∀ V, Below W0.heap.size W0 V → Calls Tryz.prog 13 #[p.agg] V fun e w' => ∃ x y z, e = .returned (.tuple #[.agg #[.int .i64 x, .int .i64 y, .int .i64 z], .bool true]) ∧ Below V.heap.size V w') (fun V b => (KT.out V b).mono (fun e w' q => by obtain ⟨rfl, q2⟩ := q; rw [decide_eq_true hv]; exact ⟨_, _, _, rfl, q2⟩))
    obtain ⟨M, hM⟩ : ∃ M : Nat → Ms, M = fun d => (runMs p (vfyA p).2.2.2.back (rowsF rs) d p.born).1 := ⟨_, rfl⟩
    obtain ⟨PK, hPK⟩ : ∃ K, K = p.key := ⟨_, rfl⟩
    obtain ⟨G, hG⟩ : ∃ G : Nat → Int, G = fun d => (dayGo p (M d) (rowsF rs d)).1 := ⟨_, rfl⟩
    have DYS := Lib.hid (p := ∀ (d : Nat), ¬ (M d).over p.hor → ∀ (w W : World) mb1 q1 mb2 q2, q1.key = PK → q2.key = PK → Tw w W mb1 q1 mb2 q2 (M d) (M d) → ∀ V, Below W.heap.size W V → ∀ a n c, RC V a n (rowsF rs d) → Calls Tryz.prog 16 #[.pointer (some ⟨mb1, 0, none⟩), .slice a n c] V fun e w1 => ∃ la ln lc, e = .returned (.tuple #[.slice la ln lc, .int .i64 (G d), .int .i64 0]) ∧ RowKit.Hid (Below w.heap.size w w1 ∧ ∀ w2, Below w1.heap.size w1 w2 → ∀ a n c, RC w2 a n (rowsF rs d) → Calls Tryz.prog 16 #[.pointer (some ⟨mb2, 0, none⟩), .slice a n c] w2 fun e w3 => ∃ ka kn kc, e = .returned (.tuple #[.slice ka kn kc, .int .i64 (G d), .int .i64 0]) ∧ RowKit.Hid (Calls Tryz.prog 18 #[.slice la ln lc, .slice ka kn kc] w3 fun e w4 => e = .returned (.bool true) ∧ RowKit.Hid (Tw w w4 mb1 q1 mb2 q2 (M (d + 1)) (M (d + 1)))))) (fun d no w W mb1 q1 mb2 q2 k1 k2 tw V b a n c hr => by
      have st : M (d + 1) = dayMs p (vfyA p).2.2.2.back (M d) (rowsF rs d) := by
        rw [hM] at no ⊢
        simp only [runMs]
        rw [if_neg no]
      have := (tw.lat b).days (c := c) (k1.trans hPK) (k2.trans hPK) hv no hr
      rw [← st] at this
      rw [hG]
      exact this)
    have STS := Lib.hid (p := ∀ (s : Ms) (w W : World) mb1 q1 mb2 q2, q1.key = PK → q2.key = PK → Tw w W mb1 q1 mb2 q2 s s → Calls Tryz.prog 19 #[.pointer (some ⟨mb1, 0, none⟩)] W fun e w1 => ∃ ca cc ga gc, e = .returned (.agg #[.int .i64 s.today, .int .i64 s.steps, .slice ca s.cells.length cc, .slice ga s.past.length gc, .int .i64 s.fault, .int .i64 s.day]) ∧ RowKit.Hid (Calls Tryz.prog 19 #[.pointer (some ⟨mb2, 0, none⟩)] w1 fun e w2 => ∃ cb cd gb gd, e = .returned (.agg #[.int .i64 s.today, .int .i64 s.steps, .slice cb s.cells.length cd, .slice gb s.past.length gd, .int .i64 s.fault, .int .i64 s.day]) ∧ RowKit.Hid (Calls Tryz.prog 25 #[.agg #[.int .i64 s.today, .int .i64 s.steps, .slice ca s.cells.length cc, .slice ga s.past.length gc, .int .i64 s.fault, .int .i64 s.day], .agg #[.int .i64 s.today, .int .i64 s.steps, .slice cb s.cells.length cd, .slice gb s.past.length gd, .int .i64 s.fault, .int .i64 s.day]] w2 fun e w3 => e = .returned (.bool true) ∧ RowKit.Hid (Tw w w3 mb1 q1 mb2 q2 s s)))) (fun s w W mb1 q1 mb2 q2 k1 k2 tw => tw.states (by rw [vfyA_keyM (k1.trans hPK)]; exact hv) (by rw [vfyA_keyM (k2.trans hPK)]; exact hv))
    have OVS := Lib.hid (p := ∀ (s : Ms) (w W : World) mb1 q1 mb2 q2, q1.key = PK → Tw w W mb1 q1 mb2 q2 s s → Calls Tryz.prog 15 #[.pointer (some ⟨mb1, 0, none⟩)] W fun e w' => e = .returned (.bool (decide (s.over p.hor))) ∧ Below W.heap.size W w') (fun s w W mb1 q1 mb2 q2 k1 tw => by
      have eh : q1.hor = p.hor := congrArg (fun k => k.2.2.2.1) (k1.trans hPK)
      have := tw.over
      rw [eh] at this
      exact this)
    have SBS := Lib.hid (p := ∀ (s : Ms) (w W : World) mb1 q1 mb2 q2, q2.key = PK → Tw w W mb1 q1 mb2 q2 s s → Calls Tryz.prog 19 #[.pointer (some ⟨mb2, 0, none⟩)] W fun e w1 => ∃ ca cc ga gc, e = .returned (.agg #[.int .i64 s.today, .int .i64 s.steps, .slice ca s.cells.length cc, .slice ga s.past.length gc, .int .i64 s.fault, .int .i64 s.day]) ∧ RowKit.Hid (CeR w1 (.slice ca s.cells.length cc) s.cells ∧ (∃ vs, PaV w1 (.slice ga s.past.length gc) s.past vs) ∧ Below W.heap.size W w1 ∧ MsOk p (vfyA p).2.2.2 s)) (fun s w W mb1 q1 mb2 q2 k2 tw => (tw.swap.state (by rw [vfyA_keyM (k2.trans hPK)]; exact hv)).mono (fun e w1 z => by
      obtain ⟨b1, ca, cc, ga, gc, vs, rfl, o1, pv1, _⟩ := z
      exact ⟨ca, cc, ga, gc, rfl, .inr (ownsRow_base o1 (Nat.zero_le _)), ⟨vs, pv1⟩, b1, tw.swap.ok.key (k2.trans hPK).symm⟩))
    have ADQ := Lib.hid (p := ∀ (d : Nat) (q : Pg), q.key = p.key → AdM q (M d)) (fun d q k => by
      have hvq : (vfyA q).1 = 0 := by rw [vfyA_keyM k]; exact hv
      obtain ⟨_, _, _, _, _, _, _, _, hcan⟩ := nds_of hvq
      have := AdM.run hcan.2.2.1 (back := (vfyA p).2.2.2.back) (a := rowsF rs) d
      rw [born_keyM k, runMs_keyM k] at this
      rw [hM]
      exact this)
    have KR2 := Lib.hid (p := ∀ (d : Nat) (V : World), Below W0.heap.size W0 V → Calls Tryz.prog 11 #[p.agg] V fun e w' => ∃ p' : Pg, e = .returned (.agg #[.slice p'.na p'.names.length p'.nc, .slice p'.ua p'.curs.length p'.uc, .slice p'.pa p'.pool.length p'.pc, .int .i64 p'.hor, .int .i64 p'.cells, .int .i64 p'.slots, .int .i64 p'.stack, .slice p'.da p'.days.length p'.dc]) ∧ RowKit.Hid (Below V.heap.size V w' ∧ ∀ (w4 : World) mb1 q1 mb2 q2, q2.key = PK → Tw w4 w' mb1 q1 mb2 q2 (M d) (M d) → Calls Tryz.prog 19 #[.pointer (some ⟨mb2, 0, none⟩)] w' fun e w1 => ∃ td sp ca cl cc ga gl gc fl dd, e = .returned (.agg #[.int .i64 td, .int .i64 sp, .slice ca cl cc, .slice ga gl gc, .int .i64 fl, .int .i64 dd]) ∧ RowKit.Hid (Calls Tryz.prog 23 #[.agg #[.slice p'.na p'.names.length p'.nc, .slice p'.ua p'.curs.length p'.uc, .slice p'.pa p'.pool.length p'.pc, .int .i64 p'.hor, .int .i64 p'.cells, .int .i64 p'.slots, .int .i64 p'.stack, .slice p'.da p'.days.length p'.dc], .agg #[.int .i64 td, .int .i64 sp, .slice ca cl cc, .slice ga gl gc, .int .i64 fl, .int .i64 dd]] w1 fun e w2 => ∃ mb q, e = .returned (.tuple #[.pointer (some ⟨mb, 0, none⟩), .int .i64 0]) ∧ RowKit.Hid (q.key = PK ∧ Tw w4 w2 mb1 q1 mb q (M d) (M d))))) (fun d V b => (KR.out V b).mono (fun e w' z => by
      obtain ⟨p', rfl, z⟩ := z
      obtain ⟨k', b', rs'⟩ := z.out
      refine ⟨p', rfl, b', fun w4 mb1 q1 mb2 q2 k2 tw => (SBS.out (M d) w4 w' mb1 q1 mb2 q2 k2 tw).mono (fun e w1 y => ?_)⟩
      obtain ⟨ca, cc, ga, gc, rfl, y⟩ := y
      obtain ⟨y1, ⟨vs, y2⟩, y3, y4⟩ := y.out
      refine ⟨_, _, ca, _, cc, ga, _, gc, _, _, rfl, (rs' w1 y3 (M d) y4 (ADQ.out d) ca cc ga gc vs y1 y2).mono (fun e w2 r => ?_)⟩
      obtain ⟨mb, q, e, k, t⟩ := (tw.lat y3).resumed r
      exact ⟨mb, q, e, (k.trans k').trans hPK.symm, t⟩))
    have KW2 := Lib.hid (p := ∀ V, Below W0.heap.size W0 V → Calls Tryz.prog 11 #[p.agg] V fun e w4 => ∃ p' : Pg, e = .returned (.agg #[.slice p'.na p'.names.length p'.nc, .slice p'.ua p'.curs.length p'.uc, .slice p'.pa p'.pool.length p'.pc, .int .i64 p'.hor, .int .i64 p'.cells, .int .i64 p'.slots, .int .i64 p'.stack, .slice p'.da p'.days.length p'.dc]) ∧ RowKit.Hid (Below V.heap.size V w4 ∧ Calls Tryz.prog 12 #[.agg #[.slice p'.na p'.names.length p'.nc, .slice p'.ua p'.curs.length p'.uc, .slice p'.pa p'.pool.length p'.pc, .int .i64 p'.hor, .int .i64 p'.cells, .int .i64 p'.slots, .int .i64 p'.stack, .slice p'.da p'.days.length p'.dc]] w4 fun e w5 => ∃ mb1 q1, e = .returned (.tuple #[.pointer (some ⟨mb1, 0, none⟩), .int .i64 0]) ∧ RowKit.Hid (Below W0.heap.size W0 w5 ∧ Calls Tryz.prog 11 #[p.agg] w5 fun e w6 => ∃ p' : Pg, e = .returned (.agg #[.slice p'.na p'.names.length p'.nc, .slice p'.ua p'.curs.length p'.uc, .slice p'.pa p'.pool.length p'.pc, .int .i64 p'.hor, .int .i64 p'.cells, .int .i64 p'.slots, .int .i64 p'.stack, .slice p'.da p'.days.length p'.dc]) ∧ RowKit.Hid (Calls Tryz.prog 12 #[.agg #[.slice p'.na p'.names.length p'.nc, .slice p'.ua p'.curs.length p'.uc, .slice p'.pa p'.pool.length p'.pc, .int .i64 p'.hor, .int .i64 p'.cells, .int .i64 p'.slots, .int .i64 p'.stack, .slice p'.da p'.days.length p'.dc]] w6 fun e w7 => ∃ mb2 q2, e = .returned (.tuple #[.pointer (some ⟨mb2, 0, none⟩), .int .i64 0]) ∧ RowKit.Hid (q1.key = PK ∧ q2.key = PK ∧ Tw w4 w7 mb1 q1 mb2 q2 (M 0) (M 0)))))) (fun V b => (KW.out V b).mono (fun e w4 z => by
      obtain ⟨p', rfl, z⟩ := z
      obtain ⟨b4, nw⟩ := z.out
      refine ⟨p', rfl, b4, (nw w4 (Below.refl _ _)).mono (fun e w5 y => ?_)⟩
      obtain ⟨mb1, q1, c1, D1, rfl, y⟩ := y
      obtain ⟨k1, b45, m1, g1, g2, g3⟩ := y.out
      have bw4 := b.trans (b4.mono b.size)
      have bw5 := bw4.trans (b45.mono bw4.size)
      refine ⟨mb1, q1, rfl, bw5, (KW.out w5 bw5).mono (fun e w6 z => ?_)⟩
      obtain ⟨p2, rfl, z⟩ := z
      obtain ⟨b56, nw⟩ := z.out
      refine ⟨p2, rfl, (nw w6 (Below.refl _ _)).mono (fun e w7 y => ?_)⟩
      obtain ⟨mb2, q2, c2, D2, rfl, y⟩ := y
      obtain ⟨k2, b67, m2, f1, f2, f3⟩ := y.out
      have t := tw_born b45 m1 g1 g2 b56 b67 m2 f1 f2 f3
      rw [born_keyM k1, born_keyM k2] at t
      have e0 : M 0 = p.born := by rw [hM]; rfl
      exact ⟨mb2, q2, rfl, k1.trans hPK.symm, k2.trans hPK.symm, by rw [e0]; exact t⟩))
    have TD := Lib.hid (p := ∀ d : Nat, ¬ (M d).over p.hor → (d : Int) ≤ p.hor) (fun d no0 => by
      have no : ¬ (runMs p (vfyA p).2.2.2.back (rowsF rs) d p.born).1.over p.hor := by rw [hM] at no0; exact no0
      have td := (runMs_today (a := rowsF rs) (p := p) (back := (vfyA p).2.2.2.back) d).2 no
      have z := no
      unfold Ms.over at z
      omega)
    clear KT hr h hR hU B0 P0 hW0 KW KR SBS ADQ hM hPK hG hv hh
    unfold Pg.agg Pg.box at *
    obtain ⟨na, nc, names, ua, uc, curs, pa, pc, pool, hor, cells, slots, stack, da, dc, days⟩ := p
    simp only at *
    go_enter Tryz.func7, Tryz.ntmps7
    go_wp2_with fail
    go_at_call 9
    rw [HW.out]
    refine KP.out.mono ?_
    rintro e w1 ⟨rfl, b1⟩
    obtain ⟨⟨a0, a1, a2, a3, a4, a5, a6, a7⟩, _⟩ := CL.out w1 b1
    go_wp2_with fail
    go_at_call 13
    refine (KT1.out w1 b1).mono ?_
    rintro e w2 ⟨tx, ty, tz, rfl, b2⟩
    obtain ⟨W3, hW3⟩ : ∃ W, w2.alloc (.cells #[.int .i64 tx, .int .i64 ty, .int .i64 tz] 41) = W := ⟨_, rfl⟩
    have b12 := b1.trans (b2.mono b1.size)
    have B3 := Lib.hid (p := Below W0.heap.size W0 W3) (by rw [← hW3]; exact b12.trans ((allocBP w2 _).mono b12.size))
    have H3 := Lib.hid hW3
    clear a0 a1 a2 a3 a4 a5 a6 a7 b1 b2 b12 hW3 KP KT1
    go_upto_region 3 with fail
    rw [H3.out]
    obtain ⟨⟨a0, a1, a2, a3, a4, a5, a6, a7⟩, _⟩ := CL.out W3 B3.out
    go_wp2_with fail
    go_at_call 11
    refine (KW2.out W3 B3.out).mono ?_
    rintro e w4 ⟨p1, rfl, h4⟩
    have B4 := Lib.hid (p := Below W0.heap.size W0 w4) (B3.out.trans (h4.out.1.mono B3.out.size))
    have K4 := Lib.hid h4.out.2
    clear h4 a0 a1 a2 a3 a4 a5 a6 a7 KW2
    go_wp2_with fail
    go_at_call 12
    refine K4.out.mono ?_
    rintro e w5 ⟨mb1, q1, rfl, h5⟩
    obtain ⟨⟨a0, a1, a2, a3, a4, a5, a6, a7⟩, _⟩ := CL.out w5 h5.out.1
    have K5 := Lib.hid h5.out.2
    clear h5 K4
    go_wp2_with fail
    go_at_call 11
    refine K5.out.mono ?_
    rintro e w6 ⟨p2, rfl, h6⟩
    clear K5 a0 a1 a2 a3 a4 a5 a6 a7
    go_wp2_with fail
    go_at_call 12
    refine h6.out.mono ?_
    rintro e w7 ⟨mb2, q2, rfl, h7⟩
    have KQ1 := Lib.hid h7.out.1
    have KQ2 := Lib.hid h7.out.2.1
    have T7 := Lib.hid h7.out.2.2
    clear h6 h7
    have BW4 := Lib.hid (p := ∀ V, Below w4.heap.size w4 V → V.cell? ⟨w.heap.size, 3, none⟩ = some (.int .i64 hor) ∧ Below W0.heap.size W0 V) (fun V b => ⟨(CL.out V (B4.out.trans (b.mono B4.out.size))).1.2.2.2.1, B4.out.trans (b.mono B4.out.size)⟩)
    go_wp2_with (go_at_call 14; refine (KN.out 0 _).mono ?_; rintro e wx ⟨rfl, hwx⟩; replace hwx := hwx.symm; subst hwx)
    go_loopw [12, 14] (fun bp t wr => ∃ (d : Nat) (mb : Nat) (q : Pg), bp = .pointer (some ⟨mb, 0, none⟩) ∧ t = .int .i64 (d : Int) ∧ (d : Int) ≤ hor + 1 ∧ RowKit.Hid (q.key = PK ∧ Tw w4 wr mb1 q1 mb q (M d) (M d))) (fun _ t _ => (hor + 2).toNat - (intOf t).toNat)
    case atStart => exact ⟨0, mb2, q2, rfl, rfl, by omega, KQ2.out, T7.out⟩
    case round =>
      clear T7 KQ2
      rename World => wr
      obtain ⟨d, mb, q, rfl, rfl, hd, hI⟩ := hrel
      obtain ⟨kq, tw⟩ := hI.out
      have KOv := Lib.hid (OVS.out (M d) w4 wr mb1 q1 mb q KQ1.out tw)
      by_cases ov : (M d).over hor
      · rw [decide_eq_true ov] at KOv
        have KO2 := Lib.hid (p := ∀ V, Below wr.heap.size wr V → Calls Tryz.prog 15 #[.pointer (some ⟨mb, 0, none⟩)] V fun e w' => e = .returned (.bool true) ∧ Below V.heap.size V w') (fun V b => by
          have := OVS.out (M d) w4 V mb q mb1 q1 kq (tw.lat b).swap
          rw [decide_eq_true ov] at this
          exact this)
        have TB := Lib.hid tw.bel
        clear hI tw kq ov
        go_wp2_with fail
        go_at_call 15
        refine KOv.out.mono ?_
        rintro e w9 ⟨rfl, b9⟩
        have B9 := Lib.hid b9
        clear b9 KOv
        go_wp2_with fail
        go_at_call 15
        refine (KO2.out w9 B9.out).mono ?_
        rintro e w10 ⟨rfl, b10⟩
        have B10 := Lib.hid (p := Below w.heap.size w w10) (by
          have x1 := TB.out.trans (B9.out.mono TB.out.size)
          have x2 := x1.trans (b10.mono x1.size)
          exact (CL.out w10 (BW4.out w10 x2).2).2)
        clear b10
        go_wp2
        go_ret
        exact ⟨rfl, B10.out⟩
      · rw [decide_eq_false ov] at KOv
        have dh := TD.out d ov
        have ks : IntKind.i64.wrap ((d : Int) + 1) = (d : Int) + 1 := by simp [IntKind.wrap, IntKind.bits, IntKind.signed]; omega
        have dn : ¬ hor < (d : Int) := by omega
        have d0 : ¬ (d : Int) < 0 := by omega
        have DY := Lib.hid (p := ∀ q2, ∀ (W : World) mb2, Tw w4 W mb1 q1 mb2 q2 (M d) (M d) → q2.key = PK → ∀ V, Below W.heap.size W V → ∀ a n c, RC V a n (rowsF rs d) → Calls Tryz.prog 16 #[.pointer (some ⟨mb1, 0, none⟩), .slice a n c] V fun e w1 => ∃ la ln lc, e = .returned (.tuple #[.slice la ln lc, .int .i64 (G d), .int .i64 0]) ∧ RowKit.Hid (Below w4.heap.size w4 w1 ∧ ∀ w2, Below w1.heap.size w1 w2 → ∀ a n c, RC w2 a n (rowsF rs d) → Calls Tryz.prog 16 #[.pointer (some ⟨mb2, 0, none⟩), .slice a n c] w2 fun e w3 => ∃ ka kn kc, e = .returned (.tuple #[.slice ka kn kc, .int .i64 (G d), .int .i64 0]) ∧ RowKit.Hid (Calls Tryz.prog 18 #[.slice la ln lc, .slice ka kn kc] w3 fun e w5 => e = .returned (.bool true) ∧ RowKit.Hid (Tw w4 w5 mb1 q1 mb2 q2 (M (d + 1)) (M (d + 1)))))) (fun q2 W mb2 tw k2 V b a n c hr => DYS.out d ov w4 W mb1 q1 mb2 q2 KQ1.out k2 tw V b a n c hr)
        have ST := Lib.hid (p := ∀ q2 (W : World) mb2, Tw w4 W mb1 q1 mb2 q2 (M (d + 1)) (M (d + 1)) → q2.key = PK → Calls Tryz.prog 19 #[.pointer (some ⟨mb1, 0, none⟩)] W fun e w1 => ∃ ca cc ga gc, e = .returned (.agg #[.int .i64 (M (d + 1)).today, .int .i64 (M (d + 1)).steps, .slice ca (M (d + 1)).cells.length cc, .slice ga (M (d + 1)).past.length gc, .int .i64 (M (d + 1)).fault, .int .i64 (M (d + 1)).day]) ∧ RowKit.Hid (Calls Tryz.prog 19 #[.pointer (some ⟨mb2, 0, none⟩)] w1 fun e w2 => ∃ cb cd gb gd, e = .returned (.agg #[.int .i64 (M (d + 1)).today, .int .i64 (M (d + 1)).steps, .slice cb (M (d + 1)).cells.length cd, .slice gb (M (d + 1)).past.length gd, .int .i64 (M (d + 1)).fault, .int .i64 (M (d + 1)).day]) ∧ RowKit.Hid (Calls Tryz.prog 25 #[.agg #[.int .i64 (M (d + 1)).today, .int .i64 (M (d + 1)).steps, .slice ca (M (d + 1)).cells.length cc, .slice ga (M (d + 1)).past.length gc, .int .i64 (M (d + 1)).fault, .int .i64 (M (d + 1)).day], .agg #[.int .i64 (M (d + 1)).today, .int .i64 (M (d + 1)).steps, .slice cb (M (d + 1)).cells.length cd, .slice gb (M (d + 1)).past.length gd, .int .i64 (M (d + 1)).fault, .int .i64 (M (d + 1)).day]] w2 fun e w3 => e = .returned (.bool true) ∧ RowKit.Hid (Tw w4 w3 mb1 q1 mb2 q2 (M (d + 1)) (M (d + 1)))))) (fun q2 W mb2 tw k2 => STS.out (M (d + 1)) w4 W mb1 q1 mb2 q2 KQ1.out k2 tw)
        have RS := Lib.hid (fun (V : World) (b : Below W0.heap.size W0 V) => KR2.out d V b)
        have TWR := Lib.hid tw
        have KQ := Lib.hid kq
        clear hI tw kq ov DYS STS KR2 OVS TD
        go_wp2_with fail
        go_at_call 15
        refine KOv.out.mono ?_
        rintro e w9 ⟨rfl, b9⟩
        have T9 := Lib.hid (TWR.out.lat b9)
        have B9 := Lib.hid T9.out.bel
        clear b9 KOv TWR
        by_cases hlt : d < hn
        · obtain ⟨x, o, hha, hx, hcl⟩ := (HP.out w9 (BW4.out w9 B9.out).2).resolve_left (by omega)
          have c0 := hcl d hlt
          have kc : (d : Int) < (hn : Int) := by omega
          have kd : decide (d < hn) = true := decide_eq_true hlt
          have kd2 : decide ((d : Int) < (hn : Int)) = true := decide_eq_true kc
          subst hha
          clear hcl
          cases hb : hs.getD d default with
          | true =>
            rw [hb] at c0
            obtain ⟨⟨a0, a1, a2, a3, a4, a5, a6, a7⟩, _⟩ := CL.out w9 (BW4.out w9 B9.out).2
            go_wp2_with fail
            go_at_call 11
            refine (RS.out w9 (BW4.out w9 B9.out).2).mono ?_
            rintro e u1 ⟨p3, rfl, g1⟩
            have U1 := Lib.hid (g1.out.2 w4 mb1 q1 mb q KQ.out (T9.out.lat g1.out.1))
            clear g1 a0 a1 a2 a3 a4 a5 a6 a7 T9
            go_wp2_with fail
            go_at_call 19
            refine U1.out.mono ?_
            rintro e u2 ⟨td, sp, ca0, cl0, cc0, ga0, gl0, gc0, fl0, dd0, rfl, g2⟩
            clear U1
            go_wp2_with fail
            go_at_call 23
            refine g2.out.mono ?_
            rintro e u3 ⟨mbx, qx, rfl, g3⟩
            have KQX := Lib.hid g3.out.1
            have TX := Lib.hid g3.out.2
            have BX := Lib.hid TX.out.bel
            clear g2 g3 KQ
            go_upto_region 17 with (go_at_call 14; refine (KN.out 0 _).mono ?_; rintro e wx ⟨rfl, hwx⟩; replace hwx := hwx.symm; subst hwx)
            have KD := Lib.hid (DY.out qx u3 mbx TX.out KQX.out)
            go_wp2_with fail
            go_at_call 17
            refine (KA.out u3 (BW4.out u3 BX.out).2 d).mono ?_
            rintro e w10 ⟨a10, n10, c10, rfl, h10⟩
            have K10 := Lib.hid (KD.out w10 h10.out.2 a10 n10 c10 h10.out.1)
            clear h10 KD
            go_wp2_with fail
            go_at_call 16
            refine K10.out.mono ?_
            rintro e w11 ⟨la, ln, lc, rfl, h11⟩
            have B11 := Lib.hid h11.out.1
            have K11 := Lib.hid h11.out.2
            clear h11 K10
            go_wp2_with fail
            go_at_call 17
            refine (KA.out w11 (BW4.out w11 B11.out).2 d).mono ?_
            rintro e w12 ⟨a12, n12, c12, rfl, h12⟩
            have K12 := Lib.hid (K11.out w12 h12.out.2 a12 n12 c12 h12.out.1)
            clear h12 K11 B11
            go_wp2_with fail
            go_at_call 16
            refine K12.out.mono ?_
            rintro e w13 ⟨ka, kn, kc2, rfl, h13⟩
            go_wp2_with fail
            go_at_call 18
            refine h13.out.mono ?_
            rintro e w14 ⟨rfl, h14⟩
            have K14 := Lib.hid (ST.out qx w14 mbx h14.out KQX.out)
            clear h13 h14 K12
            go_wp2_with fail
            go_at_call 19
            refine K14.out.mono ?_
            rintro e w15 ⟨ca, cc, ga, gc, rfl, h15⟩
            clear K14
            go_wp2_with fail
            go_at_call 19
            refine h15.out.mono ?_
            rintro e w16 ⟨cb, cd, gb, gd, rfl, h16⟩
            clear h15
            go_wp2_with fail
            go_at_call 25
            refine h16.out.mono ?_
            rintro e w17 ⟨rfl, h17⟩
            have a3 := (BW4.out w17 h17.out.bel).1
            clear h16
            go_wp2
            refine ⟨⟨d + 1, mbx, qx, rfl, by simp, by omega, KQX.out, h17.out⟩, ?_⟩
            simp [intOf]
            omega
          | false =>
            rw [hb] at c0
            go_upto_region 17 with fail
            have KD := Lib.hid (DY.out q w9 mb T9.out KQ.out)
            go_wp2_with fail
            go_at_call 17
            refine (KA.out w9 (BW4.out w9 B9.out).2 d).mono ?_
            rintro e w10 ⟨a10, n10, c10, rfl, h10⟩
            have K10 := Lib.hid (KD.out w10 h10.out.2 a10 n10 c10 h10.out.1)
            clear h10 KD
            go_wp2_with fail
            go_at_call 16
            refine K10.out.mono ?_
            rintro e w11 ⟨la, ln, lc, rfl, h11⟩
            have B11 := Lib.hid h11.out.1
            have K11 := Lib.hid h11.out.2
            clear h11 K10
            go_wp2_with fail
            go_at_call 17
            refine (KA.out w11 (BW4.out w11 B11.out).2 d).mono ?_
            rintro e w12 ⟨a12, n12, c12, rfl, h12⟩
            have K12 := Lib.hid (K11.out w12 h12.out.2 a12 n12 c12 h12.out.1)
            clear h12 K11 B11
            go_wp2_with fail
            go_at_call 16
            refine K12.out.mono ?_
            rintro e w13 ⟨ka, kn, kc2, rfl, h13⟩
            go_wp2_with fail
            go_at_call 18
            refine h13.out.mono ?_
            rintro e w14 ⟨rfl, h14⟩
            have K14 := Lib.hid (ST.out q w14 mb h14.out KQ.out)
            clear h13 h14 K12
            go_wp2_with fail
            go_at_call 19
            refine K14.out.mono ?_
            rintro e w15 ⟨ca, cc, ga, gc, rfl, h15⟩
            clear K14
            go_wp2_with fail
            go_at_call 19
            refine h15.out.mono ?_
            rintro e w16 ⟨cb, cd, gb, gd, rfl, h16⟩
            clear h15
            go_wp2_with fail
            go_at_call 25
            refine h16.out.mono ?_
            rintro e w17 ⟨rfl, h17⟩
            have a3 := (BW4.out w17 h17.out.bel).1
            clear h16
            go_wp2
            refine ⟨⟨d + 1, mb, q, rfl, by simp, by omega, KQ.out, h17.out⟩, ?_⟩
            simp [intOf]
            omega
        · have kc : ¬ (d : Int) < (hn : Int) := by omega
          have kd : decide (d < hn) = false := decide_eq_false hlt
          have kd2 : decide ((d : Int) < (hn : Int)) = false := decide_eq_false kc
          go_upto_region 17 with fail
          have KD := Lib.hid (DY.out q w9 mb T9.out KQ.out)
          go_wp2_with fail
          go_at_call 17
          refine (KA.out w9 (BW4.out w9 B9.out).2 d).mono ?_
          rintro e w10 ⟨a10, n10, c10, rfl, h10⟩
          have K10 := Lib.hid (KD.out w10 h10.out.2 a10 n10 c10 h10.out.1)
          clear h10 KD
          go_wp2_with fail
          go_at_call 16
          refine K10.out.mono ?_
          rintro e w11 ⟨la, ln, lc, rfl, h11⟩
          have B11 := Lib.hid h11.out.1
          have K11 := Lib.hid h11.out.2
          clear h11 K10
          go_wp2_with fail
          go_at_call 17
          refine (KA.out w11 (BW4.out w11 B11.out).2 d).mono ?_
          rintro e w12 ⟨a12, n12, c12, rfl, h12⟩
          have K12 := Lib.hid (K11.out w12 h12.out.2 a12 n12 c12 h12.out.1)
          clear h12 K11 B11
          go_wp2_with fail
          go_at_call 16
          refine K12.out.mono ?_
          rintro e w13 ⟨ka, kn, kc2, rfl, h13⟩
          go_wp2_with fail
          go_at_call 18
          refine h13.out.mono ?_
          rintro e w14 ⟨rfl, h14⟩
          have K14 := Lib.hid (ST.out q w14 mb h14.out KQ.out)
          clear h13 h14 K12
          go_wp2_with fail
          go_at_call 19
          refine K14.out.mono ?_
          rintro e w15 ⟨ca, cc, ga, gc, rfl, h15⟩
          clear K14
          go_wp2_with fail
          go_at_call 19
          refine h15.out.mono ?_
          rintro e w16 ⟨cb, cd, gb, gd, rfl, h16⟩
          clear h15
          go_wp2_with fail
          go_at_call 25
          refine h16.out.mono ?_
          rintro e w17 ⟨rfl, h17⟩
          have a3 := (BW4.out w17 h17.out.bel).1
          clear h16
          go_wp2
          refine ⟨⟨d + 1, mb, q, rfl, by simp, by omega, KQ.out, h17.out⟩, ?_⟩
          simp [intOf]
          omega
  · have KT1 := Lib.hid (p := ∀ V, Below W0.heap.size W0 V → Calls Tryz.prog 13 #[p.agg] V fun e w' => ∃ x y z, e = .returned (.tuple #[.agg #[.int .i64 x, .int .i64 y, .int .i64 z], .bool false]) ∧ Below V.heap.size V w') (fun V b => (KT.out V b).mono (fun e w' q => by obtain ⟨rfl, q2⟩ := q; rw [decide_eq_false hv]; exact ⟨_, _, _, rfl, q2⟩))
    clear KT hr h hR hU B0 P0 hW0 hv hh
    unfold Pg.agg Pg.box at *
    obtain ⟨na, nc, names, ua, uc, curs, pa, pc, pool, hor, cells, slots, stack, da, dc, days⟩ := p
    simp only at *
    go_enter Tryz.func7, Tryz.ntmps7
    go_wp2_with fail
    go_at_call 9
    rw [HW.out]
    refine KP.out.mono ?_
    rintro e w1 ⟨rfl, b1⟩
    obtain ⟨⟨a0, a1, a2, a3, a4, a5, a6, a7⟩, _⟩ := CL.out w1 b1
    go_wp2_with fail
    go_at_call 13
    refine (KT1.out w1 b1).mono ?_
    rintro e w2 ⟨tx, ty, tz, rfl, b2⟩
    have b12 := b1.trans (b2.mono b1.size)
    have BE := Lib.hid (p := ∀ o, Below w.heap.size w (w2.alloc o)) (fun o => (CL.out _ (b12.trans ((allocBP w2 o).mono b12.size))).2)
    clear b1 b2 b12
    go_wp2
    go_ret
    exact ⟨rfl, BE.out _⟩
end Go.Proofs.YtpfjnnkjoabgbaaGreatDoor
