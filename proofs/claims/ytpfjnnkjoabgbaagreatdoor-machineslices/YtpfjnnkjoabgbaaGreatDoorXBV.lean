import Derived.Test.YtpfjnnkjoabgbaaGreatDoorXBS
import Derived.Test.YtpfjnnkjoabgbaaGreatDoorXBU
namespace Go.Proofs.YtpfjnnkjoabgbaaGreatDoor
open Go.RowKit
set_option linter.unusedVariables false
set_option linter.unusedSimpArgs false
/-- What is known of a run that is over. -/
theorem over_facts {p : Pg} {back : Int} {a : Nat → List Cl} {d : Nat} (ov : (runMs p back a d p.born).1.over p.hor) (hd : (d : Int) ≤ p.hor + 1) (no : ∀ k, k < d → ¬ (runMs p back a k p.born).1.over p.hor) : runMs p back a d p.born = runMs p back a (p.hor + 1).toNat p.born ∧ ((runMs p back a (p.hor + 1).toNat p.born).1.fault ≠ 0 → (runMs p back a (p.hor + 1).toNat p.born).1.day = (d : Int) - 1) ∧ ((runMs p back a (p.hor + 1).toNat p.born).1.fault = 0 → (d : Int) = p.hor + 1) := by
  have e := runMs_last ov (by omega)
  rw [e]
  exact ⟨rfl, fun z => runMs_fault d no z, fun z => runMs_done ov hd z⟩
/-- A day, plainly: whether it is over behind it, and its flows' days. -/
theorem day_facts {p : Pg} {back : Int} {a : Nat → List Cl} {d : Nat} (no : ¬ (runMs p back a d p.born).1.over p.hor) : ((dayGo p (runMs p back a d p.born).1 (a d)).1 ≠ 0 → (runMs p back a (d + 1) p.born).1.over p.hor) ∧ ((dayGo p (runMs p back a d p.born).1 (a d)).1 = 0 → (d : Int) < p.hor → ¬ (runMs p back a (d + 1) p.born).1.over p.hor) ∧ (∀ f ∈ dayFl p (runMs p back a d p.born).1 (a d), f.d = (d : Int)) := by
  have td := (runMs_today (a := a) (p := p) (back := back) d).2 no
  have e : (runMs p back a (d + 1) p.born).1 = dayMs p back (runMs p back a d p.born).1 (a d) := by
    simp only [runMs]
    rw [if_neg no]
  obtain ⟨h1, h2⟩ := dayMs_over (back := back) (row := a d) no
  rw [e]
  exact ⟨h1, fun z lt => h2 z (by omega), fun f hf => (dayFl_d _ _ _ f hf).trans td⟩
set_option maxRecDepth 100000 in
set_option maxHeartbeats 6400000 in
theorem machineSlices_any {w : World} {p : Pg} (h : PV w p) (hR : Rws w) (hU : Rul w) {ra : Option Addr} {rn rc : Nat} {rs : List Rw} (hr : RL w ra rn rs) : Calls Tryz.prog 3 #[p.agg, .slice ra rn rc] w fun e w' => e = .returned (.bool true) ∧ Below w.heap.size w w' := by
  obtain ⟨W0, hW0⟩ : ∃ W, w.alloc p.box = W := ⟨_, rfl⟩
  have B0 : Below w.heap.size w W0 := by rw [← hW0]; exact allocBP w p.box
  have P0 : BkP W0 w.heap.size #[.slice p.na p.names.length p.nc, .slice p.ua p.curs.length p.uc, .slice p.pa p.pool.length p.pc, .int .i64 p.hor, .int .i64 p.cells, .int .i64 p.slots, .int .i64 p.stack, .slice p.da p.days.length p.dc] 26 := by rw [← hW0]; exact heapN w p.box
  have KP := Lib.hid (plain15_any (hR.below B0) (hU.lat B0))
  have CL := Lib.hid (p := ∀ V, Below W0.heap.size W0 V → (V.cell? ⟨w.heap.size, 0, none⟩ = some (.slice p.na p.names.length p.nc) ∧ V.cell? ⟨w.heap.size, 1, none⟩ = some (.slice p.ua p.curs.length p.uc) ∧ V.cell? ⟨w.heap.size, 2, none⟩ = some (.slice p.pa p.pool.length p.pc) ∧ V.cell? ⟨w.heap.size, 3, none⟩ = some (.int .i64 p.hor) ∧ V.cell? ⟨w.heap.size, 4, none⟩ = some (.int .i64 p.cells) ∧ V.cell? ⟨w.heap.size, 5, none⟩ = some (.int .i64 p.slots) ∧ V.cell? ⟨w.heap.size, 6, none⟩ = some (.int .i64 p.stack) ∧ V.cell? ⟨w.heap.size, 7, none⟩ = some (.slice p.da p.days.length p.dc)) ∧ Below w.heap.size w V) (fun V b => ⟨box_all8 (P0.lat b), B0.trans (b.mono B0.size)⟩)
  have KT := Lib.hid (fun V (b : Below W0.heap.size W0 V) => taken_any (h.later (B0.trans (b.mono B0.size))) (hR.below (B0.trans (b.mono B0.size))) (hU.lat (B0.trans (b.mono B0.size))))
  have HW := Lib.hid hW0
  have nr := hr.2.1
  have KN := Lib.hid (fun e W => num15_any e W)
  have RR := Lib.hid (p := ∀ V, Below W0.heap.size W0 V → RL V ra rn rs) (fun V b => hr.later (B0.trans (b.mono B0.size)))
  by_cases hv : (vfyA p).1 = 0
  · have KO := Lib.hid (fun V (b : Below W0.heap.size W0 V) => run_owned hv h hR hU (B0.trans (b.mono B0.size)))
    have KW := Lib.hid (fun V (b : Below W0.heap.size W0 V) => new_owned hv h hR hU (B0.trans (b.mono B0.size)))
    have KA := Lib.hid (p := ∀ V, Below W0.heap.size W0 V → ∀ d : Nat, Calls Tryz.prog 17 #[.slice ra rn rc, .int .i64 (d : Int)] V fun e w' => ∃ a n c, e = .returned (.slice a n c) ∧ RowKit.Hid (RC w' a n (rowsF rs d) ∧ Below V.heap.size V w')) (fun V b d => (at_any (rc := rc) (hr.later (B0.trans (b.mono B0.size))) (by omega) (d : Int)).mono (fun e w' q => by
      obtain ⟨b5, a5, n5, c5, rfl, q1, _⟩ := q
      rw [if_pos (by omega), Int.toNat_natCast] at q1
      exact ⟨a5, n5, c5, rfl, q1, b5⟩))
    have hor4 := (nds_of hv).2.2.2.1
    have hor5 := (nds_of hv).2.2.2.2.1
    have FL := Lib.hid (p := ∀ d : Nat, (d : Int) ≤ p.hor + 1 → (runMs p (vfyA p).2.2.2.back (rowsF rs) d p.born).2.length ≤ 1048576000) (fun d hd => runMs_fll hv (vfyA p).2.2.2.back (rowsF rs) p.born (n := d) (by omega))
    have OF := Lib.hid (p := ∀ d : Nat, (runMs p (vfyA p).2.2.2.back (rowsF rs) d p.born).1.over p.hor → (d : Int) ≤ p.hor + 1 → (∀ k, k < d → ¬ (runMs p (vfyA p).2.2.2.back (rowsF rs) k p.born).1.over p.hor) → runMs p (vfyA p).2.2.2.back (rowsF rs) d p.born = runMs p (vfyA p).2.2.2.back (rowsF rs) (p.hor + 1).toNat p.born ∧ ((runMs p (vfyA p).2.2.2.back (rowsF rs) (p.hor + 1).toNat p.born).1.fault ≠ 0 → (runMs p (vfyA p).2.2.2.back (rowsF rs) (p.hor + 1).toNat p.born).1.day = (d : Int) - 1) ∧ ((runMs p (vfyA p).2.2.2.back (rowsF rs) (p.hor + 1).toNat p.born).1.fault = 0 → (d : Int) = p.hor + 1)) (fun d ov hd no => over_facts ov hd no)
    have KT1 := Lib.hid (p := ∀ V, Below W0.heap.size W0 V → Calls Tryz.prog 13 #[p.agg] V fun e w' => ∃ x y z, e = .returned (.tuple #[.agg #[.int .i64 x, .int .i64 y, .int .i64 z], .bool true]) ∧ Below V.heap.size V w') (fun V b => (KT.out V b).mono (fun e w' q => by obtain ⟨rfl, q2⟩ := q; rw [decide_eq_true hv]; exact ⟨_, _, _, rfl, q2⟩))
    obtain ⟨M, hM⟩ : ∃ M : Nat → Ms × List Fl, M = fun d => runMs p (vfyA p).2.2.2.back (rowsF rs) d p.born := ⟨_, rfl⟩
    have KO2 := Lib.hid (p := ∀ V, Below W0.heap.size W0 V → Calls Tryz.prog 11 #[p.agg] V fun e w' => ∃ p' : Pg, e = .returned (.agg #[.slice p'.na p'.names.length p'.nc, .slice p'.ua p'.curs.length p'.uc, .slice p'.pa p'.pool.length p'.pc, .int .i64 p'.hor, .int .i64 p'.cells, .int .i64 p'.slots, .int .i64 p'.stack, .slice p'.da p'.days.length p'.dc]) ∧ RowKit.Hid (Below V.heap.size V w' ∧ Calls Tryz.prog 10 #[.agg #[.slice p'.na p'.names.length p'.nc, .slice p'.ua p'.curs.length p'.uc, .slice p'.pa p'.pool.length p'.pc, .int .i64 p'.hor, .int .i64 p'.cells, .int .i64 p'.slots, .int .i64 p'.stack, .slice p'.da p'.days.length p'.dc], .slice ra rn rc] w' fun e w2 => ∃ fa fn fc, e = .returned (.tuple #[.agg #[.slice fa fn fc, .int .i64 (M (p.hor + 1).toNat).1.fault, .int .i64 (M (p.hor + 1).toNat).1.day], .int .i64 0]) ∧ RowKit.Hid (FLm w2 fa fn (M (p.hor + 1).toNat).2 ∧ Below w'.heap.size w' w2))) (fun V b => (KO.out V b).mono (fun e w' q => by
      obtain ⟨p', rfl, q⟩ := q
      rw [hM]
      exact ⟨p', rfl, q.out.1, q.out.2 w' (Below.refl _ _) ra rn rc rs (RR.out w' (b.trans (q.out.1.mono b.size)))⟩))
    have KW2 := Lib.hid (p := ∀ V, Below W0.heap.size W0 V → Calls Tryz.prog 11 #[p.agg] V fun e w' => ∃ p' : Pg, e = .returned (.agg #[.slice p'.na p'.names.length p'.nc, .slice p'.ua p'.curs.length p'.uc, .slice p'.pa p'.pool.length p'.pc, .int .i64 p'.hor, .int .i64 p'.cells, .int .i64 p'.slots, .int .i64 p'.stack, .slice p'.da p'.days.length p'.dc]) ∧ RowKit.Hid (Below V.heap.size V w' ∧ Calls Tryz.prog 12 #[.agg #[.slice p'.na p'.names.length p'.nc, .slice p'.ua p'.curs.length p'.uc, .slice p'.pa p'.pool.length p'.pc, .int .i64 p'.hor, .int .i64 p'.cells, .int .i64 p'.slots, .int .i64 p'.stack, .slice p'.da p'.days.length p'.dc]] w' fun e w2 => ∃ mb q cev D, e = .returned (.tuple #[.pointer (some ⟨mb, 0, none⟩), .int .i64 0]) ∧ RowKit.Hid (Below w'.heap.size w' w2 ∧ (vfyA q).1 = 0 ∧ q.hor = p.hor ∧ (∀ d, runMs q (vfyA q).2.2.2.back (rowsF rs) d q.born = M d) ∧ ∀ W, Below w2.heap.size w2 W → SlI w' W.heap.size mb q cev D (rowsF rs) 0 none 0 0 W))) (fun V b => (KW.out V b).mono (fun e w' q => by
      obtain ⟨p', rfl, q⟩ := q
      refine ⟨p', rfl, q.out.1, (q.out.2 w' (Below.refl _ _)).mono (fun e w2 z => ?_)⟩
      obtain ⟨mb, q', cev, D, rfl, z⟩ := z
      obtain ⟨k, b2, m, g1, g2, g3⟩ := z.out
      have ev := vfyA_keyM k
      have eb := born_keyM k
      have eh : q'.hor = p.hor := congrArg (fun k => k.2.2.2.1) k
      refine ⟨mb, q', cev, D, rfl, b2, by rw [ev]; exact hv, eh, fun d => ?_, fun W bW => ?_⟩
      · rw [ev, eb, hM]
        exact runMs_keyM k _ _ _ _
      · exact ⟨b2.trans (bW.mono b2.size), ⟨.slice none 0 0, m.lat bW, fun g hg => by simp [Value.ownBlock] at hg⟩, World.ownsRow_nil _ _ _ _, g1, g2, fun x hx => Nat.lt_of_lt_of_le (m.dl x hx) bW.size, ⟨Nat.le_trans b2.size bW.size, Nat.le_refl _⟩⟩))
    have FL2 := Lib.hid (p := ∀ d : Nat, (d : Int) ≤ p.hor + 1 → (M d).2.length ≤ 1048576000) (by rw [hM]; exact FL.out)
    have OF2 := Lib.hid (p := ∀ d : Nat, (M d).1.over p.hor → (d : Int) ≤ p.hor + 1 → (∀ k, k < d → ¬ (M k).1.over p.hor) → M d = M (p.hor + 1).toNat ∧ ((M (p.hor + 1).toNat).1.fault ≠ 0 → (M (p.hor + 1).toNat).1.day = (d : Int) - 1) ∧ ((M (p.hor + 1).toNat).1.fault = 0 → (d : Int) = p.hor + 1)) (by rw [hM]; exact OF.out)
    clear KT hr h hR hU B0 P0 hW0 KO KW FL OF hM hv
    unfold Pg.agg Pg.box at *
    obtain ⟨na, nc, names, ua, uc, curs, pa, pc, pool, hor, cells, slots, stack, da, dc, days⟩ := p
    simp only at *
    go_enter Tryz.func3, Tryz.ntmps3
    go_wp2_with fail
    go_at_call 9
    rw [HW.out]
    refine KP.out.mono ?_
    rintro e w1 ⟨rfl, b1⟩
    obtain ⟨⟨a0, a1, a2, a3, a4, a5, a6, a7⟩, _⟩ := CL.out w1 b1
    go_wp2_with fail
    go_at_call 11
    refine (KO2.out w1 b1).mono ?_
    rintro e w2 ⟨p1, rfl, h2⟩
    obtain ⟨b2, run2⟩ := h2.out
    have b12 := b1.trans (b2.mono b1.size)
    have K2 := Lib.hid run2
    clear run2 h2 a0 a1 a2 a3 a4 a5 a6 a7
    go_wp2_with fail
    go_at_call 10
    refine K2.out.mono ?_
    rintro e w3 ⟨fa0, fn0, fc0, rfl, q3⟩
    obtain ⟨f3, b3⟩ := q3.out
    obtain ⟨ft, hft⟩ : ∃ ft, (M (hor + 1).toNat).1.fault = ft := ⟨_, rfl⟩
    obtain ⟨dy, hdy⟩ : ∃ dy, (M (hor + 1).toNat).1.day = dy := ⟨_, rfl⟩
    rw [hft, hdy]
    obtain ⟨W4, hW4⟩ : ∃ W, w3.alloc (.cells #[.slice fa0 fn0 fc0, .int .i64 ft, .int .i64 dy] 32) = W := ⟨_, rfl⟩
    have c4 : BkP W4 w3.heap.size #[.slice fa0 fn0 fc0, .int .i64 ft, .int .i64 dy] 32 := by rw [← hW4]; exact heapN _ _
    have b34 : Below w3.heap.size w3 W4 := by rw [← hW4]; exact allocBP _ _
    have B4 := (b12.trans (b3.mono b12.size)).trans (b34.mono (b12.trans (b3.mono b12.size)).size)
    obtain ⟨⟨a0, a1, a2, a3, a4, a5, a6, a7⟩, _⟩ := CL.out W4 B4
    have F4 := Lib.hid (f3.later b34)
    have OB := Lib.hid (p := ∀ V, Below W4.heap.size W4 V → (V.cell? ⟨w3.heap.size, 0, none⟩ = some (.slice fa0 fn0 fc0) ∧ V.cell? ⟨w3.heap.size, 1, none⟩ = some (.int .i64 ft) ∧ V.cell? ⟨w3.heap.size, 2, none⟩ = some (.int .i64 dy)) ∧ FLm V fa0 fn0 (M (hor + 1).toNat).2 ∧ Below W0.heap.size W0 V) (fun V b => ⟨box_all3P (c4.lat b), F4.out.later b, B4.trans (b.mono B4.size)⟩)
    have HB4 := Lib.hid B4
    have HW4 := Lib.hid hW4
    have HF := Lib.hid (And.intro hft hdy)
    clear hW4 c4 b34 b3 f3 q3 K2 b1 b2 b12 B4 hft hdy KO2 KP F4
    go_upto_region 5 with fail
    rw [HW4.out]
    go_wp2_with fail
    go_at_call 11
    refine (KW2.out W4 HB4.out).mono ?_
    rintro e w5 ⟨p2, rfl, h5⟩
    obtain ⟨b5, new5⟩ := h5.out
    have K5 := Lib.hid new5
    have B5 := Lib.hid b5
    clear new5 h5 b5 a0 a1 a2 a3 a4 a5 a6 a7 KW2
    go_wp2_with fail
    go_at_call 12
    refine K5.out.mono ?_
    rintro e w6 ⟨mb, q, cev, D, rfl, h6⟩
    obtain ⟨b6, hvq, ehq, run6, sl6⟩ := h6.out
    have b46 : Below W4.heap.size W4 w6 := B5.out.trans (b6.mono B5.out.size)
    have b06 := (OB.out w6 b46).2.2
    obtain ⟨⟨a0, a1, a2, a3, a4, a5, a6, a7⟩, _⟩ := CL.out w6 b06
    have HV := Lib.hid hvq
    have HH := Lib.hid ehq
    have HRn := Lib.hid run6
    have HS := Lib.hid sl6
    have KT6 := Lib.hid (KT1.out w6 b06)
    clear h6 b6 hvq ehq run6 sl6 b46 b06 K5 KT1
    go_wp2_with fail
    go_at_call 13
    refine KT6.out.mono ?_
    rintro e w7 ⟨tx, ty, tz, rfl, b7⟩
    obtain ⟨W8, hW8⟩ : ∃ W, w7.alloc (.cells #[.int .i64 tx, .int .i64 ty, .int .i64 tz] 41) = W := ⟨_, rfl⟩
    have S8 := Lib.hid (HS.out W8 (by rw [← hW8]; exact b7.trans ((allocBP w7 _).mono b7.size)))
    have HW8 := Lib.hid hW8
    clear a0 a1 a2 a3 a4 a5 a6 a7 b7 hW8 KT6 HS
    go_upto_region 7 with fail
    rw [HW8.out]
    go_wp2_with (go_at_call 14; refine (KN.out 0 _).mono ?_; rintro e wx ⟨rfl, hwx⟩; replace hwx := hwx.symm; subst hwx)
    go_loopw [12, 13] (fun fv t wr => ∃ (d : Nat) (fa : Option Addr) (fn fc : Nat), fv = .slice fa fn fc ∧ t = .int .i64 (d : Int) ∧ (d : Int) ≤ hor + 1 ∧ RowKit.Hid (SlI w5 W8.heap.size mb q cev D (rowsF rs) d fa fn fc wr ∧ ∀ k, k < d → ¬ (M k).1.over hor)) (fun _ t _ => (hor + 2).toNat - (intOf t).toNat)
    case atStart => exact ⟨0, none, 0, 0, rfl, rfl, by omega, S8.out, fun k hk => by omega⟩
    case round =>
      clear S8
      rename World => wr
      obtain ⟨d, fa, fn, fc, rfl, rfl, hd, hI⟩ := hrel
      obtain ⟨ri, hno⟩ := hI.out
      have OR := Lib.hid (p := ∀ V, Below w5.heap.size w5 V → (V.cell? ⟨w3.heap.size, 0, none⟩ = some (.slice fa0 fn0 fc0) ∧ V.cell? ⟨w3.heap.size, 1, none⟩ = some (.int .i64 ft) ∧ V.cell? ⟨w3.heap.size, 2, none⟩ = some (.int .i64 dy)) ∧ FLm V fa0 fn0 (M (hor + 1).toNat).2 ∧ V.cell? ⟨w.heap.size, 3, none⟩ = some (.int .i64 hor) ∧ Below W0.heap.size W0 V ∧ Below w.heap.size w V) (fun V b => by
        obtain ⟨x, y, z⟩ := OB.out V (B5.out.trans (b.mono B5.out.size))
        obtain ⟨⟨_, _, _, a3, _⟩, bw⟩ := CL.out V z
        exact ⟨x, y, a3, z, bw⟩)
      obtain ⟨pav, m, gp⟩ := ri.mc
      rw [HRn.out d] at m
      have KOv := Lib.hid (over_any m.box)
      rw [HH.out] at KOv
      by_cases ov : (M d).1.over hor
      · rw [decide_eq_true ov] at KOv
        obtain ⟨e1, e2, e3⟩ := OF2.out d ov hd hno
        have ovq : (M d).1.over q.hor := by rw [HH.out]; exact ov
        rw [HF.out.1, HF.out.2] at e2
        rw [HF.out.1] at e3
        have KDy := Lib.hid (p := ∀ V, Below wr.heap.size wr V → ∀ a n c, Calls Tryz.prog 16 #[.pointer (some ⟨mb, 0, none⟩), .slice a n c] V fun e w' => e = .returned (.tuple #[.slice none 0 0, .int .i64 0, .int .i64 151]) ∧ Below V.heap.size V w') (fun V b a n c => day_over (m.lat b) ovq a n c)
        have KSt := Lib.hid (p := ∀ V, Below wr.heap.size wr V → Calls Tryz.prog 19 #[.pointer (some ⟨mb, 0, none⟩)] V fun e w' => ∃ td sp ca cl cc ga gl gc, e = .returned (.agg #[.int .i64 td, .int .i64 sp, .slice ca cl cc, .slice ga gl gc, .int .i64 ft, .int .i64 dy]) ∧ Below V.heap.size V w') (fun V b => (state_any (m.lat b) HV.out).mono (fun e w' z => by
          obtain ⟨bz, ca, cc, ga, gc, us, rfl, _⟩ := z
          have q1 : (M d).1.fault = ft := by rw [e1]; exact HF.out.1
          have q2 : (M d).1.day = dy := by rw [e1]; exact HF.out.2
          exact ⟨_, _, ca, _, cc, ga, _, gc, by rw [q1, q2], bz⟩))
        have fr := ri.fl
        rw [HRn.out d, e1] at fr
        have KSf := Lib.hid (p := ∀ V, Below wr.heap.size wr V → Calls Tryz.prog 18 #[.slice fa fn fc, .slice fa0 fn0 fc0] V fun e w' => e = .returned (.bool true) ∧ Below V.heap.size V w') (fun V b => by
          have f1 := (owf_fl fr).later b
          have f2 := (OR.out V (ri.bel.trans (b.mono ri.bel.size))).2.1
          have l1 := f1.1
          have l2 := f2.1
          have ln := FL2.out (hor + 1).toNat (by omega)
          have en : fn0 = fn := by omega
          rw [en] at f2 ⊢
          exact sameFl_any fa fa0 fn fc fc0 _ V f1 f2 (by omega))
        have BR := Lib.hid (p := ∀ V, Below wr.heap.size wr V → Below w5.heap.size w5 V) (fun V b => ri.bel.trans (b.mono ri.bel.size))
        have E2 := Lib.hid e2
        have E3 := Lib.hid e3
        clear hI ri m gp hno ov ovq e1 e2 e3 fr OF2 FL2 HRn HV HH
        go_wp2_with fail
        go_at_call 15
        refine KOv.out.mono ?_
        rintro e w9 ⟨rfl, b9⟩
        have B9 := Lib.hid b9
        clear b9 KOv
        go_wp2_with fail
        go_at_call 17
        refine (KA.out w9 (OR.out w9 (BR.out w9 B9.out)).2.2.2.1 d).mono ?_
        rintro e w10 ⟨a10, n10, c10, rfl, h10⟩
        have B10 := Lib.hid (p := Below wr.heap.size wr w10) (B9.out.trans (h10.out.2.mono B9.out.size))
        clear h10 B9
        go_wp2_with fail
        go_at_call 16
        refine (KDy.out w10 B10.out a10 n10 c10).mono ?_
        rintro e w11 ⟨rfl, b11⟩
        have B11 := Lib.hid (p := Below wr.heap.size wr w11) (B10.out.trans (b11.mono B10.out.size))
        obtain ⟨⟨o0, _, _⟩, _⟩ := OR.out w11 (BR.out w11 B11.out)
        clear b11 B10 KDy
        go_wp2_with fail
        go_at_call 18
        refine (KSf.out w11 B11.out).mono ?_
        rintro e w12 ⟨rfl, b12⟩
        have B12 := Lib.hid (p := Below wr.heap.size wr w12) (B11.out.trans (b12.mono B11.out.size))
        clear b12 B11 KSf o0
        go_wp2_with fail
        go_at_call 19
        refine (KSt.out w12 B12.out).mono ?_
        rintro e w13 ⟨td, sp, ca, cl, cc, ga, gl, gc, rfl, b13⟩
        obtain ⟨W14, hW14⟩ : ∃ W, w13.alloc (.cells #[.int .i64 td, .int .i64 sp, .slice ca cl cc, .slice ga gl gc, .int .i64 ft, .int .i64 dy] 51) = W := ⟨_, rfl⟩
        have c14 : BkP W14 w13.heap.size #[.int .i64 td, .int .i64 sp, .slice ca cl cc, .slice ga gl gc, .int .i64 ft, .int .i64 dy] 51 := by rw [← hW14]; exact heapN _ _
        have b14 : Below w13.heap.size w13 W14 := by rw [← hW14]; exact allocBP _ _
        have b1 := B12.out.trans (b13.mono B12.out.size)
        have B14 := Lib.hid (p := Below wr.heap.size wr W14) (b1.trans (b14.mono b1.size))
        obtain ⟨⟨o0, o1, o2⟩, _, a3, _, bw⟩ := OR.out W14 (BR.out W14 B14.out)
        obtain ⟨s0, s1, s2, s3, s4, s5⟩ := box_all6 c14
        have HW14 := Lib.hid hW14
        have BW := Lib.hid bw
        clear hW14 c14 b14 b1 b13 B12 KSt bw
        go_upto_region 18 with fail
        rw [HW14.out]
        by_cases z : ft = 0
        · have e5 := E3.out z
          have kh : IntKind.i64.wrap (hor + 1) = (d : Int) := by rw [e5]; simp [IntKind.wrap, IntKind.bits, IntKind.signed]; omega
          subst z
          clear E2 E3 e5
          go_wp2_with (go_at_call 14; refine (KN.out 151 _).mono ?_; rintro e wx ⟨rfl, hwx⟩; replace hwx := hwx.symm; subst hwx)
          go_ret
          exact ⟨rfl, BW.out⟩
        · have e5 := E2.out z
          have kd : IntKind.i64.wrap ((d : Int) - 1) = dy := by rw [e5]; simp [IntKind.wrap, IntKind.bits, IntKind.signed]; omega
          have z1 : (ft == 0) = false := by simpa using z
          have z2 : (ft != 0) = true := by simpa using z
          clear E2 E3 e5
          go_wp2_with (go_at_call 14; refine (KN.out 151 _).mono ?_; rintro e wx ⟨rfl, hwx⟩; replace hwx := hwx.symm; subst hwx)
          go_ret
          exact ⟨rfl, BW.out⟩
      · rw [decide_eq_false ov] at KOv
        have noq : ¬ (runMs q (vfyA q).2.2.2.back (rowsF rs) d q.born).1.over q.hor := by rw [HRn.out d, HH.out]; exact ov
        obtain ⟨g1, g2, g3⟩ := day_facts noq
        have td := (runMs_today (a := rowsF rs) (p := q) (back := (vfyA q).2.2.2.back) d).2 noq
        have dh : (d : Int) ≤ hor := by
          have z := noq
          unfold Ms.over at z
          rw [HH.out] at z
          omega
        rw [HRn.out (d + 1), HH.out] at g1 g2
        obtain ⟨G, hG⟩ : ∃ G, (dayGo q (runMs q (vfyA q).2.2.2.back (rowsF rs) d q.born).1 (rowsF rs d)).1 = G := ⟨_, rfl⟩
        rw [hG] at g1 g2
        have KDy := Lib.hid (p := ∀ V, Below wr.heap.size wr V → ∀ a n c, RC V a n (rowsF rs d) → Calls Tryz.prog 16 #[.pointer (some ⟨mb, 0, none⟩), .slice a n c] V fun e W' => ∃ la ln lc, e = .returned (.tuple #[.slice la ln lc, .int .i64 G, .int .i64 0]) ∧ RowKit.Hid (SlD w5 W8.heap.size mb q cev D (rowsF rs) d fa fn fc (.slice la ln lc) W')) (fun V b a n c rc => by
          have rv := ri.lat b
          obtain ⟨pav, m, gp⟩ := rv.mc
          refine (day_any (cap := c) m HV.out noq rc).mono (fun e W' dq => ?_)
          obtain ⟨la, ln, lc, e, s⟩ := rv.day m gp noq dq
          rw [hG] at e
          exact ⟨la, ln, lc, e, s⟩)
        have KO2 := Lib.hid (p := ∀ V flv, SlD w5 W8.heap.size mb q cev D (rowsF rs) d fa fn fc flv V → Calls Tryz.prog 15 #[.pointer (some ⟨mb, 0, none⟩)] V fun e W' => e = .returned (.bool (decide ((M (d + 1)).1.over hor))) ∧ Below V.heap.size V W') (fun V flv s => by
          obtain ⟨pav, m, gp⟩ := s.mc
          rw [HRn.out (d + 1)] at m
          have := over_any m.box
          rw [HH.out] at this
          exact this)
        have L1 : (runMs q (vfyA q).2.2.2.back (rowsF rs) d q.born).2.length ≤ 1048576000 := by rw [HRn.out d]; exact FL2.out d (by omega)
        have L2 := dayFl_len HV.out (runMs q (vfyA q).2.2.2.back (rowsF rs) d q.born).1 (rowsF rs d)
        have TL := Lib.hid (p := ∀ flv V, SlD w5 W8.heap.size mb q cev D (rowsF rs) d fa fn fc flv V → ∀ a' n' c' W', V.grownBy W' (Value.ownBlock (.slice fa fn fc)) → OwF W' W8.heap.size (.slice a' n' c') ((runMs q (vfyA q).2.2.2.back (rowsF rs) d q.born).2 ++ dayFl q (runMs q (vfyA q).2.2.2.back (rowsF rs) d q.born).1 (rowsF rs d)) → RowKit.Hid (SlI w5 W8.heap.size mb q cev D (rowsF rs) (d + 1) a' n' c' W' ∧ ∀ k, k < d + 1 → ¬ (M k).1.over hor)) (fun flv V s a' n' c' W' g o => ⟨s.next noq g o, fun k hk => by
          by_cases z : k = d
          · rw [z]; exact ov
          · exact hno k (by omega)⟩)
        have ks : IntKind.i64.wrap ((d : Int) + 1) = (d : Int) + 1 := by simp [IntKind.wrap, IntKind.bits, IntKind.signed]; omega
        have G3 := Lib.hid g3
        have BR := Lib.hid (p := ∀ V, Below wr.heap.size wr V → Below w5.heap.size w5 V) (fun V b => ri.bel.trans (b.mono ri.bel.size))
        have LL := Lib.hid (p := (runMs q (vfyA q).2.2.2.back (rowsF rs) d q.born).2.length + (dayFl q (runMs q (vfyA q).2.2.2.back (rowsF rs) d q.born).1 (rowsF rs d)).length ≤ 4000000000000) (by omega)
        have G1 := Lib.hid g1
        have G2 := Lib.hid g2
        clear hI ri m gp hno ov noq g1 g2 g3 td hG L1 L2 OF2 FL2 HRn HV HH
        go_wp2_with fail
        go_at_call 15
        refine KOv.out.mono ?_
        rintro e w9 ⟨rfl, b9⟩
        have B9 := Lib.hid b9
        clear b9 KOv
        go_wp2_with fail
        go_at_call 17
        refine (KA.out w9 (OR.out w9 (BR.out w9 B9.out)).2.2.2.1 d).mono ?_
        rintro e w10 ⟨a10, n10, c10, rfl, h10⟩
        have KDx := Lib.hid (KDy.out w10 (B9.out.trans (h10.out.2.mono B9.out.size)) a10 n10 c10 h10.out.1)
        clear h10 B9 KDy
        go_wp2_with fail
        go_at_call 16
        refine KDx.out.mono ?_
        rintro e w11 ⟨la, ln, lc, rfl, SD⟩
        clear KDx
        go_upto_region 20 with fail
        go_cut [179] (fun cv wx => cv = .bool false ∧ RowKit.Hid (SlD w5 W8.heap.size mb q cev D (rowsF rs) d fa fn fc (.slice la ln lc) wx))
        case first =>
          have a3 := (OR.out w11 SD.out.bel).2.2.1
          have KOx := Lib.hid (KO2.out w11 _ SD.out)
          have dn : ¬ hor < (d : Int) := by omega
          by_cases z : G = 0
          · subst z
            by_cases dl : (d : Int) < hor
            · rw [decide_eq_false (G2.out rfl dl)] at KOx
              go_wp2_with (first
                | (go_at_call 14; refine (KN.out 0 _).mono ?_; rintro e wx ⟨rfl, hwx⟩; replace hwx := hwx.symm; subst hwx)
                | (go_at_call 15; refine KOx.out.mono ?_; rintro e w12 ⟨rfl, b12⟩; have SD2 := Lib.hid (SD.out.lat b12); clear b12))
              go_meet
              case rel => exact ⟨by first | rfl | rw [decide_eq_false (show ¬ hor < (d : Int) by omega)], SD2⟩
            · go_wp2_with (go_at_call 14; refine (KN.out 0 _).mono ?_; rintro e wx ⟨rfl, hwx⟩; replace hwx := hwx.symm; subst hwx)
              go_meet
              case rel => exact ⟨by first | rfl | rw [decide_eq_false (show ¬ hor < (d : Int) by omega)], SD⟩
          · rw [decide_eq_true (G1.out z)] at KOx
            have z1 : (G == 0) = false := by simpa using z
            have z2 : (G != 0) = true := by simpa using z
            go_wp2_with (first
              | (go_at_call 14; refine (KN.out 0 _).mono ?_; rintro e wx ⟨rfl, hwx⟩; replace hwx := hwx.symm; subst hwx)
              | (go_at_call 15; refine KOx.out.mono ?_; rintro e w12 ⟨rfl, b12⟩; have SD2 := Lib.hid (SD.out.lat b12); clear b12))
            go_meet
            case rel => exact ⟨by first | rfl | rw [decide_eq_false (show ¬ hor < (d : Int) by omega)], SD2⟩
        case rest =>
          obtain ⟨hcv, hcut⟩ := hcut
          subst hcv
          have sd := hcut.out
          obtain ⟨fl1, fl2⟩ := owf_fl sd.nf
          have lb : ln ≤ 4000000000000 := by have := LL.out; omega
          have FL2 := Lib.hid fl2
          have FL1 := Lib.hid fl1
          have SD2 := Lib.hid sd
          clear sd SD hcut fl1 fl2 KO2 G1 G2
          go_wp2
          go_loopw [22] (fun t wi => ∃ i : Nat, i ≤ ln ∧ t = .int .i64 (i : Int) ∧ wi = wc) (fun t _ => ln - (intOf t).toNat)
          case atStart => exact ⟨0, by omega, rfl, rfl⟩
          case round =>
            obtain ⟨i, hi, rfl, hwi⟩ := hrel
            replace hwi := hwi.symm
            subst hwi
            by_cases hlt : i < ln
            · obtain ⟨b, o, hla, hb, hc⟩ := FL2.out.resolve_left (by omega)
              obtain ⟨c0, _, _⟩ := hc i hlt
              have dd : ((dayFl q (runMs q (vfyA q).2.2.2.back (rowsF rs) d q.born).1 (rowsF rs d)).getD i default).d = (d : Int) := G3.out _ (by
                have := FL1.out
                simp [List.getD, this, hlt])
              rw [dd] at c0
              have kc : (i : Int) < (ln : Int) := by omega
              have k0 : ¬ (i : Int) < 0 := by omega
              have ki : IntKind.i64.wrap ((i : Int) + 1) = (i : Int) + 1 := by simp [IntKind.wrap, IntKind.bits, IntKind.signed]; omega
              subst hla
              clear hc dd
              go_wp2
              refine ⟨⟨i + 1, by omega, by simp, by first | rfl | trivial⟩, ?_⟩
              simp [intOf]
              omega
            · have e : i = ln := by omega
              subst e
              have kc : ¬ (i : Int) < (i : Int) := by omega
              go_wp2_with (at_builtin; refine wp_flws wc rfl _ _ rfl W8.heap.size 0 (.slice fa fn fc) (.slice la i lc) _ _ rfl rfl SD2.out.fl SD2.out.nf LL.out SD2.out.go.2 ?_; intro a6 n6 c6 w6 q1 q2; have Y := TL.out _ wc SD2.out _ _ _ w6 q2 q1; clear q1 q2)
              refine ⟨⟨d + 1, _, _, _, rfl, by simp, by omega, Y⟩, ?_⟩
              simp [intOf]
              omega
  · have KO := Lib.hid (fun V (b : Below W0.heap.size W0 V) => run_bad hv h hR hU (B0.trans (b.mono B0.size)))
    have KW := Lib.hid (fun V (b : Below W0.heap.size W0 V) => new_bad hv h hR hU (B0.trans (b.mono B0.size)))
    have KT1 := Lib.hid (p := ∀ V, Below W0.heap.size W0 V → Calls Tryz.prog 13 #[p.agg] V fun e w' => ∃ x y z, e = .returned (.tuple #[.agg #[.int .i64 x, .int .i64 y, .int .i64 z], .bool false]) ∧ Below V.heap.size V w') (fun V b => (KT.out V b).mono (fun e w' q => by obtain ⟨rfl, q2⟩ := q; rw [decide_eq_false hv]; exact ⟨_, _, _, rfl, q2⟩))
    have z1 : ((vfyA p).1 == 0) = false := by simpa using hv
    have z0 : ¬ (vfyA p).1 = 0 := hv
    generalize (vfyA p).1 = en at *
    clear KT hr h hR hU B0 P0 hW0 hv
    unfold Pg.agg Pg.box at *
    obtain ⟨na, nc, names, ua, uc, curs, pa, pc, pool, hor, cells, slots, stack, da, dc, days⟩ := p
    simp only at *
    go_enter Tryz.func3, Tryz.ntmps3
    go_wp2_with fail
    go_at_call 9
    rw [HW.out]
    refine KP.out.mono ?_
    rintro e w1 ⟨rfl, b1⟩
    obtain ⟨⟨a0, a1, a2, a3, a4, a5, a6, a7⟩, _⟩ := CL.out w1 b1
    go_wp2_with fail
    go_at_call 11
    refine (KO.out w1 b1).mono ?_
    rintro e w2 ⟨p1, rfl, h2⟩
    obtain ⟨b2, run2⟩ := h2.out
    have b12 := b1.trans (b2.mono b1.size)
    have K2 := Lib.hid (run2 w2 (Below.refl _ _) ra rn rc rs (RR.out w2 b12))
    clear run2 h2 a0 a1 a2 a3 a4 a5 a6 a7
    go_wp2_with fail
    go_at_call 10
    refine K2.out.mono ?_
    rintro e w3 ⟨rfl, b3⟩
    obtain ⟨W4, hW4⟩ : ∃ W, w3.alloc (.cells #[.slice none 0 0, .int .i64 0, .int .i64 0] 32) = W := ⟨_, rfl⟩
    have b34 : Below w3.heap.size w3 W4 := by rw [← hW4]; exact allocBP _ _
    have b4 := b12.trans (b3.mono b12.size)
    have B4 := b4.trans (b34.mono b4.size)
    obtain ⟨⟨a0, a1, a2, a3, a4, a5, a6, a7⟩, _⟩ := CL.out W4 B4
    have HB4 := Lib.hid B4
    have HW4 := Lib.hid hW4
    clear hW4 b34 b3 K2 b1 b2 b12 b4 B4 KO KP
    go_upto_region 5 with fail
    rw [HW4.out]
    go_wp2_with fail
    go_at_call 11
    refine (KW.out W4 HB4.out).mono ?_
    rintro e w5 ⟨p2, rfl, h5⟩
    obtain ⟨b5, new5⟩ := h5.out
    have K5 := Lib.hid (new5 w5 (Below.refl _ _))
    have B5 := Lib.hid (p := Below W0.heap.size W0 w5) (HB4.out.trans (b5.mono HB4.out.size))
    clear new5 h5 b5 a0 a1 a2 a3 a4 a5 a6 a7 KW
    go_wp2_with fail
    go_at_call 12
    refine K5.out.mono ?_
    rintro e w6 ⟨rfl, b6⟩
    have b06 := B5.out.trans (b6.mono B5.out.size)
    obtain ⟨⟨a0, a1, a2, a3, a4, a5, a6, a7⟩, _⟩ := CL.out w6 b06
    have KT6 := Lib.hid (KT1.out w6 b06)
    have B6 := Lib.hid b06
    clear b6 b06 K5 KT1
    go_wp2_with fail
    go_at_call 13
    refine KT6.out.mono ?_
    rintro e w7 ⟨tx, ty, tz, rfl, b7⟩
    obtain ⟨W8, hW8⟩ : ∃ W, w7.alloc (.cells #[.int .i64 tx, .int .i64 ty, .int .i64 tz] 41) = W := ⟨_, rfl⟩
    have b8 : Below W0.heap.size W0 W8 := by
      have q := B6.out.trans (b7.mono B6.out.size)
      rw [← hW8]
      exact q.trans ((allocBP w7 _).mono q.size)
    have BE := Lib.hid (CL.out W8 b8).2
    have HW8 := Lib.hid hW8
    clear a0 a1 a2 a3 a4 a5 a6 a7 b7 hW8 KT6 b8 B6
    go_upto_region 7 with fail
    rw [HW8.out]
    go_wp2_with (go_at_call 14; refine (KN.out en _).mono ?_; rintro e wx ⟨rfl, hwx⟩; replace hwx := hwx.symm; subst hwx)
    go_ret
    exact ⟨rfl, BE.out⟩
end Go.Proofs.YtpfjnnkjoabgbaaGreatDoor
