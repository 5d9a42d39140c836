import Derived.Test.YtjbbbejadhojlaaDoorXAP
namespace Go.Proofs.YtjbbbejadhojlaaDoor
open Go.RowKit
set_option linter.unusedVariables false
set_option linter.unusedSimpArgs false
theorem proof_set {w V : World} {p : Pg} {nb : Nat} {nd : Nds} (h : VbR w V p nb nd) (a b c : Int) :
    (V.cell? ⟨w.heap.size + 1, 0, none⟩ = some (.int .i64 0) ∧ V.frozen? ⟨w.heap.size + 1, 0, none⟩ = false) ∧
    ((V.setCell ⟨w.heap.size + 1, 0, none⟩ (.int .i64 a)).cell? ⟨w.heap.size + 1, 1, none⟩ = some (.int .i64 0) ∧ (V.setCell ⟨w.heap.size + 1, 0, none⟩ (.int .i64 a)).frozen? ⟨w.heap.size + 1, 1, none⟩ = false) ∧
    (((V.setCell ⟨w.heap.size + 1, 0, none⟩ (.int .i64 a)).setCell ⟨w.heap.size + 1, 1, none⟩ (.int .i64 b)).cell? ⟨w.heap.size + 1, 2, none⟩ = some (.int .i64 0) ∧ ((V.setCell ⟨w.heap.size + 1, 0, none⟩ (.int .i64 a)).setCell ⟨w.heap.size + 1, 1, none⟩ (.int .i64 b)).frozen? ⟨w.heap.size + 1, 2, none⟩ = false) ∧
    BkP (((V.setCell ⟨w.heap.size + 1, 0, none⟩ (.int .i64 a)).setCell ⟨w.heap.size + 1, 1, none⟩ (.int .i64 b)).setCell ⟨w.heap.size + 1, 2, none⟩ (.int .i64 c)) (w.heap.size + 1) #[.int .i64 a, .int .i64 b, .int .i64 c] 29 ∧
    Below w.heap.size w (((V.setCell ⟨w.heap.size + 1, 0, none⟩ (.int .i64 a)).setCell ⟨w.heap.size + 1, 1, none⟩ (.int .i64 b)).setCell ⟨w.heap.size + 1, 2, none⟩ (.int .i64 c)) := by
  have b0 := h.pr
  have b1 := b0.set2 0 (.int .i64 a) (by simp)
  have b2 := b1.set2 1 (.int .i64 b) (by simp)
  have b3 := b2.set2 2 (.int .i64 c) (by simp)
  simp at b1 b2 b3
  refine ⟨⟨(boxV3 b0).1, b0.frozen 0⟩, ⟨(boxV3 b1).2.1, b1.frozen 1⟩, ⟨(boxV3 b2).2.2, b2.frozen 2⟩, b3, ?_⟩
  exact ((h.be.setCell (p := ⟨w.heap.size + 1, 0, none⟩) (Nat.le_succ _) _).setCell (p := ⟨w.heap.size + 1, 1, none⟩) (Nat.le_succ _) _).setCell (p := ⟨w.heap.size + 1, 2, none⟩) (Nat.le_succ _) _
theorem vfy_err {p : Pg} {d k : Nat} (hd : d < p.days.length) (h0 : (vAll p.days d).1 = 0) (hk : k < (p.days.getD d default).code.length) (h1 : (vRun (p.days.getD d default).day (p.days.getD d default).code k).1 = 0) (he : (vPass (p.days.getD d default).day (p.days.getD d default).code.length ((p.days.getD d default).code.getD k default) k (vRun (p.days.getD d default).day (p.days.getD d default).code k).2.2).1 ≠ 0) :
    vfy p = ((vPass (p.days.getD d default).day (p.days.getD d default).code.length ((p.days.getD d default).code.getD k default) k (vRun (p.days.getD d default).day (p.days.getD d default).code k).2.2).1, d, k, ⟨0, 0, 0, 0, 0⟩) := by
  have e1 := vRun_succ h1
  have z1 : (vRun (p.days.getD d default).day (p.days.getD d default).code (k + 1)).1 ≠ 0 := by rw [e1]; exact he
  have e2 := vRun_stop z1 _ (show k + 1 ≤ (p.days.getD d default).code.length by omega)
  have e3 := vAll_succ h0
  rw [e2, e1] at e3
  have z2 : (vAll p.days (d + 1)).1 ≠ 0 := by rw [e3]; exact he
  have e4 := vAll_stop z2 _ (show d + 1 ≤ p.days.length by omega)
  unfold vfy
  rw [e4, if_pos z2, e3]
theorem vfy_end {p : Pg} (h0 : (vAll p.days p.days.length).1 = 0) : vfy p = if vFit (vAll p.days p.days.length).2.2.2 p then (0, 0, 0, (vAll p.days p.days.length).2.2.2) else (147, p.days.length, 0, ⟨0, 0, 0, 0, 0⟩) := by
  unfold vfy
  rw [if_neg (by simpa using h0)]
set_option maxRecDepth 100000 in
set_option maxHeartbeats 1600000 in
theorem verify_can {w : World} {p : Pg} (h : PV w p) (hR : Rws w) (hU : Rul w) (hc : canP p) :
    Calls Tryd.prog 6 #[p.agg] w fun e w' => e = .returned (vfV (vfy p)) ∧ Below w.heap.size w w' := by
  have W0 := Lib.hid (p := Below w.heap.size w ((w.alloc p.box).alloc (.cells #[.int .i64 0, .int .i64 0, .int .i64 0] 29))) (((Below.refl _ w).alloc (Nat.le_refl _) _).alloc (by simp) _)
  have KC := Lib.hid (canon_any (h.later W0.out) (hR.below W0.out))
  rw [if_pos hc] at KC
  have VS := Lib.hid (fun w1 b => vb_start (w := w) (w1 := w1) (p := p) b)
  have DR := Lib.hid h.days.2.2.2.2
  have DG := Lib.hid h.days.2.2.2.1
  have n3 := h.days.2.2.1
  have HS := Lib.hid (fun d (hd : d < p.days.length) => sg_ok hc hd)
  have HF := Lib.hid (p := ∀ d, d < p.days.length → (vAll p.days d).1 = 0 → 0 ≤ (vAll p.days d).2.2.2.fuel ∧ (vAll p.days d).2.2.2.fuel + (p.days.getD d default).code.length ≤ 262144) (fun d hd h0 => by
    have e := all_fuel d (by omega) h0
    have t := tot_le (days := p.days) (d := d + 1) (by omega)
    have u := hc.2.2.1.2
    have s : totN p.days (d + 1) = totN p.days d + (p.days.getD d default).code.length := by
      unfold totN
      rw [List.take_succ_eq_append_getElem hd, List.map_append, List.sum_append]
      simp [List.getD, hd]
    rw [e]
    omega)
  have HR := Lib.hid hR
  have HU := Lib.hid hU
  have VE := Lib.hid (fun d k hd h0 hk h1 he => vfy_err (p := p) (d := d) (k := k) hd h0 hk h1 he)
  have VN := Lib.hid (fun h0 => vfy_end (p := p) h0)
  have KF := Lib.hid (fun W nb nd (hb : VbR w W p nb nd) => fit_any (p := p) hb.ne)
  have PA := Lib.hid (p := ∀ W nb nd, VbR w W p nb nd → BkP W w.heap.size #[.slice p.na p.names.length p.nc, .slice p.ua p.curs.length p.uc, .slice p.pa p.pool.length p.pc, .int .i64 p.hor, .int .i64 p.cells, .int .i64 p.slots, .int .i64 p.stack, .slice p.da p.days.length p.dc] 26) (fun W nb nd hb => hb.pb)
  clear h hR hU hc
  unfold Pg.agg at *
  unfold Pg.box at *
  obtain ⟨na, nc, names, ua, uc, curs, pa, pc, pool, hor, cells, slots, stack, da, dc, days⟩ := p
  simp only at *
  go_enter Tryd.func6, Tryd.ntmps6
  go_wp2
  go_step3
  go_wp2_with (go_at_call 15; refine KC.out.mono ?_; rintro e w1 ⟨rfl, h1⟩; have V1 := Lib.hid (VS.out w1 h1); have LN := Lib.hid (p := w.heap.size ≤ w1.heap.size) (W0.out.trans (h1.mono W0.out.size)).size; obtain ⟨_, _, _, _, _, _, _, x7⟩ := box_all8 (PA.out _ _ _ V1.out); clear h1)
  go_step3
  go_wp2
  clear KC VS x7 W0
  go_loopw [8, 9, 10, 28] (fun g pl er t wr => ∃ d : Nat, d ≤ days.length ∧ g = .int .i64 (days.length : Int) ∧ pl = .int .i64 0 ∧ er = .int .i64 0 ∧ t = .int .i64 (d : Int) ∧ RowKit.Hid ((vAll days d).1 = 0) ∧ VbR w wr ⟨na, nc, names, ua, uc, curs, pa, pc, pool, hor, cells, slots, stack, da, dc, days⟩ w1.heap.size (vAll days d).2.2.2) (fun _ _ _ t _ => days.length - (intOf t).toNat)
  case atStart => exact ⟨0, by omega, rfl, rfl, rfl, rfl, rfl, V1.out⟩
  case round =>
    clear V1
    rename World => wr
    obtain ⟨d, hd, rfl, rfl, rfl, rfl, h0, hV⟩ := hrel
    by_cases hlt : d < days.length
    · have kc : (d : Int) < (days.length : Int) := by omega
      have ks : IntKind.i64.wrap ((d : Int) + 1) = (d : Int) + 1 := by simp [IntKind.wrap, IntKind.bits, IntKind.signed]; omega
      have H0 := Lib.hid h0.out
      have VV := Lib.hid hV
      have SO := Lib.hid (HS.out d hlt)
      have FO := Lib.hid (HF.out d hlt h0.out)
      have VEd := Lib.hid (fun k hk h1 he => VE.out d k hlt h0.out hk h1 he)
      have GI := Lib.hid (DG.out _ (sg_mem (i := d) hlt)).2
      have NX := Lib.hid (vAll_succ h0.out)
      have DW := DR.out.later hV.be
      obtain ⟨x, o, hda, _, hc⟩ := DW.oneP (by omega)
      have c0 := hc d hlt 0 (by omega)
      have c1 := hc d hlt 1 (by omega)
      simp only [Sg.cs, Nat.add_zero, List.getD_cons_zero, List.getD_cons_succ] at c0 c1
      generalize days.getD d default = s at *
      obtain ⟨sd, sa, sc, sl⟩ := s
      simp only at c0 c1 GI SO FO VEd NX
      generalize hnd : (vAll days d).2.2.2 = nd at *
      clear hc hV h0 DW hnd
      subst hda
      have KE := Lib.hid (enter_any (w := wr.alloc (.cells #[.int .i64 sd, .slice sa sl.length sc] 43)) (B := w.heap.size) (day := sd) (ca := sa) (cc := sc) (n := sl.length) (Nat.le_trans VV.out.be.size (allocBP _ _).size) (by have := SO.out.two; simp only at this; omega) SO.out.len)
      go_wp2_with (go_at_call 16; refine KE.out.mono ?_; rintro e w2 ⟨⟨wb, ab, G, A, rfl, hw⟩, hb⟩; have IN0 := Lib.hid (p := InR w w2 ⟨na, nc, names, ua, uc, curs, pa, pc, pool, hor, cells, slots, stack, some ⟨x, o, none⟩, dc, days⟩ w1.heap.size wr.heap.size wb ab ⟨sd, sa, sc, sl⟩ nd 0) ⟨(VV.out.later (allocBP _ _)).later hb, BkP.lat (heapN _ _) hb, ⟨G, A, hw⟩⟩; have y1 := IN0.out.ds.cell 1; simp at y1; clear hw hb)
      clear KE y1
      go_loopw [8, 9, 10, 38] (fun g pl er t w3 => ∃ k : Nat, k ≤ sl.length ∧ g = .int .i64 (days.length : Int) ∧ pl = .int .i64 0 ∧ er = .int .i64 0 ∧ t = .int .i64 (k : Int) ∧ RowKit.Hid ((vRun sd sl k).1 = 0) ∧ InR w w3 ⟨na, nc, names, ua, uc, curs, pa, pc, pool, hor, cells, slots, stack, some ⟨x, o, none⟩, dc, days⟩ w1.heap.size wr.heap.size wb ab ⟨sd, sa, sc, sl⟩ nd k) (fun _ _ _ t _ => sl.length - (intOf t).toNat)
      case atStart => exact ⟨0, by omega, rfl, rfl, rfl, rfl, rfl, IN0.out⟩
      case round =>
        clear IN0
        rename World => w3
        obtain ⟨k, hk, rfl, rfl, rfl, rfl, h1, hI⟩ := hrel
        by_cases hkn : k < sl.length
        · have kc2 : (k : Int) < (sl.length : Int) := by omega
          have kk0 : ¬ (k : Int) < 0 := by omega
          have ks2 : IntKind.i64.wrap ((k : Int) + 1) = (k : Int) + 1 := by simp [IntKind.wrap, IntKind.bits, IntKind.signed]; have := SO.out.len; simp only at this; omega
          have H1 := Lib.hid h1.out
          have VEk := Lib.hid (fun he => VEd.out k hkn h1.out he)
          obtain ⟨cx, co, hsa, _, hcc⟩ := (GI.out.later hI.vb.be).2.2.2.2.oneP (by omega)
          have q0 := hcc k hkn 0 (by omega)
          have q1 := hcc k hkn 1 (by omega)
          have q2 := hcc k hkn 2 (by omega)
          simp only [icell, Nat.add_zero, List.getD_cons_zero, List.getD_cons_succ] at q0 q1 q2
          have II := Lib.hid (hI.later (allocBP w3 (.cells #[.int .i64 (sl.getD k default).o, .int .i64 (sl.getD k default).a, .int .i64 (sl.getD k default).b] 51)))
          have KP := Lib.hid (round_pass II.out hkn SO.out GI.out HR.out HU.out (i := sl.getD k default) (heapN w3 (.cells #[.int .i64 (sl.getD k default).o, .int .i64 (sl.getD k default).a, .int .i64 (sl.getD k default).b] 51)))
          have KS := Lib.hid (fun W (hW : RpE w W ⟨na, nc, names, ua, uc, curs, pa, pc, pool, hor, cells, slots, stack, some ⟨x, o, none⟩, dc, days⟩ w1.heap.size wr.heap.size wb ab ⟨sd, sa, sc, sl⟩ nd k (sl.getD k default) w3.heap.size (.returned (.int .i64 0)) W) he V (b : Below W.heap.size W V) => round_see hW hkn SO.out h1.out he FO.out.1 FO.out.2 LN.out b)
          simp only at KP KS VEk
          clear hcc hI h1
          subst hsa
          obtain ⟨pv, hpv⟩ : ∃ pv, pv = vPass sd sl.length (sl.getD k default) k (vRun sd sl k).2.2 := ⟨_, rfl⟩
          by_cases ez : pv.1 = 0
          · have z1 : (pv.1 != 0) = false := by simpa using ez
            have KP2 := Lib.hid (p := Calls Tryd.prog 17 #[.pointer (some ⟨wb, 0, none⟩), .int .i64 (k : Int)] (w3.alloc (.cells #[.int .i64 (sl.getD k default).o, .int .i64 (sl.getD k default).a, .int .i64 (sl.getD k default).b] 51)) fun e V => e = .returned (.int .i64 pv.1) ∧ RpE w V ⟨na, nc, names, ua, uc, curs, pa, pc, pool, hor, cells, slots, stack, some ⟨x, o, none⟩, dc, days⟩ w1.heap.size wr.heap.size wb ab ⟨sd, some ⟨cx, co, none⟩, sc, sl⟩ nd k (sl.getD k default) w3.heap.size (.returned (.int .i64 0)) V) (KP.out.mono (fun e V h => ⟨by rw [h.ret, hpv], ⟨by simp only; rw [← hpv, ez], h.vb, h.ds, h.wk, h.ibx⟩⟩))
            have KS2 := Lib.hid (p := ∀ W, RpE w W ⟨na, nc, names, ua, uc, curs, pa, pc, pool, hor, cells, slots, stack, some ⟨x, o, none⟩, dc, days⟩ w1.heap.size wr.heap.size wb ab ⟨sd, some ⟨cx, co, none⟩, sc, sl⟩ nd k (sl.getD k default) w3.heap.size (.returned (.int .i64 0)) W → ∀ V, Below W.heap.size W V → Calls Tryd.prog 18 #[.pointer (some ⟨w1.heap.size, 0, none⟩), .agg #[.int .i64 (sl.getD k default).o, .int .i64 (sl.getD k default).a, .int .i64 (sl.getD k default).b], .int .i64 (vHt pv.2 k : Int)] V fun e V' => RsE w ⟨na, nc, names, ua, uc, curs, pa, pc, pool, hor, cells, slots, stack, some ⟨x, o, none⟩, dc, days⟩ w1.heap.size wr.heap.size wb ab ⟨sd, some ⟨cx, co, none⟩, sc, sl⟩ nd k e V') (fun W hW V b => by
              have := KS.out W hW (by rw [← hpv]; exact ez) V b
              rw [← hpv] at this
              exact this)
            have HH := Lib.hid (p := ∀ W, RpE w W ⟨na, nc, names, ua, uc, curs, pa, pc, pool, hor, cells, slots, stack, some ⟨x, o, none⟩, dc, days⟩ w1.heap.size wr.heap.size wb ab ⟨sd, some ⟨cx, co, none⟩, sc, sl⟩ nd k (sl.getD k default) w3.heap.size (.returned (.int .i64 0)) W → ∃ hx, W.cell? ⟨wb, 2, none⟩ = some (.slice (some ⟨ab, 0, none⟩) sl.length sl.length) ∧ W.cell? ⟨ab, k, none⟩ = some (.pointer (some ⟨hx, 0, none⟩)) ∧ W.cell? ⟨hx, 1, none⟩ = some (.int .i64 (vHt pv.2 k : Int))) (fun W hW => by
              obtain ⟨G, A, q⟩ := hW.wk
              simp only at q
              rw [← hpv] at q
              obtain ⟨u, hu⟩ := pass_has (day := sd) (n := sl.length) (i := sl.getD k default) (k := k) (l := (vRun sd sl k).2.2) (by rw [← hpv]; exact ez)
              rw [← hpv] at hu
              obtain ⟨hx, q1, q2⟩ := high_of q hkn hu
              have q3 := q.wk.cell 2
              simp at q3
              exact ⟨hx, q3, q1, q2⟩)
            have NR := Lib.hid (p := (vRun sd sl (k + 1)).1 = 0) (by rw [vRun_succ H1.out, ← hpv]; exact ez)
            have CT := Lib.hid ez
            clear KP KS VEk hpv II
            generalize hi : sl.getD k default = i at *
            obtain ⟨io, ia, ib⟩ := i
            clear hi
            generalize vHt pv.2 k = ht at *
            simp only at q0 q1 q2 KP2 KS2
            clear ez
            go_wp2_with (go_at_call 17; refine KP2.out.mono ?_; rintro e w4 ⟨rfl, h1⟩; obtain ⟨hx, g1, g2, g3⟩ := HH.out w4 h1; obtain ⟨g4, g5, g6⟩ := boxV3 h1.ibx; have R4 := Lib.hid h1; clear h1)
            go_region_with (go_at_call 18; refine (KS2.out w4 R4.out _ (by first | exact Below.refl _ _ | exact drew1B _)).mono ?_; rintro e w5 ⟨rfl, h1⟩; have I5 := Lib.hid h1; clear h1)
            all_goals
              go_wp2
              first
                | exact ⟨⟨k + 1, by omega, rfl, rfl, by rw [CT.out], by go_num, NR.out, I5.out⟩, by simp [intOf]; omega⟩
                | exact ⟨⟨k + 1, by omega, rfl, rfl, by rw [CT.out], by go_num, NR.out, I5.out.later (drew1B _)⟩, by simp [intOf]; omega⟩
          · have VF := Lib.hid (VEk.out (by rw [← hpv]; exact ez))
            have z1 : (pv.1 != 0) = true := by simpa using ez
            have z2 : (pv.1 == 0) = false := by simpa using ez
            have KP2 := Lib.hid (p := Calls Tryd.prog 17 #[.pointer (some ⟨wb, 0, none⟩), .int .i64 (k : Int)] (w3.alloc (.cells #[.int .i64 (sl.getD k default).o, .int .i64 (sl.getD k default).a, .int .i64 (sl.getD k default).b] 51)) fun e V => e = .returned (.int .i64 pv.1) ∧ VbR w V ⟨na, nc, names, ua, uc, curs, pa, pc, pool, hor, cells, slots, stack, some ⟨x, o, none⟩, dc, days⟩ w1.heap.size (vNeed nd sd sl k)) (KP.out.mono (fun e V h => ⟨by rw [h.ret, hpv], h.vb⟩))
            rw [← hpv] at VF
            clear KP KS VEk ez hpv II
            generalize sl.getD k default = i at *
            obtain ⟨io, ia, ib⟩ := i
            simp only at q0 q1 q2 KP2
            go_wp2_with (go_at_call 17; refine KP2.out.mono ?_; rintro e w4 ⟨rfl, h1⟩; obtain ⟨⟨u0, u1⟩, ⟨u2, u3⟩, ⟨u4, u5⟩, u6, u7⟩ := proof_set h1 0 0 0; have U6 := Lib.hid u6; have U7 := Lib.hid u7; clear h1 u6 u7)
            rw [Exit.noGoto_ret]
            obtain ⟨r0, r1, r2⟩ := boxV3 U6.out
            refine bodyPost_ret (v := vfV (pv.1, d, k, ⟨0, 0, 0, 0, 0⟩)) ?r rfl ?s
            case r => simp [results, Tryd.results6, go_sem, r0, r1, r2, vfV]
            case s => exact ⟨by rw [VF.out], U7.out⟩
        · obtain rfl : k = sl.length := by omega
          have RR := Lib.hid (p := (vAll days (d + 1)).1 = 0 ∧ (vAll days (d + 1)).2.2.2 = vNeed nd sd sl sl.length) (by rw [NX.out]; exact ⟨h1.out, rfl⟩)
          have VB := Lib.hid hI.vb
          clear hI h1
          go_wp2
          go_roundw
          case rel => exact ⟨d + 1, by omega, rfl, rfl, rfl, by go_num, RR.out.1, by rw [RR.out.2]; exact VB.out⟩
          case measure => simp [intOf]; omega
    · obtain rfl : d = days.length := by omega
      have VNn := Lib.hid (VN.out h0.out)
      have VV := Lib.hid hV
      have KFn := Lib.hid (KF.out _ _ _ hV)
      obtain ⟨x0, x1, x2, x3, x4, x5, x6, x7⟩ := box_all8 (PA.out _ _ _ hV)
      clear hV h0
      generalize hnd : (vAll days days.length).2.2.2 = nd at *
      clear hnd
      by_cases ef : vFit nd ⟨na, nc, names, ua, uc, curs, pa, pc, pool, hor, cells, slots, stack, da, dc, days⟩
      · rw [decide_eq_true ef] at KFn
        have VF := Lib.hid (p := vfy ⟨na, nc, names, ua, uc, curs, pa, pc, pool, hor, cells, slots, stack, da, dc, days⟩ = (0, 0, 0, nd)) (by rw [VNn.out, if_pos ef])
        clear ef VNn KF
        obtain ⟨st, fu, ba, sl, ce⟩ := nd
        go_wp2_with (go_at_call 19; refine KFn.out.mono ?_; rintro e w4 ⟨rfl, h1⟩; have v4 := VV.out.later h1; obtain ⟨n0, n1, n2, _, _⟩ := boxV5 v4.ne; obtain ⟨⟨u0, u1⟩, ⟨u2, u3⟩, ⟨u4, u5⟩, u6, u7⟩ := proof_set v4 st fu ba; have U6 := Lib.hid u6; have U7 := Lib.hid u7; clear h1 u6 u7 v4)
        rw [Exit.noGoto_ret]
        obtain ⟨r0, r1, r2⟩ := boxV3 U6.out
        refine bodyPost_ret (v := vfV (0, 0, 0, ⟨st, fu, ba, sl, ce⟩)) ?r rfl ?s
        case r => simp [results, Tryd.results6, go_sem, r0, r1, r2, vfV]
        case s => exact ⟨by rw [VF.out], U7.out⟩
      · rw [decide_eq_false ef] at KFn
        have VF := Lib.hid (p := vfy ⟨na, nc, names, ua, uc, curs, pa, pc, pool, hor, cells, slots, stack, da, dc, days⟩ = (147, days.length, 0, ⟨0, 0, 0, 0, 0⟩)) (by rw [VNn.out, if_neg ef])
        clear ef VNn KF
        go_wp2_with (go_at_call 19; refine KFn.out.mono ?_; rintro e w4 ⟨rfl, h1⟩; have v4 := VV.out.later h1; obtain ⟨⟨u0, u1⟩, ⟨u2, u3⟩, ⟨u4, u5⟩, u6, u7⟩ := proof_set v4 0 0 0; have U6 := Lib.hid u6; have U7 := Lib.hid u7; clear h1 u6 u7 v4)
        rw [Exit.noGoto_ret]
        obtain ⟨r0, r1, r2⟩ := boxV3 U6.out
        refine bodyPost_ret (v := vfV (147, days.length, 0, ⟨0, 0, 0, 0, 0⟩)) ?r rfl ?s
        case r => simp [results, Tryd.results6, go_sem, r0, r1, r2, vfV]
        case s => exact ⟨by rw [VF.out], U7.out⟩
end Go.Proofs.YtjbbbejadhojlaaDoor

namespace Go.Proofs.YtjbbbejadhojlaaDoor
open Go.RowKit
set_option linter.unusedVariables false
set_option linter.unusedSimpArgs false
theorem verify_any {w : World} {p : Pg} (h : PV w p) (hR : Rws w) (hU : Rul w) : Calls Tryd.prog 6 #[p.agg] w fun e w' => e = .returned (vfV (vfyA p)) ∧ Below w.heap.size w w' := by
  by_cases hc : canP p
  · have e : vfyA p = vfy p := by unfold vfyA; rw [if_pos hc]
    rw [e]
    exact verify_can h hR hU hc
  · exact verify_odd h hR hc
theorem infoIntV : (Tryd.prog.info? 3).map (fun i => (i.zero, i.size, i.bytes)) = some (some (.int .i64 0), 1, 8) := by kernel_rfl
theorem make_intsV (n : Nat) (hn : n ≤ 262144) (W : World) : (Instr.makeSlice 23 (.int .i64 (n : Int)) (.int .i64 (n : Int))).run Tryd.prog W = .ok (.slice (some ⟨W.heap.size, 0, none⟩) n n) (W.alloc (.cells (madeCells #[.int .i64 0] n) 3)) := by
  obtain ⟨i0, hi, hz0, hz1, hz2⟩ := info_parts infoIntV
  have := run_make (P := Tryd.prog) W 23 3 i0 _ Tryd.underlying23 hi hz0 .i64 .i64 n n (by omega) (by omega) (by rw [hz2]; omega) (by omega)
  rw [hz1] at this
  simpa [Value.cells] using this
/-- A row of numbers, the first k of them told. -/
def htA (f : Nat → Nat) (k n : Nat) : Array Value := ((List.range n).map (fun j => Value.int .i64 (((if j < k then f j else 0 : Nat)) : Int))).toArray
theorem htA_size (f : Nat → Nat) (k n : Nat) : (htA f k n).size = n := by simp [htA]
theorem htA_at (f : Nat → Nat) (k n j : Nat) (hj : j < n) : (htA f k n)[j]? = some (.int .i64 (((if j < k then f j else 0 : Nat)) : Int)) := by
  unfold htA
  simp [hj]
theorem htA_zero (f : Nat → Nat) (n : Nat) : madeCells #[.int .i64 0] n = htA f 0 n := by
  apply Array.ext_getElem?
  intro k
  by_cases hk : k < n
  · rw [htA_at _ _ _ _ hk]
    unfold madeCells
    simp [hk, Nat.mod_one]
  · rw [Array.getElem?_eq_none (by simp [madeCells]; omega), Array.getElem?_eq_none (by rw [htA_size]; omega)]
theorem htA_set (f : Nat → Nat) (k n : Nat) (hk : k < n) : (htA f k n).set! k (.int .i64 (f k : Int)) = htA f (k + 1) n := by
  apply Array.ext_getElem?
  intro j
  rw [Array.set!_eq_setIfInBounds, Array.getElem?_setIfInBounds]
  by_cases hj : j < n
  · rw [htA_at _ _ _ _ hj, htA_at _ _ _ _ hj, htA_size]
    by_cases e : k = j
    · subst e
      rw [if_pos rfl, if_pos hk, if_pos (by omega)]
    · rw [if_neg e]
      by_cases l : j < k
      · rw [if_pos l, if_pos (by omega)]
      · rw [if_neg l, if_neg (by omega)]
  · rw [if_neg (by omega), Array.getElem?_eq_none (by rw [htA_size]; omega), Array.getElem?_eq_none (by rw [htA_size]; omega)]
/-- The heights of a segment's code. -/
def htF (s : Sg) (k : Nat) : Nat := vHt (vRun s.day s.code s.code.length).2.2 k
theorem all_ok {p : Pg} (h : (vAll p.days p.days.length).1 = 0) {d : Nat} (hd : d < p.days.length) : (vRun (p.days.getD d default).day (p.days.getD d default).code (p.days.getD d default).code.length).1 = 0 := by
  have h1 := vAll_before h (show d + 1 ≤ p.days.length by omega)
  have h0 := vAll_before h (show d ≤ p.days.length by omega)
  rw [vAll_succ h0] at h1
  exact h1
theorem vfy_ok {p : Pg} (h : (vfy p).1 = 0) : (vAll p.days p.days.length).1 = 0 ∧ vFit (vAll p.days p.days.length).2.2.2 p ∧ vfy p = (0, 0, 0, (vAll p.days p.days.length).2.2.2) := by
  unfold vfy at h ⊢
  by_cases e : (vAll p.days p.days.length).1 = 0
  · rw [if_neg (by simpa using e)] at h ⊢
    by_cases f : vFit (vAll p.days p.days.length).2.2.2 p
    · rw [if_pos f]
      exact ⟨e, f, rfl⟩
    · rw [if_neg f] at h
      simp at h
  · rw [if_pos e] at h
    exact absurd h e
/-- What Heights answers. -/
structure HtE (w : World) (p : Pg) (sg : Int) (e : Ending) (w' : World) : Prop where
  bel : Below w.heap.size w w'
  bad : (vfyA p).1 ≠ 0 → e = .returned (.tuple #[.slice none 0 0, .int .i64 (vfyA p).1])
  out : (vfyA p).1 = 0 → (sg < 0 ∨ (p.days.length : Int) ≤ sg) → e = .returned (.tuple #[.slice none 0 0, .int .i64 2])
  ok : (vfyA p).1 = 0 → ∀ d : Nat, sg = (d : Int) → d < p.days.length → ∃ hb, w.heap.size ≤ hb ∧ e = .returned (.tuple #[.slice (some ⟨hb, 0, none⟩) (p.days.getD d default).code.length (p.days.getD d default).code.length, .int .i64 0]) ∧ BkP w' hb (htA (htF (p.days.getD d default)) (p.days.getD d default).code.length (p.days.getD d default).code.length) 3
theorem heights_odd {w : World} {p : Pg} {sg : Int} (h : PV w p) (hR : Rws w) (hU : Rul w) (hc : (vfyA p).1 ≠ 0) : Calls Tryd.prog 10 #[p.agg, .int .i64 sg] w fun e w' => HtE w p sg e w' := by
  have B0 := Lib.hid (allocBP w p.box)
  have KV := Lib.hid (verify_any (h.later B0.out) (hR.below B0.out) (hU.lat B0.out))
  have E := Lib.hid (p := ∀ V, Below w.heap.size w V → HtE w p sg (.returned (.tuple #[.slice none 0 0, .int .i64 (vfyA p).1])) V) (fun V b => ⟨b, fun _ => rfl, fun z => absurd z hc, fun z => absurd z hc⟩)
  have ne : ((vfyA p).1 != 0) = true := by simpa using hc
  generalize vfyA p = r at *
  clear h hR hU hc
  unfold vfV at KV
  unfold Pg.agg at *
  unfold Pg.box at *
  obtain ⟨na, nc, names, ua, uc, curs, pa, pc, pool, hor, cells, slots, stack, da, dc, days⟩ := p
  obtain ⟨r1, r2, r3, ⟨st, fu, ba, sl, ce⟩⟩ := r
  simp only at *
  go_enter Tryd.func10, Tryd.ntmps10
  go_wp2_with (go_at_call 6; refine KV.out.mono ?_; rintro e w1 ⟨rfl, h1⟩; have B1 := Lib.hid (B0.out.trans (h1.mono B0.out.size)); clear h1)
  go_ret2
  exact E.out _ (B1.out.alloc B1.out.size _)
theorem heights_out {w : World} {p : Pg} {sg : Int} (h : PV w p) (hR : Rws w) (hU : Rul w) (hc : (vfyA p).1 = 0) (ho : sg < 0 ∨ (p.days.length : Int) ≤ sg) : Calls Tryd.prog 10 #[p.agg, .int .i64 sg] w fun e w' => HtE w p sg e w' := by
  have B0 := Lib.hid (allocBP w p.box)
  have KV := Lib.hid (verify_any (h.later B0.out) (hR.below B0.out) (hU.lat B0.out))
  have E := Lib.hid (p := ∀ V, Below w.heap.size w V → HtE w p sg (.returned (.tuple #[.slice none 0 0, .int .i64 2])) V) (fun V b => ⟨b, fun z => absurd hc z, fun _ _ => rfl, fun _ d e1 e2 => by omega⟩)
  have TB := Lib.hid (p := BkP (w.alloc p.box) w.heap.size p.arr 26) (heapN _ _)
  have ne : ((vfyA p).1 != 0) = false := by simpa using hc
  generalize vfyA p = r at *
  clear h hR hU hc
  unfold vfV at KV
  unfold Pg.agg at *
  unfold Pg.box at *
  unfold Pg.arr at TB
  obtain ⟨na, nc, names, ua, uc, curs, pa, pc, pool, hor, cells, slots, stack, da, dc, days⟩ := p
  obtain ⟨r1, r2, r3, ⟨st, fu, ba, sl, ce⟩⟩ := r
  simp only at *
  by_cases l0 : sg < 0
  · clear ho
    go_enter Tryd.func10, Tryd.ntmps10
    go_wp2_with (go_at_call 6; refine KV.out.mono ?_; rintro e w1 ⟨rfl, h1⟩; have B1 := Lib.hid (B0.out.trans (h1.mono B0.out.size)); clear h1)
    go_ret2
    exact E.out _ (B1.out.alloc B1.out.size _)
  · have l1 : (days.length : Int) ≤ sg := by omega
    clear ho
    go_enter Tryd.func10, Tryd.ntmps10
    go_wp2_with (go_at_call 6; refine KV.out.mono ?_; rintro e w1 ⟨rfl, h1⟩; have B1 := Lib.hid (B0.out.trans (h1.mono B0.out.size)); obtain ⟨_, _, _, _, _, _, _, x7⟩ := box_all8 ((TB.out.lat h1).lat (allocBP _ (.cells #[.int .i64 st, .int .i64 fu, .int .i64 ba] 29))); clear h1)
    go_ret2
    exact E.out _ (B1.out.alloc B1.out.size _)
end Go.Proofs.YtjbbbejadhojlaaDoor
