import Derived.Test.YtjbbbejadhojlaaDoorXBD
import Derived.Test.YtjbbbejadhojlaaDoorXAQ
namespace Go.Proofs.YtjbbbejadhojlaaDoor
open Go.RowKit
set_option linter.unusedVariables false
set_option linter.unusedSimpArgs false
theorem see_o {nd : Nds} {i : In} {h : Nat} : (i.o = 3 → vSee nd i h = ⟨max nd.stack h, nd.fuel + 1, max nd.back i.b, nd.slots, nd.cells⟩) ∧ (i.o = 6 ∨ i.o = 7 → vSee nd i h = ⟨max nd.stack h, nd.fuel + 1, nd.back, max nd.slots (i.a + 1), nd.cells⟩) ∧ (i.o = 4 ∨ i.o = 5 → vSee nd i h = ⟨max nd.stack h, nd.fuel + 1, nd.back, nd.slots, max nd.cells (i.a + 1)⟩) ∧ (¬ i.o = 3 → ¬ (i.o = 6 ∨ i.o = 7) → ¬ (i.o = 4 ∨ i.o = 5) → vSee nd i h = ⟨max nd.stack h, nd.fuel + 1, nd.back, nd.slots, nd.cells⟩) := by
  unfold vSee
  simp only
  refine ⟨fun z => ?_, fun z => ?_, fun z => ?_, fun z1 z2 z3 => ?_⟩
  · rw [if_neg (by omega), if_neg (by omega), if_pos z]
  · rw [if_pos z]
  · rw [if_neg (by omega), if_pos z]
  · rw [if_neg z2, if_neg z3, if_neg z1]
set_option maxRecDepth 100000 in
set_option maxHeartbeats 1600000 in
theorem refVerify_odd {w : World} {p : Pg} (h : PV w p) (hc : ¬ canP p) : Calls Tryd.prog 7 #[p.agg] w fun e w' => e = .returned (vfV (vfyA p)) ∧ Below w.heap.size w w' := by
  have W0 := Lib.hid (p := Below w.heap.size w ((w.alloc p.box).alloc (.cells #[.int .i64 0, .int .i64 0, .int .i64 0] 29))) (((Below.refl _ w).alloc (Nat.le_refl _) _).alloc (by simp) _)
  have KC := Lib.hid (canonR_any (h.later W0.out))
  rw [if_neg hc] at KC
  have TB := (BkP.lat (heapN w p.box) (allocBP _ (.cells #[.int .i64 0, .int .i64 0, .int .i64 0] 29)))
  have PB := Lib.hid (p := BkP ((w.alloc p.box).alloc (.cells #[.int .i64 0, .int .i64 0, .int .i64 0] 29)) (w.heap.size + 1) #[.int .i64 0, .int .i64 0, .int .i64 0] 29) (by
    have e : (w.alloc p.box).heap.size = w.heap.size + 1 := by simp
    have := heapN (w.alloc p.box) (.cells #[.int .i64 0, .int .i64 0, .int .i64 0] 29)
    rw [e] at this
    exact this)
  have VA : vfyA p = (121, 0, 0, ⟨0, 0, 0, 0, 0⟩) := by unfold vfyA; rw [if_neg hc]
  rw [VA]
  clear h hc VA
  unfold Pg.agg at *
  unfold Pg.box at *
  obtain ⟨na, nc, names, ua, uc, curs, pa, pc, pool, hor, cells, slots, stack, da, dc, days⟩ := p
  simp only at *
  go_enter Tryd.func7, Tryd.ntmps7
  go_wp2_with (go_at_call 20; refine KC.out.mono ?_; rintro e w1 ⟨rfl, h1⟩; have B1 := Lib.hid (W0.out.trans (h1.mono W0.out.size)); have p1 := PB.out.lat h1; obtain ⟨c0, c1, c2⟩ := boxV3 p1; have f0 := p1.frozen 0; have f1 := p1.frozen 1; have f2 := p1.frozen 2; have P1 := Lib.hid p1; clear h1 p1)
  try rw [Exit.noGoto_ret]
  have p2 := ((P1.out.set2 0 (.int .i64 0) (by simp)).set2 1 (.int .i64 0) (by simp)).set2 2 (.int .i64 0) (by simp)
  simp at p2
  obtain ⟨q0, q1, q2⟩ := boxV3 p2
  refine bodyPost_ret (v := vfV (121, 0, 0, ⟨0, 0, 0, 0, 0⟩)) ?r rfl ?s
  case r => simp [results, Tryd.results7, go_sem, q0, q1, q2, vfV]
  case s => exact ⟨rfl, ((B1.out.setCell (p := ⟨w.heap.size + 1, 0, none⟩) (Nat.le_succ _) _).setCell (p := ⟨w.heap.size + 1, 1, none⟩) (Nat.le_succ _) _).setCell (p := ⟨w.heap.size + 1, 2, none⟩) (Nat.le_succ _) _⟩
set_option maxRecDepth 100000 in
set_option maxHeartbeats 6400000 in
theorem refVerify_can {w : World} {p : Pg} (h : PV w p) (hc : canP p) : Calls Tryd.prog 7 #[p.agg] w fun e w' => e = .returned (vfV (vfy p)) ∧ Below w.heap.size w w' := by
  have W0 := Lib.hid (p := Below w.heap.size w ((w.alloc p.box).alloc (.cells #[.int .i64 0, .int .i64 0, .int .i64 0] 29))) (((Below.refl _ w).alloc (Nat.le_refl _) _).alloc (by simp) _)
  have KC := Lib.hid (canonR_any (h.later W0.out))
  rw [if_pos hc] at KC
  have VS := Lib.hid (fun w1 b => vf_start (w := w) (w1 := w1) (p := p) b)
  have DR := Lib.hid h.days.2.2.2.2
  have DG := Lib.hid h.days.2.2.2.1
  have n3 := h.days.2.2.1
  have HS := Lib.hid (fun d (hd : d < p.days.length) => sg_ok hc hd)
  have HF := Lib.hid (p := ∀ d, d < p.days.length → (vAll p.days d).1 = 0 → 0 ≤ (vAll p.days d).2.2.2.fuel ∧ (vAll p.days d).2.2.2.fuel + (p.days.getD d default).code.length ≤ 262144) (fun d hd h0 => by
    have e := all_fuel d (by omega) h0
    have t := tot_le (days := p.days) (d := d + 1) (by omega)
    have u := hc.2.2.1.2
    have s : totN p.days (d + 1) = totN p.days d + (p.days.getD d default).code.length := by
      unfold totN
      rw [List.take_succ_eq_append_getElem hd, List.map_append, List.sum_append]
      simp [List.getD, hd]
    rw [e]
    omega)
  have VE := Lib.hid (p := ∀ d, d < p.days.length → (vAll p.days d).1 = 0 → (vRun (p.days.getD d default).day (p.days.getD d default).code (p.days.getD d default).code.length).1 ≠ 0 → vfy p = ((vRun (p.days.getD d default).day (p.days.getD d default).code (p.days.getD d default).code.length).1, d, (vRun (p.days.getD d default).day (p.days.getD d default).code (p.days.getD d default).code.length).2.1, ⟨0, 0, 0, 0, 0⟩)) (fun d hd h0 he => by
    have s := vAll_succ h0
    have st := vAll_stop (l := p.days) (k := d + 1) (by rw [s]; exact he) p.days.length (by omega)
    unfold vfy
    rw [st, s, if_pos he])
  have VN := Lib.hid (fun h0 => vfy_end (p := p) h0)
  have PA := Lib.hid (p := ∀ W nb nd, VfI w p nb nd W → BkP W w.heap.size #[.slice p.na p.names.length p.nc, .slice p.ua p.curs.length p.uc, .slice p.pa p.pool.length p.pc, .int .i64 p.hor, .int .i64 p.cells, .int .i64 p.slots, .int .i64 p.stack, .slice p.da p.days.length p.dc] 26) (fun W nb nd hb => hb.pb)
  clear h hc
  unfold Pg.agg at *
  unfold Pg.box at *
  obtain ⟨na, nc, names, ua, uc, curs, pa, pc, pool, hor, cells, slots, stack, da, dc, days⟩ := p
  simp only at *
  go_enter Tryd.func7, Tryd.ntmps7
  go_wp2_with (go_at_call 20; refine KC.out.mono ?_; rintro e w1 ⟨rfl, h1⟩; have V1 := Lib.hid (VS.out w1 h1); obtain ⟨_, _, _, _, _, _, _, x7⟩ := box_all8 (PA.out _ _ _ V1.out); clear h1)
  clear KC VS x7 W0
  generalize hnb : w1.heap.size = nb at *
  generalize hWW : w1.alloc _ = WW at *
  clear hWW hnb
  go_loopw [8, 9, 10] (fun sv cv t wr => ∃ d : Nat, d ≤ days.length ∧ sv = .int .i64 (vAll days d).2.2.2.slots ∧ cv = .int .i64 (vAll days d).2.2.2.cells ∧ t = .int .i64 (d : Int) ∧ RowKit.Hid ((vAll days d).1 = 0 ∧ VfI w ⟨na, nc, names, ua, uc, curs, pa, pc, pool, hor, cells, slots, stack, da, dc, days⟩ nb (vAll days d).2.2.2 wr)) (fun _ _ t _ => days.length - (intOf t).toNat)
  case atStart => exact ⟨0, by omega, rfl, rfl, rfl, rfl, V1.out⟩
  case round =>
    clear V1
    rename World => wr
    obtain ⟨d, hd, rfl, rfl, rfl, hH⟩ := hrel
    obtain ⟨h0, hV⟩ := hH.out
    by_cases hlt : d < days.length
    · have kc : (d : Int) < (days.length : Int) := by omega
      have kd0 : ¬ (d : Int) < 0 := by omega
      have ks : IntKind.i64.wrap ((d : Int) + 1) = (d : Int) + 1 := by simp [IntKind.wrap, IntKind.bits, IntKind.signed]; omega
      have SO := Lib.hid (HS.out d hlt)
      have FO := Lib.hid (HF.out d hlt h0)
      have VEd := Lib.hid (VE.out d hlt h0)
      have gv := DG.out _ (sg_mem (i := d) hlt)
      have NX := Lib.hid (vAll_succ h0)
      have GI := Lib.hid gv.2
      have KS := Lib.hid (states14_v (gv.later hV.be) SO.out)
      have HT := Lib.hid (fun k (hk : k < (days.getD d default).code.length) => htF_at hk)
      obtain ⟨x, o, hda, lx, hc⟩ := DR.out.oneP (by omega)
      have SC := Lib.hid (p := ∀ V, Below w.heap.size w V → V.cell? ⟨x, o + d * 2, none⟩ = some (.int .i64 (days.getD d default).day) ∧ V.cell? ⟨x, o + d * 2 + 1, none⟩ = some (.slice (days.getD d default).ca (days.getD d default).code.length (days.getD d default).cc)) (fun V bb => by
        have c0 := hc d hlt 0 (by omega)
        have c1 := hc d hlt 1 (by omega)
        simp only [Sg.cs, Nat.add_zero, List.getD_cons_zero, List.getD_cons_succ] at c0 c1
        exact ⟨(bb.cell (p := ⟨x, o + d * 2, none⟩) lx).trans c0, (bb.cell (p := ⟨x, o + d * 2 + 1, none⟩) lx).trans c1⟩)
      obtain ⟨c0, c1⟩ := SC.out wr hV.be
      have x7 := (box_all8 (PA.out _ _ _ hV)).2.2.2.2.2.2.2
      have VV := Lib.hid hV
      generalize days.getD d default = s at *
      obtain ⟨sd, sa, sc, sl⟩ := s
      simp only at c0 c1 GI SO FO VEd NX KS HT SC
      generalize hnd : (vAll days d).2.2.2 = nd at *
      clear hc lx hV h0 hH hnd gv
      subst hda
      unfold SsV at KS
      simp only at KS
      go_upto_region 10 with fail
      go_cut [11, 12, 13] (fun lv kv ev wx => (∃ er : Int, ∃ pl : Nat, er ≠ 0 ∧ ev = .int .i64 er ∧ kv = .int .i64 (pl : Int) ∧ RowKit.Hid ((vRun sd sl sl.length).1 = er ∧ (vRun sd sl sl.length).2.1 = pl ∧ VfI w ⟨na, nc, names, ua, uc, curs, pa, pc, pool, hor, cells, slots, stack, some ⟨x, o, none⟩, dc, days⟩ nb nd wx)) ∨ (∃ lb, lv = .slice (some ⟨lb, 0, none⟩) sl.length sl.length ∧ ev = .int .i64 0 ∧ RowKit.Hid ((vRun sd sl sl.length).1 = 0 ∧ VfI w ⟨na, nc, names, ua, uc, curs, pa, pc, pool, hor, cells, slots, stack, some ⟨x, o, none⟩, dc, days⟩ nb nd wx ∧ nb < lb ∧ lb < wx.heap.size ∧ ∀ j, j < sl.length → ∃ a c, wx.cell? ⟨lb, j * 3 + 1, none⟩ = some (.slice a (htF ⟨sd, sa, sc, sl⟩ j) c))))
      case first =>
        go_wp2_with (go_at_call 21; refine KS.out.mono ?_; rintro e w2 ⟨b2, z2⟩; rcases z2 with ⟨z2, rfl⟩ | ⟨z2, lb, rfl, z5, z3, z4⟩)
        · have F := Lib.hid (VV.out.lat b2)
          have Z := Lib.hid z2
          clear b2 z2
          go_wp2
          go_meet
          case rel => exact .inl ⟨_, _, Z.out, rfl, rfl, rfl, rfl, F.out⟩
        · have F := Lib.hid (p := (vRun sd sl sl.length).1 = 0 ∧ VfI w ⟨na, nc, names, ua, uc, curs, pa, pc, pool, hor, cells, slots, stack, some ⟨x, o, none⟩, dc, days⟩ nb nd w2 ∧ nb < lb ∧ lb < w2.heap.size ∧ ∀ j, j < sl.length → ∃ a c, w2.cell? ⟨lb, j * 3 + 1, none⟩ = some (.slice a (htF ⟨sd, sa, sc, sl⟩ j) c)) ⟨z2, VV.out.lat b2, by have := VV.out.ne.lt; omega, z3, z4⟩
          clear b2 z2 z3 z4 z5
          go_wp2
          go_meet
          case rel => exact .inr ⟨lb, rfl, rfl, F.out⟩
      case rest =>
        clear KS VV c0 c1 x7
        rcases hcut with ⟨er, pl, ne, rfl, rfl, hq⟩ | ⟨lb, rfl, rfl, hq⟩
        · obtain ⟨r1, r2, hV⟩ := hq.out
          have vf := VEd.out (by rw [r1]; exact ne)
          rw [r1, r2] at vf
          have VF := Lib.hid vf
          obtain ⟨⟨f0, f1, f2⟩, ⟨c0, c1, c2⟩, p2, bl⟩ := proof_setD (nb := nb) hV.be hV.pr 0 0 0
          have P2 := Lib.hid p2
          have BL := Lib.hid bl
          have z1 : (er != 0) = true := by simpa using ne
          clear hq hV vf p2 bl r1 r2
          go_wp2
          try rw [Exit.noGoto_ret]
          obtain ⟨r0, r1, r2⟩ := boxV3 P2.out
          unfold set3 at r0 r1 r2
          simp only [Nat.zero_add] at r0 r1 r2
          refine bodyPost_ret (v := vfV (er, d, pl, ⟨0, 0, 0, 0, 0⟩)) ?r rfl ?s
          case r => simp [results, Tryd.results7, go_sem, r0, r1, r2, vfV]
          case s => exact ⟨by rw [VF.out], BL.out⟩
        · obtain ⟨r1, hV, nlb, lbl, hts⟩ := hq.out
          have RN := Lib.hid r1
          have I1 := Lib.hid (p := VfI w ⟨na, nc, names, ua, uc, curs, pa, pc, pool, hor, cells, slots, stack, some ⟨x, o, none⟩, dc, days⟩ nb nd wc ∧ ∀ j, j < sl.length → ∃ a c, wc.cell? ⟨lb, j * 3 + 1, none⟩ = some (.slice a (htF ⟨sd, sa, sc, sl⟩ j) c)) ⟨hV, hts⟩
          clear hq hV lbl hts r1
          go_wp2
          go_loopw [8, 9, 14] (fun sv cv t w3 => ∃ k : Nat, k ≤ sl.length ∧ sv = .int .i64 (vNeed nd sd sl k).slots ∧ cv = .int .i64 (vNeed nd sd sl k).cells ∧ t = .int .i64 (k : Int) ∧ RowKit.Hid (VfI w ⟨na, nc, names, ua, uc, curs, pa, pc, pool, hor, cells, slots, stack, some ⟨x, o, none⟩, dc, days⟩ nb (vNeed nd sd sl k) w3 ∧ ∀ j, j < sl.length → ∃ a c, w3.cell? ⟨lb, j * 3 + 1, none⟩ = some (.slice a (htF ⟨sd, sa, sc, sl⟩ j) c))) (fun _ _ t _ => sl.length - (intOf t).toNat)
          case atStart => exact ⟨0, by omega, rfl, rfl, rfl, I1.out⟩
          case round =>
            clear I1
            rename World => w3
            obtain ⟨k, hk, rfl, rfl, rfl, hH⟩ := hrel
            obtain ⟨hI, hts⟩ := hH.out
            by_cases hkn : k < sl.length
            · obtain ⟨cx, co, hsa, lcx, hcc⟩ := GI.out.2.2.2.2.oneP (by omega)
              subst hsa
              obtain ⟨sta, stc, hcell⟩ := hts k hkn
              have kc2 : (k : Int) < (sl.length : Int) := by omega
              have kk0 : ¬ (k : Int) < 0 := by omega
              have sll := SO.out.len
              simp only at sll
              have ks2 : IntKind.i64.wrap ((k : Int) + 1) = (k : Int) + 1 := by simp [IntKind.wrap, IntKind.bits, IntKind.signed]; omega
              have e2 : vNeed nd sd sl (k + 1) = vSee (vNeed nd sd sl k) (sl.getD k default) (htF ⟨sd, some ⟨cx, co, none⟩, sc, sl⟩ k) := by
                show vSee _ _ (vHt _ _) = _
                rw [HT.out k hkn]
              have q0 := (hI.be.cell (p := ⟨cx, co + k * 3, none⟩) lcx).trans (hcc k hkn 0 (by omega))
              have q1 := (hI.be.cell (p := ⟨cx, co + k * 3 + 1, none⟩) lcx).trans (hcc k hkn 1 (by omega))
              have q2 := (hI.be.cell (p := ⟨cx, co + k * 3 + 2, none⟩) lcx).trans (hcc k hkn 2 (by omega))
              simp only [icell, Nat.add_zero, List.getD_cons_zero, List.getD_cons_succ] at q0 q1 q2
              have bn := inst_bounds (SO.out.ok k hkn).1
              simp only at bn
              have fu : (vNeed nd sd sl k).fuel = nd.fuel + k := need_fuel k
              have fo := FO.out
              have ku : IntKind.i64.wrap ((vNeed nd sd sl k).fuel + 1) = (vNeed nd sd sl k).fuel + 1 := by rw [fu]; simp [IntKind.wrap, IntKind.bits, IntKind.signed]; omega
              obtain ⟨c0, c1⟩ := SC.out w3 hI.be
              have x7 := (box_all8 (PA.out _ _ _ hI)).2.2.2.2.2.2.2
              generalize hi : sl.getD k default = i at *
              obtain ⟨io, ia, ib⟩ := i
              simp only at q0 q1 q2 bn
              have ka : IntKind.i64.wrap (ia + 1) = ia + 1 := by simp [IntKind.wrap, IntKind.bits, IntKind.signed]; omega
              have E2 := Lib.hid e2
              obtain ⟨W1, hW1⟩ : ∃ W, w3.alloc (.cells #[.int .i64 io, .int .i64 ia, .int .i64 ib] 51) = W := ⟨_, rfl⟩
              obtain ⟨xb, hxb⟩ : ∃ xb, w3.heap.size = xb := ⟨_, rfl⟩
              have al : Below w3.heap.size w3 W1 := by rw [← hW1]; exact allocBP _ _
              have I1 := hI.lat al
              have X1 : BkP W1 xb #[.int .i64 io, .int .i64 ia, .int .i64 ib] 51 := by rw [← hW1, ← hxb]; exact heapN _ _
              have T1 := Lib.hid (p := ∀ j, j < sl.length → ∃ a c, W1.cell? ⟨lb, j * 3 + 1, none⟩ = some (.slice a (htF ⟨sd, some ⟨cx, co, none⟩, sc, sl⟩ j) c)) (fun j hj => by
                obtain ⟨a, c, q⟩ := hts j hj
                exact ⟨a, c, (al.cell (p := ⟨lb, j * 3 + 1, none⟩) (cell_ltR q)).trans q⟩)
              have hc1 := (al.cell (p := ⟨lb, k * 3 + 1, none⟩) (cell_ltR hcell)).trans hcell
              have H1 := Lib.hid hW1
              have H2 := Lib.hid hxb
              generalize vNeed nd sd sl k = nk at *
              generalize htF ⟨sd, some ⟨cx, co, none⟩, sc, sl⟩ k = ht at *
              clear hH hI hts hcell hW1 hxb e2 hi hcc fu fo al
              go_upto_region 17 with fail
              rw [H1.out, H2.out]
              clear q0 q1 q2 c0 c1 x7
              go_cut [] (fun wx => RowKit.Hid (VfI w ⟨na, nc, names, ua, uc, curs, pa, pc, pool, hor, cells, slots, stack, some ⟨x, o, none⟩, dc, days⟩ nb ⟨max nk.stack (ht : Int), nk.fuel, nk.back, nk.slots, nk.cells⟩ wx ∧ BkP wx xb #[.int .i64 io, .int .i64 ia, .int .i64 ib] 51 ∧ ∀ j, j < sl.length → ∃ a c, wx.cell? ⟨lb, j * 3 + 1, none⟩ = some (.slice a (htF ⟨sd, some ⟨cx, co, none⟩, sc, sl⟩ j) c)))
              case first =>
                obtain ⟨n0, n1, n2⟩ := boxV3 I1.ne
                have f0 := I1.ne.frozen 0
                have m0 : W1.drew.cell? ⟨nb, 0, none⟩ = some (.int .i64 nk.stack) := n0
                have fd : W1.drew.frozen? ⟨nb, 0, none⟩ = false := f0
                have sx : (W1.drew.setCell ⟨nb, 0, none⟩ (.int .i64 (max nk.stack (ht : Int)))).cell? ⟨lb, k * 3 + 1, none⟩ = some (.slice sta ht stc) := (World.cell?_setCell_far W1.drew ⟨nb, 0, none⟩ ⟨lb, k * 3 + 1, none⟩ _ (by show nb ≠ lb; omega)).trans hc1
                have FX := Lib.hid (p := VfI w ⟨na, nc, names, ua, uc, curs, pa, pc, pool, hor, cells, slots, stack, some ⟨x, o, none⟩, dc, days⟩ nb ⟨max nk.stack (ht : Int), nk.fuel, nk.back, nk.slots, nk.cells⟩ (W1.drew.setCell ⟨nb, 0, none⟩ (.int .i64 (max nk.stack (ht : Int)))) ∧ BkP (W1.drew.setCell ⟨nb, 0, none⟩ (.int .i64 (max nk.stack (ht : Int)))) xb #[.int .i64 io, .int .i64 ia, .int .i64 ib] 51 ∧ ∀ j, j < sl.length → ∃ a c, (W1.drew.setCell ⟨nb, 0, none⟩ (.int .i64 (max nk.stack (ht : Int)))).cell? ⟨lb, j * 3 + 1, none⟩ = some (.slice a (htF ⟨sd, some ⟨cx, co, none⟩, sc, sl⟩ j) c)) (by
                  have I2 := I1.lat (drew1R W1)
                  have X2 : BkP W1.drew xb #[.int .i64 io, .int .i64 ia, .int .i64 ib] 51 := X1
                  refine ⟨I2.set 0 _ (by simp) (by omega), I2.far X2 (by decide) _ _, fun j hj => ?_⟩
                  obtain ⟨a, c, q⟩ := T1.out j hj
                  exact ⟨a, c, (World.cell?_setCell_far W1.drew ⟨nb, 0, none⟩ ⟨lb, j * 3 + 1, none⟩ _ (by show nb ≠ lb; omega)).trans q⟩)
                clear I1 X1
                refine wp_region_held_drew (S := (fun w' => w'.cell? ⟨lb, k * 3 + 1, none⟩ = some (.slice sta ht stc))) (by kernel_rfl) ?_ (fun hHeld => ?_)
                · (try dsimp only)
                  exact hc1
                refine wpAnyH_take (i := 0) (oi := { dst := some 60, op := Op.fieldAddr 29 (Operand.tmp 7) 0, type := 0, pos := "ref.go:219", after := #[], guard := none }) (v := ?_) rfl (by kernel_rfl) (by kernel_rfl) (by kernel_rfl) (fun _ _ _ h => h) (Or.inl ⟨by rfl, ?_⟩) (by assumption) ?_
                rotate_left 1
                · intro w' hSw; (try dsimp only at hSw); go_simp; try with_reducible rfl
                (try simp only [Act.put, List.setIfInBounds_toArray, List.set_cons_zero, List.set_cons_succ])
                refine wpAnyH_take (i := 2) (oi := { dst := some 62, op := Op.move (Operand.tmp 11), type := 66, pos := "ref.go:219", after := #[], guard := none }) (v := ?_) rfl (by kernel_rfl) (by kernel_rfl) (by kernel_rfl) (fun _ _ _ h => h) (Or.inl ⟨by rfl, ?_⟩) (by assumption) ?_
                rotate_left 1
                · intro w' hSw; (try dsimp only at hSw); go_simp; try with_reducible rfl
                (try simp only [Act.put, List.setIfInBounds_toArray, List.set_cons_zero, List.set_cons_succ])
                refine wpAnyH_take (i := 3) (oi := { dst := some 63, op := Op.move (Operand.tmp 14), type := 3, pos := "ref.go:219", after := #[], guard := none }) (v := ?_) rfl (by kernel_rfl) (by kernel_rfl) (by kernel_rfl) (fun _ _ _ h => h) (Or.inl ⟨by rfl, ?_⟩) (by assumption) ?_
                rotate_left 1
                · intro w' hSw; (try dsimp only at hSw); go_simp; try with_reducible rfl
                (try simp only [Act.put, List.setIfInBounds_toArray, List.set_cons_zero, List.set_cons_succ])
                refine wpAnyH_take (i := 4) (oi := { dst := some 64, op := Op.indexAddr 66 (Operand.tmp 62) (Operand.tmp 63), type := 0, pos := "ref.go:219", after := #[{ on := 2, ground := Ground.data }, { on := 3, ground := Ground.data }], guard := none }) (v := ?_) rfl (by kernel_rfl) (by kernel_rfl) (by kernel_rfl) (fun _ _ _ h => h) (Or.inl ⟨by rfl, ?_⟩) (by assumption) ?_
                rotate_left 1
                · intro w' hSw; (try dsimp only at hSw); go_simp; try with_reducible rfl
                (try simp only [Act.put, List.setIfInBounds_toArray, List.set_cons_zero, List.set_cons_succ])
                refine wpAnyH_take (i := 5) (oi := { dst := some 65, op := Op.fieldAddr 72 (Operand.tmp 64) 1, type := 0, pos := "ref.go:219", after := #[{ on := 4, ground := Ground.data }], guard := none }) (v := ?_) rfl (by kernel_rfl) (by kernel_rfl) (by kernel_rfl) (fun _ _ _ h => h) (Or.inl ⟨by rfl, ?_⟩) (by assumption) ?_
                rotate_left 1
                · intro w' hSw; (try dsimp only at hSw); go_simp; try with_reducible rfl
                (try simp only [Act.put, List.setIfInBounds_toArray, List.set_cons_zero, List.set_cons_succ])
                refine wpAnyH_take (i := 6) (oi := { dst := some 66, op := Op.load 23 (Operand.tmp 65), type := 23, pos := "ref.go:219", after := #[{ on := 5, ground := Ground.data }], guard := none }) (v := ?_) rfl (by kernel_rfl) (by kernel_rfl) (by kernel_rfl) (fun _ _ _ h => h) (Or.inl ⟨by rfl, ?_⟩) (by assumption) ?_
                rotate_left 1
                · intro w' hSw; (try dsimp only at hSw); go_simp; try with_reducible rfl
                (try simp only [Act.put, List.setIfInBounds_toArray, List.set_cons_zero, List.set_cons_succ])
                refine wpAnyH_take (i := 7) (oi := { dst := some 67, op := Op.call { callee := Callee.builtin Builtin.len, args := #[Operand.tmp 66], argTypes := #[23] }, type := 3, pos := "ref.go:219", after := #[{ on := 6, ground := Ground.data }], guard := none }) (v := ?_) rfl (by kernel_rfl) (by kernel_rfl) (by kernel_rfl) (fun _ _ _ h => h) (Or.inl ⟨by rfl, ?_⟩) (by assumption) ?_
                rotate_left 1
                · intro w' hSw; (try dsimp only at hSw); go_simp; try with_reducible rfl
                (try simp only [Act.put, List.setIfInBounds_toArray, List.set_cons_zero, List.set_cons_succ])
                refine wpAnyH_ready (rs := [1]) (by kernel_rfl) (by simp) ?_
                refine AllReadyH.cons (o := { dst := some 61, op := Op.load 3 (Operand.tmp 60), type := 3, pos := "ref.go:219", after := #[{ on := 0, ground := Ground.data }], guard := none }) rfl (fun K' hK => ?_) AllReadyH.nil
                go_simp
                refine hK.out _ _ ?_ (fun hHeld => ?_)
                · (try dsimp only)
                  exact hHeld
                clear hK K'
                (try simp only [Act.put, List.setIfInBounds_toArray, List.set_cons_zero, List.set_cons_succ])
                refine wpAnyH_ready (rs := [8]) (by kernel_rfl) (by simp) ?_
                refine AllReadyH.cons (o := { dst := some 68, op := Op.call { callee := Callee.value (Operand.func 22), args := #[Operand.tmp 61, Operand.tmp 67], argTypes := #[3, 3] }, type := 3, pos := "ref.go:219", after := #[{ on := 1, ground := Ground.data }, { on := 7, ground := Ground.data }], guard := none }) rfl (fun K' hK => ?_) AllReadyH.nil
                go_simp
                go_at_call 22; refine (most14_any _ _ _).mono ?_; rintro e w6 ⟨rfl, hw6⟩; subst hw6
                (try go_wp2_with fail)
                refine hK.out _ _ ?_ (fun hHeld => ?_)
                · (try dsimp only)
                  exact hHeld
                clear hK K'
                (try simp only [Act.put, List.setIfInBounds_toArray, List.set_cons_zero, List.set_cons_succ])
                refine wpAnyH_take (i := 9) (oi := { dst := some 69, op := Op.fieldAddr 29 (Operand.tmp 7) 0, type := 0, pos := "ref.go:219", after := #[{ on := 0, ground := Ground.phase }, { on := 1, ground := Ground.phase }, { on := 2, ground := Ground.phase }, { on := 3, ground := Ground.phase }, { on := 4, ground := Ground.phase }, { on := 5, ground := Ground.phase }, { on := 6, ground := Ground.phase }, { on := 7, ground := Ground.phase }, { on := 8, ground := Ground.phase }], guard := none }) (v := ?_) rfl (by kernel_rfl) (by kernel_rfl) (by kernel_rfl) (fun _ _ _ h => h) (Or.inl ⟨by rfl, ?_⟩) (by assumption) ?_
                rotate_left 1
                · intro w' hSw; (try dsimp only at hSw); go_simp; try with_reducible rfl
                (try simp only [Act.put, List.setIfInBounds_toArray, List.set_cons_zero, List.set_cons_succ])
                refine wpAnyH_ready (rs := [10]) (by kernel_rfl) (by simp) ?_
                refine AllReadyH.cons (o := { dst := none, op := Op.store 3 (Operand.tmp 69) (Operand.tmp 68), type := 0, pos := "ref.go:219", after := #[{ on := 9, ground := Ground.data }, { on := 8, ground := Ground.data }, { on := 8, ground := Ground.chain }, { on := 0, ground := Ground.phase }, { on := 1, ground := Ground.phase }, { on := 2, ground := Ground.phase }, { on := 3, ground := Ground.phase }, { on := 4, ground := Ground.phase }, { on := 5, ground := Ground.phase }, { on := 6, ground := Ground.phase }, { on := 7, ground := Ground.phase }, { on := 8, ground := Ground.phase }], guard := none }) rfl (fun K' hK => ?_) AllReadyH.nil
                go_simp
                refine hK.out _ _ ?_ (fun hHeld => ?_)
                · (try dsimp only)
                  exact sx
                clear hK K'
                (try simp only [Act.put, List.setIfInBounds_toArray, List.set_cons_zero, List.set_cons_succ])
                refine wpAnyH_done (by kernel_rfl) ?_ _
                go_wp2
                go_meet
                case rel => exact FX.out
              case rest =>
                obtain ⟨I2, X2, T2⟩ := hcut.out
                clear I1 X1 T1 hc1 hcut
                have I2' := I2
                obtain ⟨n0, n1, n2⟩ := boxV3 I2.ne
                have f1 := I2.ne.frozen 1
                have FX := Lib.hid (p := VfI w ⟨na, nc, names, ua, uc, curs, pa, pc, pool, hor, cells, slots, stack, some ⟨x, o, none⟩, dc, days⟩ nb ⟨max nk.stack (ht : Int), nk.fuel + 1, nk.back, nk.slots, nk.cells⟩ (wc.setCell ⟨nb, 1, none⟩ (.int .i64 (nk.fuel + 1))) ∧ BkP (wc.setCell ⟨nb, 1, none⟩ (.int .i64 (nk.fuel + 1))) xb #[.int .i64 io, .int .i64 ia, .int .i64 ib] 51 ∧ ∀ j, j < sl.length → ∃ a c, (wc.setCell ⟨nb, 1, none⟩ (.int .i64 (nk.fuel + 1))).cell? ⟨lb, j * 3 + 1, none⟩ = some (.slice a (htF ⟨sd, some ⟨cx, co, none⟩, sc, sl⟩ j) c)) (by
                  refine ⟨I2.set 1 _ (by simp) (by omega), I2.far X2 (by decide) _ _, fun j hj => ?_⟩
                  obtain ⟨a, c, q⟩ := T2 j hj
                  exact ⟨a, c, (World.cell?_setCell_far wc ⟨nb, 1, none⟩ ⟨lb, j * 3 + 1, none⟩ _ (by show nb ≠ lb; omega)).trans q⟩)
                simp only at n0 n1 n2
                clear I2 I2' X2 T2
                go_upto_region 18 with fail
                go_cut [] (fun wx => RowKit.Hid (VfI w ⟨na, nc, names, ua, uc, curs, pa, pc, pool, hor, cells, slots, stack, some ⟨x, o, none⟩, dc, days⟩ nb ⟨max nk.stack (ht : Int), nk.fuel + 1, nk.back, nk.slots, nk.cells⟩ wx ∧ BkP wx xb #[.int .i64 io, .int .i64 ia, .int .i64 ib] 51 ∧ ∀ j, j < sl.length → ∃ a c, wx.cell? ⟨lb, j * 3 + 1, none⟩ = some (.slice a (htF ⟨sd, some ⟨cx, co, none⟩, sc, sl⟩ j) c)))
                case first =>
                  go_wp2
                  go_meet
                  case rel => exact FX.out
                case rest =>
                  obtain ⟨I3, X3, T3⟩ := hcut.out
                  clear FX n0 n1 n2 f1 hcut
                  obtain ⟨n0, n1, n2⟩ := boxV3 I3.ne
                  have f2 := I3.ne.frozen 2
                  obtain ⟨i0, i1, i2⟩ := boxV3 X3
                  obtain ⟨s3, s67, s45, sno⟩ := see_o (nd := nk) (i := ⟨io, ia, ib⟩) (h := ht)
                  simp only at s3 s67 s45 sno n0 n1 n2
                  by_cases o3 : io = 3
                  · have e3 := E2.out.trans (s3 o3)
                    have FX := Lib.hid (p := VfI w ⟨na, nc, names, ua, uc, curs, pa, pc, pool, hor, cells, slots, stack, some ⟨x, o, none⟩, dc, days⟩ nb (vNeed nd sd sl (k + 1)) (wc.setCell ⟨nb, 2, none⟩ (.int .i64 (max nk.back ib))) ∧ ∀ j, j < sl.length → ∃ a c, (wc.setCell ⟨nb, 2, none⟩ (.int .i64 (max nk.back ib))).cell? ⟨lb, j * 3 + 1, none⟩ = some (.slice a (htF ⟨sd, some ⟨cx, co, none⟩, sc, sl⟩ j) c)) (by
                      rw [e3]
                      refine ⟨I3.set 2 _ (by simp) (by omega), fun j hj => ?_⟩
                      obtain ⟨a, c, q⟩ := T3 j hj
                      exact ⟨a, c, (World.cell?_setCell_far wc ⟨nb, 2, none⟩ ⟨lb, j * 3 + 1, none⟩ _ (by show nb ≠ lb; omega)).trans q⟩)
                    have F2 := Lib.hid (p := (vNeed nd sd sl (k + 1)).slots = nk.slots ∧ (vNeed nd sd sl (k + 1)).cells = nk.cells) (by rw [e3]; exact ⟨rfl, rfl⟩)
                    subst o3
                    clear I3 X3 T3 s3 s67 s45 sno e3 E2
                    go_wp2_with (go_at_call 22; refine (most14_any _ _ _).mono ?_; rintro e w6 ⟨rfl, hw6⟩; subst hw6)
                    refine ⟨⟨k + 1, by omega, by rw [F2.out.1], by rw [F2.out.2], by go_num, FX.out⟩, ?_⟩
                    simp [intOf]
                    omega
                  by_cases o67 : io = 6 ∨ io = 7
                  · have e3 := E2.out.trans (s67 o67)
                    have FX := Lib.hid (p := VfI w ⟨na, nc, names, ua, uc, curs, pa, pc, pool, hor, cells, slots, stack, some ⟨x, o, none⟩, dc, days⟩ nb (vNeed nd sd sl (k + 1)) wc ∧ ∀ j, j < sl.length → ∃ a c, wc.cell? ⟨lb, j * 3 + 1, none⟩ = some (.slice a (htF ⟨sd, some ⟨cx, co, none⟩, sc, sl⟩ j) c)) (by
                      rw [e3]
                      exact ⟨I3.same rfl rfl rfl, T3⟩)
                    have F2 := Lib.hid (p := (vNeed nd sd sl (k + 1)).slots = max nk.slots (ia + 1) ∧ (vNeed nd sd sl (k + 1)).cells = nk.cells) (by rw [e3]; exact ⟨rfl, rfl⟩)
                    clear I3 X3 T3 s3 s67 s45 sno e3 E2
                    rcases o67 with rfl | rfl
                    · go_wp2_with (go_at_call 22; refine (most14_any _ _ _).mono ?_; rintro e w6 ⟨rfl, hw6⟩; subst hw6)
                      refine ⟨⟨k + 1, by omega, by rw [F2.out.1], by rw [F2.out.2], by go_num, FX.out⟩, ?_⟩
                      simp [intOf]
                      omega
                    · go_wp2_with (go_at_call 22; refine (most14_any _ _ _).mono ?_; rintro e w6 ⟨rfl, hw6⟩; subst hw6)
                      refine ⟨⟨k + 1, by omega, by rw [F2.out.1], by rw [F2.out.2], by go_num, FX.out⟩, ?_⟩
                      simp [intOf]
                      omega
                  by_cases o45 : io = 4 ∨ io = 5
                  · have e3 := E2.out.trans (s45 o45)
                    have FX := Lib.hid (p := VfI w ⟨na, nc, names, ua, uc, curs, pa, pc, pool, hor, cells, slots, stack, some ⟨x, o, none⟩, dc, days⟩ nb (vNeed nd sd sl (k + 1)) wc ∧ ∀ j, j < sl.length → ∃ a c, wc.cell? ⟨lb, j * 3 + 1, none⟩ = some (.slice a (htF ⟨sd, some ⟨cx, co, none⟩, sc, sl⟩ j) c)) (by
                      rw [e3]
                      exact ⟨I3.same rfl rfl rfl, T3⟩)
                    have F2 := Lib.hid (p := (vNeed nd sd sl (k + 1)).slots = nk.slots ∧ (vNeed nd sd sl (k + 1)).cells = max nk.cells (ia + 1)) (by rw [e3]; exact ⟨rfl, rfl⟩)
                    clear I3 X3 T3 s3 s67 s45 sno e3 E2
                    rcases o45 with rfl | rfl
                    · go_wp2_with (go_at_call 22; refine (most14_any _ _ _).mono ?_; rintro e w6 ⟨rfl, hw6⟩; subst hw6)
                      refine ⟨⟨k + 1, by omega, by rw [F2.out.1], by rw [F2.out.2], by go_num, FX.out⟩, ?_⟩
                      simp [intOf]
                      omega
                    · go_wp2_with (go_at_call 22; refine (most14_any _ _ _).mono ?_; rintro e w6 ⟨rfl, hw6⟩; subst hw6)
                      refine ⟨⟨k + 1, by omega, by rw [F2.out.1], by rw [F2.out.2], by go_num, FX.out⟩, ?_⟩
                      simp [intOf]
                      omega
                  · have e3 := E2.out.trans (sno o3 o67 o45)
                    have FX := Lib.hid (p := VfI w ⟨na, nc, names, ua, uc, curs, pa, pc, pool, hor, cells, slots, stack, some ⟨x, o, none⟩, dc, days⟩ nb (vNeed nd sd sl (k + 1)) wc ∧ ∀ j, j < sl.length → ∃ a c, wc.cell? ⟨lb, j * 3 + 1, none⟩ = some (.slice a (htF ⟨sd, some ⟨cx, co, none⟩, sc, sl⟩ j) c)) (by
                      rw [e3]
                      exact ⟨I3.same rfl rfl rfl, T3⟩)
                    have F2 := Lib.hid (p := (vNeed nd sd sl (k + 1)).slots = nk.slots ∧ (vNeed nd sd sl (k + 1)).cells = nk.cells) (by rw [e3]; exact ⟨rfl, rfl⟩)
                    have p6 : ¬ io = 6 := fun z => o67 (.inl z)
                    have p7 : ¬ io = 7 := fun z => o67 (.inr z)
                    have p4 : ¬ io = 4 := fun z => o45 (.inl z)
                    have p5 : ¬ io = 5 := fun z => o45 (.inr z)
                    have d3 : (io == 3) = false := by simpa using o3
                    have d4 : (io == 4) = false := by simpa using p4
                    have d5 : (io == 5) = false := by simpa using p5
                    have d6 : (io == 6) = false := by simpa using p6
                    have d7 : (io == 7) = false := by simpa using p7
                    clear I3 X3 T3 s3 s67 s45 sno e3 E2 o67 o45
                    go_wp2
                    refine ⟨⟨k + 1, by omega, by rw [F2.out.1], by rw [F2.out.2], by go_num, FX.out⟩, ?_⟩
                    simp [intOf]
                    omega
            · obtain rfl : k = sl.length := by omega
              have RR := Lib.hid (p := (vAll days (d + 1)).1 = 0 ∧ (vAll days (d + 1)).2.2.2 = vNeed nd sd sl sl.length) (by rw [NX.out]; exact ⟨RN.out, rfl⟩)
              have VB := Lib.hid hI
              clear hI hts hH
              go_wp2
              go_roundw
              case rel => exact ⟨d + 1, by omega, by rw [RR.out.2], by rw [RR.out.2], by go_num, RR.out.1, by rw [RR.out.2]; exact VB.out⟩
              case measure => simp [intOf]; omega
    · obtain rfl : d = days.length := by omega
      have VNn := Lib.hid (VN.out h0)
      have VV := Lib.hid hV
      obtain ⟨x0, x1, x2, x3, x4, x5, x6, x7⟩ := box_all8 (PA.out _ _ _ hV)
      obtain ⟨n0, n1, n2⟩ := boxV3 hV.ne
      clear hV h0 hH
      generalize hnd : (vAll days days.length).2.2.2 = nd at *
      clear hnd
      go_upto_region 28 with fail
      go_cut [116] (fun tv wx => tv = .bool (!(decide (stack = nd.stack ∧ slots = nd.slots ∧ cells = nd.cells))) ∧ RowKit.Hid (VfI w ⟨na, nc, names, ua, uc, curs, pa, pc, pool, hor, cells, slots, stack, da, dc, days⟩ nb nd wx))
      case first =>
        by_cases e1 : stack = nd.stack
        · have d1 : (stack != nd.stack) = false := by simpa using e1
          by_cases e2 : slots = nd.slots
          · have d2 : (slots != nd.slots) = false := by simpa using e2
            by_cases e3 : cells = nd.cells
            · have d3 : (cells != nd.cells) = false := by simpa using e3
              go_wp2
              go_meet
              case rel => exact ⟨by simp [e1, e2, e3], VV.out⟩
            · have d3 : (cells != nd.cells) = true := by simpa using e3
              go_wp2
              go_meet
              case rel => exact ⟨by simp [e1, e2, e3], VV.out⟩
          · have d2 : (slots != nd.slots) = true := by simpa using e2
            go_wp2
            go_meet
            case rel => exact ⟨by simp [e1, e2], VV.out⟩
        · have d1 : (stack != nd.stack) = true := by simpa using e1
          go_wp2
          go_meet
          case rel => exact ⟨by simp [e1], VV.out⟩
      case rest =>
        obtain ⟨hcv, hq⟩ := hcut
        subst hcv
        have hV := hq.out
        clear x0 x1 x2 x3 x4 x5 x6 x7 n0 n1 n2 VV hq
        obtain ⟨_, _, _, _, _, _, _, x7⟩ := box_all8 (PA.out _ _ _ hV)
        obtain ⟨n0, n1, n2⟩ := boxV3 hV.ne
        by_cases ef : stack = nd.stack ∧ slots = nd.slots ∧ cells = nd.cells
        · have VF := Lib.hid (p := vfy ⟨na, nc, names, ua, uc, curs, pa, pc, pool, hor, cells, slots, stack, da, dc, days⟩ = (0, 0, 0, nd)) (by rw [VNn.out, if_pos (by unfold vFit; exact ef)])
          obtain ⟨⟨f0, f1, f2⟩, ⟨c0, c1, c2⟩, p2, bl⟩ := proof_setD (nb := nb) hV.be hV.pr nd.stack nd.fuel nd.back
          have P2 := Lib.hid p2
          have BL := Lib.hid bl
          rw [show (!(decide (stack = nd.stack ∧ slots = nd.slots ∧ cells = nd.cells))) = false by simp [ef]]
          clear hV p2 bl ef VNn
          go_wp2
          try rw [Exit.noGoto_ret]
          obtain ⟨r0, r1, r2⟩ := boxV3 P2.out
          unfold set3 at r0 r1 r2
          simp only [Nat.zero_add] at r0 r1 r2
          refine bodyPost_ret (v := vfV (0, 0, 0, nd)) ?r rfl ?s
          case r => simp [results, Tryd.results7, go_sem, r0, r1, r2, vfV]
          case s => exact ⟨by rw [VF.out], BL.out⟩
        · have VF := Lib.hid (p := vfy ⟨na, nc, names, ua, uc, curs, pa, pc, pool, hor, cells, slots, stack, da, dc, days⟩ = (147, days.length, 0, ⟨0, 0, 0, 0, 0⟩)) (by rw [VNn.out, if_neg (by unfold vFit; exact ef)])
          have hD := hV.lat (drew1R wc)
          obtain ⟨⟨f0, f1, f2⟩, ⟨c0, c1, c2⟩, p2, bl⟩ := proof_setD (nb := nb) hD.be hD.pr 0 0 0
          obtain ⟨⟨f0', f1', f2'⟩, ⟨c0', c1', c2'⟩, p2', _⟩ := proof_setD (nb := nb) hV.be hV.pr 0 0 0
          have P3 := Lib.hid p2'
          have sx : (set3 wc.drew (w.heap.size + 1) 0 (.int .i64 0) (.int .i64 0) (.int .i64 0)).cell? ⟨w.heap.size, 7, none⟩ = some (.slice da days.length dc) := (World.cell?_of_block (a := ⟨w.heap.size, 7, none⟩) (set3_far (u := w.heap.size) (by omega))).trans x7
          have P2 := Lib.hid p2
          have BL := Lib.hid bl
          rw [show (!(decide (stack = nd.stack ∧ slots = nd.slots ∧ cells = nd.cells))) = true by simp [ef]]
          clear hV hD p2 p2' bl ef VNn n0 n1 n2
          go_upto_region 29 with fail
          refine wp_region_held_drew (S := (fun w' => w'.cell? ⟨w.heap.size, 7, none⟩ = some (.slice da days.length dc))) (by kernel_rfl) ?_ (fun hHeld => ?_)
          · (try dsimp only)
            exact x7
          refine wpAnyH_take (i := 0) (oi := { dst := some 117, op := Op.build 29 #[], type := 29, pos := "ref.go:232", after := #[], guard := none }) (v := ?_) rfl (by kernel_rfl) (by kernel_rfl) (by kernel_rfl) (fun _ _ _ h => h) (Or.inl ⟨by rfl, ?_⟩) (by assumption) ?_
          rotate_left 1
          · intro w' hSw; (try dsimp only at hSw); go_simp; try with_reducible rfl
          (try simp only [Act.put, List.setIfInBounds_toArray, List.set_cons_zero, List.set_cons_succ])
          refine wpAnyH_take (i := 1) (oi := { dst := some 118, op := Op.fieldAddr 26 (Operand.tmp 1) 7, type := 0, pos := "ref.go:232", after := #[], guard := none }) (v := ?_) rfl (by kernel_rfl) (by kernel_rfl) (by kernel_rfl) (fun _ _ _ h => h) (Or.inl ⟨by rfl, ?_⟩) (by assumption) ?_
          rotate_left 1
          · intro w' hSw; (try dsimp only at hSw); go_simp; try with_reducible rfl
          (try simp only [Act.put, List.setIfInBounds_toArray, List.set_cons_zero, List.set_cons_succ])
          refine wpAnyH_take (i := 2) (oi := { dst := some 119, op := Op.load 24 (Operand.tmp 118), type := 24, pos := "ref.go:232", after := #[{ on := 1, ground := Ground.data }], guard := none }) (v := ?_) rfl (by kernel_rfl) (by kernel_rfl) (by kernel_rfl) (fun _ _ _ h => h) (Or.inl ⟨by rfl, ?_⟩) (by assumption) ?_
          rotate_left 1
          · intro w' hSw; (try dsimp only at hSw); go_simp; try with_reducible rfl
          (try simp only [Act.put, List.setIfInBounds_toArray, List.set_cons_zero, List.set_cons_succ])
          refine wpAnyH_take (i := 3) (oi := { dst := some 120, op := Op.call { callee := Callee.builtin Builtin.len, args := #[Operand.tmp 119], argTypes := #[24] }, type := 3, pos := "ref.go:232", after := #[{ on := 2, ground := Ground.data }], guard := none }) (v := ?_) rfl (by kernel_rfl) (by kernel_rfl) (by kernel_rfl) (fun _ _ _ h => h) (Or.inl ⟨by rfl, ?_⟩) (by assumption) ?_
          rotate_left 1
          · intro w' hSw; (try dsimp only at hSw); go_simp; try with_reducible rfl
          (try simp only [Act.put, List.setIfInBounds_toArray, List.set_cons_zero, List.set_cons_succ])
          refine wpAnyH_ready (rs := [4]) (by kernel_rfl) (by simp) ?_
          refine AllReadyH.cons (o := { dst := none, op := Op.store 29 (Operand.tmp 2) (Operand.tmp 117), type := 0, pos := "ref.go:232", after := #[{ on := 0, ground := Ground.data }, { on := 0, ground := Ground.phase }, { on := 1, ground := Ground.textOnly Departure.lateStores }, { on := 2, ground := Ground.textOnly Departure.lateStores }, { on := 3, ground := Ground.textOnly Departure.lateStoresUnsure }], guard := none }) rfl (fun K' hK => ?_) AllReadyH.nil
          go_simp
          refine hK.out _ _ ?_ (fun hHeld => ?_)
          · (try dsimp only)
            exact sx
          clear hK K'
          (try simp only [Act.put, List.setIfInBounds_toArray, List.set_cons_zero, List.set_cons_succ])
          refine wpAnyH_take (i := 5) (oi := { dst := some 3, op := Op.assign (Operand.tmp 120), type := 3, pos := "ref.go:232", after := #[{ on := 3, ground := Ground.data }, { on := 4, ground := Ground.chain }, { on := 0, ground := Ground.phase }, { on := 1, ground := Ground.phase }, { on := 2, ground := Ground.phase }, { on := 3, ground := Ground.phase }, { on := 4, ground := Ground.phase }], guard := none }) (v := ?_) rfl (by kernel_rfl) (by kernel_rfl) (by kernel_rfl) (fun _ _ _ h => h) (Or.inl ⟨by rfl, ?_⟩) (by assumption) ?_
          rotate_left 1
          · intro w' hSw; (try dsimp only at hSw); go_simp; try with_reducible rfl
          (try simp only [Act.put, List.setIfInBounds_toArray, List.set_cons_zero, List.set_cons_succ])
          refine wpAnyH_take (i := 6) (oi := { dst := some 4, op := Op.assign (Operand.const (Value.int IntKind.i64 0)), type := 3, pos := "ref.go:232", after := #[{ on := 5, ground := Ground.chain }, { on := 0, ground := Ground.phase }, { on := 1, ground := Ground.phase }, { on := 2, ground := Ground.phase }, { on := 3, ground := Ground.phase }, { on := 4, ground := Ground.phase }, { on := 5, ground := Ground.phase }], guard := none }) (v := ?_) rfl (by kernel_rfl) (by kernel_rfl) (by kernel_rfl) (fun _ _ _ h => h) (Or.inl ⟨by rfl, ?_⟩) (by assumption) ?_
          rotate_left 1
          · intro w' hSw; (try dsimp only at hSw); go_simp; try with_reducible rfl
          (try simp only [Act.put, List.setIfInBounds_toArray, List.set_cons_zero, List.set_cons_succ])
          refine wpAnyH_take (i := 7) (oi := { dst := some 5, op := Op.assign (Operand.const (Value.int IntKind.i64 147)), type := 30, pos := "ref.go:232", after := #[{ on := 6, ground := Ground.chain }, { on := 0, ground := Ground.phase }, { on := 1, ground := Ground.phase }, { on := 2, ground := Ground.phase }, { on := 3, ground := Ground.phase }, { on := 4, ground := Ground.phase }, { on := 5, ground := Ground.phase }, { on := 6, ground := Ground.phase }], guard := none }) (v := ?_) rfl (by kernel_rfl) (by kernel_rfl) (by kernel_rfl) (fun _ _ _ h => h) (Or.inl ⟨by rfl, ?_⟩) (by assumption) ?_
          rotate_left 1
          · intro w' hSw; (try dsimp only at hSw); go_simp; try with_reducible rfl
          (try simp only [Act.put, List.setIfInBounds_toArray, List.set_cons_zero, List.set_cons_succ])
          refine wpAnyH_done (by kernel_rfl) ?_ _
          go_wp2
          try rw [Exit.noGoto_ret]
          obtain ⟨r0, r1, r2⟩ := boxV3 P2.out
          unfold set3 at r0 r1 r2
          simp only [Nat.zero_add] at r0 r1 r2
          obtain ⟨t0, t1, t2⟩ := boxV3 P3.out
          unfold set3 at t0 t1 t2
          simp only [Nat.zero_add] at t0 t1 t2
          refine bodyPost_ret (v := vfV (147, days.length, 0, ⟨0, 0, 0, 0, 0⟩)) ?r rfl ?s
          case r => simp [results, Tryd.results7, go_sem, r0, r1, r2, t0, t1, t2, vfV]
          case s => exact ⟨by rw [VF.out], BL.out⟩
theorem refVerify_any {w : World} {p : Pg} (h : PV w p) : Calls Tryd.prog 7 #[p.agg] w fun e w' => e = .returned (vfV (vfyA p)) ∧ Below w.heap.size w w' := by
  by_cases hc : canP p
  · have e : vfyA p = vfy p := by unfold vfyA; rw [if_pos hc]
    rw [e]
    exact refVerify_can h hc
  · exact refVerify_odd h hc
end Go.Proofs.YtjbbbejadhojlaaDoor
