/-
  VerifyProof, the program verifies (made by gen_wvproof.py).
-/
import Derived.Test.YtbhbbpbdnmhppaaDoorWVZp
namespace Go.Proofs.YtbhbbpbdnmhppaaDoor
open Go.RowKit
set_option linter.unusedVariables false
set_option linter.unusedSimpArgs false
/-- The greater of two, while the boxes stand. -/
theorem most_px {w W : World} {p : Pg} {prb xb hb : Nat} {r nd : Nds} {hA : Array Value} (h : PxR w W p prb xb r nd) (hB : BkP W hb hA 3) (a b : Int) (V : World) (l : Below W.heap.size W V) : Calls Tryd.prog 12 #[.int .i64 a, .int .i64 b] V fun e V' => e = .returned (.int .i64 (max a b)) ∧ PxR w V' p prb xb r nd ∧ BkP V' hb hA 3 := by
  refine (most_any a b V).mono ?_
  rintro e V' ⟨rfl, rfl⟩
  exact ⟨rfl, h.later l, hB.lat l⟩
theorem PxR.eqs {w W : World} {p : Pg} {prb xb : Nat} {r nd nd' : Nds} (h : PxR w W p prb xb r nd) (a : nd.stack = nd'.stack) (b : nd.fuel = nd'.fuel) (c : nd.back = nd'.back) : PxR w W p prb xb r nd' := ⟨h.pb, h.pr, by rw [← a, ← b, ← c]; exact h.xx, h.be, h.lo⟩
theorem px_put {w W : World} {p : Pg} {prb xb hb : Nat} {r nd nd' : Nds} {hA : Array Value} (h : PxR w W p prb xb r nd) (hB : BkP W hb hA 3) (k : Nat) (v : Value) (hk : k < 3) (e : (#[.int .i64 nd.stack, .int .i64 nd.fuel, .int .i64 nd.back] : Array Value).set! k v = #[.int .i64 nd'.stack, .int .i64 nd'.fuel, .int .i64 nd'.back]) : PxR w (W.setCell ⟨xb, k, none⟩ v) p prb xb r nd' ∧ BkP (W.setCell ⟨xb, k, none⟩ v) hb hA 3 := ⟨px_set h k v hk e, hB.other xb k v (bk_ne h.xx hB (by decide))⟩
set_option maxRecDepth 100000 in
set_option maxHeartbeats 1600000 in
theorem proof_ok {w : World} {p : Pg} (hp : PV w p) (hR : Rws w) (hU : Rul w) (zs zl zc : Int) (is : i64 zs) (il : i64 zl) (ic : i64 zc) (hc : (vfyA p).1 = 0) : Calls Tryd.prog 3 #[p.agg, .int .i64 zs, .int .i64 zl, .int .i64 zc] w fun e w' => e = .returned (.bool true) ∧ Below w.heap.size w w' := by
  obtain ⟨cp, ev⟩ := vfyA_canV hc
  obtain ⟨o1, o2, o3⟩ := vfy_ok (p := p) (by rw [← ev]; exact hc)
  have B0 := Lib.hid (p := Below w.heap.size w (w.alloc p.box)) (allocBP _ _)
  have KL := Lib.hid (lives_any (hR.below B0.out) (hU.lat B0.out))
  have KV := Lib.hid (fun V (b : Below w.heap.size w V) => verify_any (hp.later b) (hR.below b) (hU.lat b))
  have PB := Lib.hid (p := BkP (w.alloc p.box) w.heap.size p.arr 26) (heapN _ _)
  have KH := Lib.hid (fun V d (hd : d < p.days.length) (b : Below w.heap.size w V) => heights_at hc hd (hp.later b) (hR.below b) (hU.lat b))
  have OA := Lib.hid o1
  have RV := Lib.hid (p := (vfyA p).2.2.2 = (vAll p.days p.days.length).2.2.2) (by rw [ev, o3])
  have FT := Lib.hid (p := p.stack = (vAll p.days p.days.length).2.2.2.stack) o2.1
  have HF := Lib.hid (p := ∀ d, d < p.days.length → 0 ≤ (vAll p.days d).2.2.2.fuel ∧ (vAll p.days d).2.2.2.fuel + (p.days.getD d default).code.length ≤ 262144) (fun d hd => fuel_of cp hd (vAll_before o1 (by omega)))
  have NX := Lib.hid (p := ∀ d, d < p.days.length → (vAll p.days (d + 1)).2.2.2 = vNeed (vAll p.days d).2.2.2 (p.days.getD d default).day (p.days.getD d default).code (p.days.getD d default).code.length) (fun d hd => by rw [vAll_succ (vAll_before o1 (by omega))])
  have DR := Lib.hid (fun (h0 : 0 < p.days.length) => day_cells hp h0)
  have DI := Lib.hid (fun V (b : Below w.heap.size w V) d (hd : d < p.days.length) => day_code hp b hd)
  have n3 := hp.days.2.2.1
  have PVQ := Lib.hid (p := PV w ({ p with cells := zc, slots := zl, stack := zs } : Pg)) ⟨hp.names, hp.curs, hp.pool, hp.hor, ic, il, is, hp.days⟩
  have KC := Lib.hid (fun V (b : Below w.heap.size w V) => canon_any (PVQ.out.later b) (hR.below b))
  have KQ := Lib.hid (fun V (b : Below w.heap.size w V) => verify_any (PVQ.out.later b) (hR.below b) (hU.lat b))
  have VO := Lib.hid (fun (hq : canP ({ p with cells := zc, slots := zl, stack := zs } : Pg)) => vfy_other (p := p) (q := ({ p with cells := zc, slots := zl, stack := zs } : Pg)) rfl (by rw [← ev]; exact hc) hq)
  have ne : ((vfyA p).1 != 0) = false := by simpa using hc
  have PX := Lib.hid (fun w1 w2 st fu ba (pb : BkP w1 w.heap.size p.arr 26) h b l hr => px_start (r := (vfyA p).2.2.2) (st := st) (fu := fu) (ba := ba) pb (w2 := w2) h b l hr)
  generalize hr : vfyA p = r at *
  clear hp hR hU hc is il ic cp ev o1 o2 o3 hr
  unfold vfV at KV
  unfold Pg.agg at *
  unfold Pg.box at *
  unfold Pg.arr at PB PX
  obtain ⟨na, nc, names, ua, uc, curs, pa, pc, pool, hor, cells, slots, stack, da, dc, days⟩ := p
  obtain ⟨re, rs, ri, ⟨st, fu, ba, rl, ce⟩⟩ := r
  simp only at *
  go_enter Tryd.func3, Tryd.ntmps3
  go_wp2_with (first | (go_at_call 9; refine KL.out.mono ?_; rintro e w1 ⟨rfl, h1⟩; have B1 := Lib.hid (B0.out.trans (h1.mono B0.out.size)); have PB1 := Lib.hid (PB.out.lat h1); obtain ⟨x0, x1, x2, x3, x4, x5, x6, x7⟩ := box_all8 PB1.out; clear h1; have Q1 : True := trivial) | (go_at_call 10; have qq := Q1; refine (KV.out w1 B1.out).mono ?_; clear qq Q1; rintro e w2 ⟨rfl, h1⟩; have B2 := Lib.hid (p := Below w.heap.size w (w2.alloc (.cells #[.int .i64 st, .int .i64 fu, .int .i64 ba] 29))) ((B1.out.trans (h1.mono B1.out.size)).alloc (B1.out.trans (h1.mono B1.out.size)).size _); have X0 := Lib.hid (PX.out w1 w2 st fu ba PB1.out h1 B2.out (Nat.le_trans B1.out.size h1.size) ⟨rfl, rfl, rfl⟩); clear h1))
  clear PVQ
  clear KL PX PB PB1 B1 B2 x0 x1 x2 x3 x4 x5 x6 x7
  go_loopw [15] (fun t wr => ∃ d : Nat, d ≤ days.length ∧ t = .int .i64 (d : Int) ∧ PxR w wr ⟨na, nc, names, ua, uc, curs, pa, pc, pool, hor, cells, slots, stack, da, dc, days⟩ w2.heap.size (w2.heap.size + 1) ⟨st, fu, ba, rl, ce⟩ (vAll days d).2.2.2) (fun t _ => days.length - (intOf t).toNat)
  case atStart => exact ⟨0, by omega, rfl, X0.out⟩
  case round =>
    clear X0
    rename World => wr
    obtain ⟨d, hd, rfl, hX⟩ := hrel
    obtain ⟨x0, x1, x2, x3, x4, x5, x6, x7⟩ := box_all8 hX.pb
    by_cases hlt : d < days.length
    · have kc : (d : Int) < (days.length : Int) := by omega
      have kd0 : ¬ (d : Int) < 0 := by omega
      have ks : IntKind.i64.wrap ((d : Int) + 1) = (d : Int) + 1 := by simp [IntKind.wrap, IntKind.bits, IntKind.signed]; omega
      have XX := Lib.hid hX
      have KHd := Lib.hid (KH.out wr d hlt hX.be)
      have FO := Lib.hid (HF.out d hlt)
      have NXd := Lib.hid (NX.out d hlt)
      obtain ⟨x, o, hda, hcell⟩ := DR.out (by omega)
      have DC := Lib.hid (fun V b => hcell V b d hlt)
      have DId := Lib.hid (fun V b => DI.out V b d hlt)
      clear hcell hX KH HF NX DR DI RV FT
      generalize days.getD d default = s at *
      obtain ⟨sd, sa, sc, sl⟩ := s
      simp only at KHd FO NXd DC DId
      generalize hnd : (vAll days d).2.2.2 = nd at *
      clear hnd
      subst hda
      go_wp2_with (go_at_call 11; refine KHd.out.mono ?_; rintro e w3 ⟨h1, hb, rfl, h2⟩; have X3 := Lib.hid (XX.out.later h1); obtain ⟨z0, z1, z2, z3, z4, z5, z6, z7⟩ := box_all8 X3.out.pb; obtain ⟨c0, c1⟩ := DC.out w3 X3.out.be; have HB := Lib.hid h2; clear h1 h2)
      clear x0 x1 x2 x3 x4 x5 x6 x7 z0 z1 z2 z3 z4 z5 z6 z7 c0 c1 XX KHd
      go_loopw [18] (fun t w4 => ∃ k : Nat, k ≤ sl.length ∧ t = .int .i64 (k : Int) ∧ PxR w w4 ⟨na, nc, names, ua, uc, curs, pa, pc, pool, hor, cells, slots, stack, some ⟨x, o, none⟩, dc, days⟩ w2.heap.size (w2.heap.size + 1) ⟨st, fu, ba, rl, ce⟩ (vNeed nd sd sl k) ∧ BkP w4 hb (htA (htF ⟨sd, sa, sc, sl⟩) sl.length sl.length) 3) (fun t _ => sl.length - (intOf t).toNat)
      case atStart => exact ⟨0, by omega, rfl, X3.out, HB.out⟩
      case round =>
        clear X3 HB
        rename World => w4
        obtain ⟨k, hk, rfl, hX, hB⟩ := hrel
        by_cases hkn : k < sl.length
        · have kc2 : (k : Int) < (sl.length : Int) := by omega
          have kk0 : ¬ (k : Int) < 0 := by omega
          have ks2 : IntKind.i64.wrap ((k : Int) + 1) = (k : Int) + 1 := by simp [IntKind.wrap, IntKind.bits, IntKind.signed]; have := FO.out; omega
          obtain ⟨e1, e2, e3⟩ := need_next (nd := nd) (sg := ⟨sd, sa, sc, sl⟩) (k := k) hkn
          have nf := need_fuel (nd := nd) (day := sd) (code := sl) k
          simp only at e1 e2 e3
          obtain ⟨cx, co, hsa, _, _⟩ := (DId.out w4 hX.be).2.2.2.2.oneP (by omega)
          have QC := Lib.hid (p := ∀ V, Below w.heap.size w V → V.cell? ⟨cx, co + k * 3, none⟩ = some (.int .i64 (sl.getD k default).o) ∧ V.cell? ⟨cx, co + k * 3 + 2, none⟩ = some (.int .i64 (sl.getD k default).b)) (fun V b => by
            obtain ⟨cx', co', hsa', _, hcc⟩ := (DId.out V b).2.2.2.2.oneP (by omega)
            rw [hsa] at hsa'
            simp only [Option.some.injEq, Addr.mk.injEq] at hsa'
            obtain ⟨rfl, rfl, _⟩ := hsa'
            have q0 := hcc k hkn 0 (by omega)
            have q2 := hcc k hkn 2 (by omega)
            simp only [icell, Nat.add_zero, List.getD_cons_zero, List.getD_cons_succ] at q0 q2
            exact ⟨q0, q2⟩)
          have hc := hB.cell k
          rw [htA_at _ _ _ _ hkn, if_pos hkn] at hc
          have ks3 : IntKind.i64.wrap ((vNeed nd sd sl k).fuel + 1) = (vNeed nd sd sl k).fuel + 1 := by simp [IntKind.wrap, IntKind.bits, IntKind.signed]; have := FO.out; omega
          subst hsa
          generalize htF ⟨sd, some ⟨cx, co, none⟩, sc, sl⟩ k = ht at *
          generalize hn2 : vNeed nd sd sl (k + 1) = n2 at *
          generalize vNeed nd sd sl k = n1 at *
          obtain ⟨a1, a2, a3, a4, a5⟩ := n1
          obtain ⟨b1, b2, b3, b4, b5⟩ := n2
          have HN := Lib.hid hn2
          clear hn2
          generalize sl.getD k default = i at *
          obtain ⟨io, ia, ib⟩ := i
          simp only at e1 e2 e3 QC ks3 hX hc
          clear nf
          obtain ⟨y0, y1, y2⟩ := boxV3 hX.xx
          obtain ⟨v0, v1, v2, v3, v4, v5, v6, v7⟩ := box_all8 hX.pb
          have KM := Lib.hid (most_px hX hB a1 (ht : Int))
          have PU := Lib.hid (p := ∀ W, PxR w W ⟨na, nc, names, ua, uc, curs, pa, pc, pool, hor, cells, slots, stack, some ⟨x, o, none⟩, dc, days⟩ w2.heap.size (w2.heap.size + 1) ⟨st, fu, ba, rl, ce⟩ ⟨a1, a2, a3, a4, a5⟩ → BkP W hb (htA (htF ⟨sd, some ⟨cx, co, none⟩, sc, sl⟩) sl.length sl.length) 3 → PxR w ((W.setCell ⟨w2.heap.size + 1, 0, none⟩ (.int .i64 (max a1 (ht : Int)))).setCell ⟨w2.heap.size + 1, 1, none⟩ (.int .i64 (a2 + 1))) ⟨na, nc, names, ua, uc, curs, pa, pc, pool, hor, cells, slots, stack, some ⟨x, o, none⟩, dc, days⟩ w2.heap.size (w2.heap.size + 1) ⟨st, fu, ba, rl, ce⟩ ⟨max a1 (ht : Int), a2 + 1, a3, a4, a5⟩ ∧ BkP ((W.setCell ⟨w2.heap.size + 1, 0, none⟩ (.int .i64 (max a1 (ht : Int)))).setCell ⟨w2.heap.size + 1, 1, none⟩ (.int .i64 (a2 + 1))) hb (htA (htF ⟨sd, some ⟨cx, co, none⟩, sc, sl⟩) sl.length sl.length) 3 ∧ (W.setCell ⟨w2.heap.size + 1, 0, none⟩ (.int .i64 (max a1 (ht : Int)))).cell? ⟨w2.heap.size + 1, 1, none⟩ = some (.int .i64 a2) ∧ W.cell? ⟨w2.heap.size + 1, 0, none⟩ = some (.int .i64 a1) ∧ W.frozen? ⟨w2.heap.size + 1, 0, none⟩ = false ∧ (W.setCell ⟨w2.heap.size + 1, 0, none⟩ (.int .i64 (max a1 (ht : Int)))).frozen? ⟨w2.heap.size + 1, 1, none⟩ = false) (fun W h l => by
            obtain ⟨p1, p2⟩ := px_put (nd' := ⟨max a1 (ht : Int), a2, a3, a4, a5⟩) h l 0 (.int .i64 (max a1 (ht : Int))) (by omega) (by simp)
            obtain ⟨p3, p4⟩ := px_put (nd' := ⟨max a1 (ht : Int), a2 + 1, a3, a4, a5⟩) p1 p2 1 (.int .i64 (a2 + 1)) (by omega) (by simp)
            exact ⟨p3, p4, (boxV3 p1.xx).2.1, (boxV3 h.xx).1, h.xx.frozen 0, p1.xx.frozen 1⟩)
          clear hX hB
          by_cases io3 : io = 3
          · have i3 : (io == 3) = true := by simpa using io3
            rw [if_pos io3] at e3
            subst e1 e2 e3
            go_wp2
            go_region_with (go_at_call 12; refine (KM.out _ (by first | exact Below.refl _ _ | exact drew1B _)).mono ?_; rintro e w5 ⟨rfl, h1, h2⟩; obtain ⟨p1, p2, p3, p4, p5, p6⟩ := PU.out w5 h1 h2; obtain ⟨z0, z1, z2, z3, z4, z5, z6, z7⟩ := box_all8 p1.pb; obtain ⟨c0, c1⟩ := DC.out _ p1.be; obtain ⟨q0, q2⟩ := QC.out _ p1.be; obtain ⟨g0, g1, g2⟩ := boxV3 p1.xx; have P1 := Lib.hid p1; have KN := Lib.hid (most_px p1 p2 a3 ib); clear h1 h2 p1 p2)
            all_goals go_wp2
            all_goals
              go_region_with (go_at_call 12; refine (KN.out _ (by first | exact Below.refl _ _ | exact drew1B _)).mono ?_; rintro e w6 ⟨rfl, h1, h2⟩; obtain ⟨p1, p2⟩ := px_put (nd' := ⟨max a1 (ht : Int), a2 + 1, max a3 ib, a4, a5⟩) h1 h2 2 (.int .i64 (max a3 ib)) (by omega) (by simp); have r1 := (boxV3 h1.xx).2.2; have r2 := h1.xx.frozen 2; have R1 := Lib.hid p1; have R2 := Lib.hid p2; clear h1 h2 p1 p2)
            all_goals
              go_wp2
              first
                | exact ⟨⟨k + 1, by omega, by go_num, by rw [HN.out]; exact R1.out.eqs rfl rfl rfl, R2.out⟩, by simp [intOf]; omega⟩
          · have i3 : (io == 3) = false := by simpa using io3
            rw [if_neg io3] at e3
            subst e1 e2 e3
            go_wp2
            go_region_with (go_at_call 12; refine (KM.out _ (by first | exact Below.refl _ _ | exact drew1B _)).mono ?_; rintro e w5 ⟨rfl, h1, h2⟩; obtain ⟨p1, p2, p3, p4, p5, p6⟩ := PU.out w5 h1 h2; obtain ⟨z0, z1, z2, z3, z4, z5, z6, z7⟩ := box_all8 p1.pb; obtain ⟨c0, c1⟩ := DC.out _ p1.be; obtain ⟨q0, q2⟩ := QC.out _ p1.be; have P1 := Lib.hid p1; have P2 := Lib.hid p2; clear h1 h2 p1 p2)
            all_goals
              go_wp2
              first
                | exact ⟨⟨k + 1, by omega, by go_num, by rw [HN.out]; exact P1.out.eqs rfl rfl rfl, P2.out⟩, by simp [intOf]; omega⟩
        · obtain rfl : k = sl.length := by omega
          have RR := Lib.hid (p := PxR w w4 ⟨na, nc, names, ua, uc, curs, pa, pc, pool, hor, cells, slots, stack, some ⟨x, o, none⟩, dc, days⟩ w2.heap.size (w2.heap.size + 1) ⟨st, fu, ba, rl, ce⟩ (vAll days (d + 1)).2.2.2) (by rw [NXd.out]; exact hX)
          clear hX hB
          go_wp2
          go_roundw
          case rel => exact ⟨d + 1, by omega, by go_num, RR.out⟩
          case measure => simp [intOf]; omega
    · obtain rfl : d = days.length := by omega
      have XX := Lib.hid hX
      have Bw := Lib.hid hX.be
      obtain ⟨y0, y1, y2⟩ := boxV3 hX.xx
      obtain ⟨u0, u1, u2⟩ := boxV3 hX.pr
      clear hX KH HF NX DR DI
      have rv := RV.out
      have ft := FT.out
      rw [← rv] at ft y0 y1 y2 XX
      simp only at ft y0 y1 y2
      clear RV FT rv
      subst ft
      have BQ := Lib.hid (p := Below w.heap.size w (wr.alloc (.cells #[.slice na names.length nc, .slice ua curs.length uc, .slice pa pool.length pc, .int .i64 hor, .int .i64 zc, .int .i64 zl, .int .i64 zs, .slice da days.length dc] 26))) (Bw.out.alloc Bw.out.size _)
      have QQ := Lib.hid (p := BkP (wr.alloc (.cells #[.slice na names.length nc, .slice ua curs.length uc, .slice pa pool.length pc, .int .i64 hor, .int .i64 zc, .int .i64 zl, .int .i64 zs, .slice da days.length dc] 26)) wr.heap.size #[.slice na names.length nc, .slice ua curs.length uc, .slice pa pool.length pc, .int .i64 hor, .int .i64 zc, .int .i64 zl, .int .i64 zs, .slice da days.length dc] 26) (heapN _ _)
      generalize (vAll days days.length).2.2.2 = nd at *
      by_cases cq : canP ⟨na, nc, names, ua, uc, curs, pa, pc, pool, hor, zc, zl, zs, da, dc, days⟩
      · rw [if_pos cq] at KC
        have VQ := VO.out cq
        clear VO cq
        obtain ⟨m1, m2, m3, m4, m5⟩ := nd
        by_cases ce : zs = stack ∧ zl = slots ∧ zc = cells
        · rw [if_pos ce] at VQ
          rw [VQ] at KQ
          unfold vfV at KQ
          simp only at KQ
          clear VQ
          obtain ⟨rfl, rfl, rfl⟩ := ce
          go_wp2_with (first | (go_at_call 13; refine (KC.out _ BQ.out).mono ?_; rintro e w3 ⟨rfl, h1⟩; have B3 := Lib.hid (BQ.out.trans (h1.mono BQ.out.size)); obtain ⟨f0, f1, f2, f3, f4, f5, f6, f7⟩ := box_all8 (QQ.out.lat h1); have X3 := Lib.hid ((XX.out.later (allocBP _ _)).later h1); have Q3 := Lib.hid (QQ.out.lat h1); clear h1; have T1 : True := trivial) | (go_at_call 10; have qq := T1; refine (KQ.out w3 B3.out).mono ?_; clear qq T1; rintro e w5 ⟨rfl, h1⟩; have B5 := Lib.hid (p := Below w.heap.size w (w5.alloc (.cells #[.int .i64 m1, .int .i64 m2, .int .i64 m3] 29))) ((B3.out.trans (h1.mono B3.out.size)).alloc (B3.out.trans (h1.mono B3.out.size)).size _); obtain ⟨g0, g1, g2, g3, g4, g5, g6, g7⟩ := box_all8 ((X3.out.pb.lat h1).lat (allocBP w5 (.cells #[.int .i64 m1, .int .i64 m2, .int .i64 m3] 29))); obtain ⟨k0, k1, k2, k3, k4, k5, k6, k7⟩ := box_all8 ((Q3.out.lat h1).lat (allocBP w5 (.cells #[.int .i64 m1, .int .i64 m2, .int .i64 m3] 29))); clear h1))
          go_ret
          exact ⟨rfl, B5.out⟩
        · rw [if_neg ce] at VQ
          rw [VQ] at KQ
          unfold vfV at KQ
          simp only at KQ
          clear VQ
          have ways : ((zs == stack) = false) ∨ ((zs == stack) = true ∧ (zl == slots) = false) ∨ ((zs == stack) = true ∧ (zl == slots) = true ∧ (zc == cells) = false) := by
            simp only [beq_iff_eq, beq_eq_false_iff_ne, ne_eq]
            by_cases a : zs = stack
            · by_cases b : zl = slots
              · exact .inr (.inr ⟨a, b, fun c => ce ⟨a, b, c⟩⟩)
              · exact .inr (.inl ⟨a, b⟩)
            · exact .inl a
          clear ce
          rcases ways with a1 | ⟨a1, a2⟩ | ⟨a1, a2, a3⟩
          all_goals
            go_wp2_with (first | (go_at_call 13; refine (KC.out _ BQ.out).mono ?_; rintro e w3 ⟨rfl, h1⟩; have B3 := Lib.hid (BQ.out.trans (h1.mono BQ.out.size)); obtain ⟨f0, f1, f2, f3, f4, f5, f6, f7⟩ := box_all8 (QQ.out.lat h1); have X3 := Lib.hid ((XX.out.later (allocBP _ _)).later h1); have Q3 := Lib.hid (QQ.out.lat h1); clear h1; have T1 : True := trivial) | (go_at_call 10; have qq := T1; refine (KQ.out w3 B3.out).mono ?_; clear qq T1; rintro e w5 ⟨rfl, h1⟩; have B5 := Lib.hid (p := Below w.heap.size w (w5.alloc (.cells #[.int .i64 0, .int .i64 0, .int .i64 0] 29))) ((B3.out.trans (h1.mono B3.out.size)).alloc (B3.out.trans (h1.mono B3.out.size)).size _); obtain ⟨g0, g1, g2, g3, g4, g5, g6, g7⟩ := box_all8 ((X3.out.pb.lat h1).lat (allocBP w5 (.cells #[.int .i64 0, .int .i64 0, .int .i64 0] 29))); obtain ⟨k0, k1, k2, k3, k4, k5, k6, k7⟩ := box_all8 ((Q3.out.lat h1).lat (allocBP w5 (.cells #[.int .i64 0, .int .i64 0, .int .i64 0] 29))); clear h1))
            go_ret
            exact ⟨rfl, B5.out⟩
      · rw [if_neg cq] at KC
        clear VO cq KQ
        go_wp2_with (go_at_call 13; refine (KC.out _ BQ.out).mono ?_; rintro e w3 ⟨rfl, h1⟩; have B3 := Lib.hid (BQ.out.trans (h1.mono BQ.out.size)); clear h1)
        go_ret
        exact ⟨rfl, B3.out⟩
end Go.Proofs.YtbhbbpbdnmhppaaDoor
