import Derived.Test.YtpfjnnkjoabgbaaGreatDoorXBR
namespace Go.Proofs.YtpfjnnkjoabgbaaGreatDoor
open Go.RowKit
set_option linter.unusedVariables false
set_option linter.unusedSimpArgs false
def TknE (w : World) (p : Pg) (e : Ending) (w' : World) : Prop := e = .returned (.tuple #[.agg #[.int .i64 (vfyA p).2.2.2.stack, .int .i64 (vfyA p).2.2.2.fuel, .int .i64 (vfyA p).2.2.2.back], .bool (decide ((vfyA p).1 = 0))]) ∧ Below w.heap.size w w'
set_option maxRecDepth 100000 in
set_option maxHeartbeats 3200000 in
theorem taken_any {w : World} {p : Pg} (h : PV w p) (hR : Rws w) (hU : Rul w) : Calls Tryz.prog 13 #[p.agg] w fun e w' => TknE w p e w' := by
  obtain ⟨W0, hW0⟩ : ∃ W, (w.alloc p.box).alloc (.cells #[.int .i64 0, .int .i64 0, .int .i64 0] 41) = W := ⟨_, rfl⟩
  have B0 : Below w.heap.size w W0 := by rw [← hW0]; exact (allocBP w p.box).trans ((allocBP (w.alloc p.box) _).mono (by simp))
  have Z0 : BkP W0 (w.heap.size + 1) #[.int .i64 0, .int .i64 0, .int .i64 0] 41 := by
    rw [← hW0]
    have := heapN (w.alloc p.box) (.cells #[.int .i64 0, .int .i64 0, .int .i64 0] 41)
    rw [show (w.alloc p.box).heap.size = w.heap.size + 1 by simp] at this
    exact this
  have P0 : BkP W0 w.heap.size #[.slice p.na p.names.length p.nc, .slice p.ua p.curs.length p.uc, .slice p.pa p.pool.length p.pc, .int .i64 p.hor, .int .i64 p.cells, .int .i64 p.slots, .int .i64 p.stack, .slice p.da p.days.length p.dc] 26 := by rw [← hW0]; exact BkP.lat (heapN w p.box) (allocBP _ _)
  obtain ⟨a0, a1, a2, a3, a4, a5, a6, a7⟩ := box_all8 P0
  have KO := Lib.hid (p := Calls Tryz.prog 11 #[p.agg] W0 fun e w' => ∃ p' : Pg, e = .returned (.agg #[.slice p'.na p'.names.length p'.nc, .slice p'.ua p'.curs.length p'.uc, .slice p'.pa p'.pool.length p'.pc, .int .i64 p'.hor, .int .i64 p'.cells, .int .i64 p'.slots, .int .i64 p'.stack, .slice p'.da p'.days.length p'.dc]) ∧ RowKit.Hid (Calls Tryz.prog 26 #[.agg #[.slice p'.na p'.names.length p'.nc, .slice p'.ua p'.curs.length p'.uc, .slice p'.pa p'.pool.length p'.pc, .int .i64 p'.hor, .int .i64 p'.cells, .int .i64 p'.slots, .int .i64 p'.stack, .slice p'.da p'.days.length p'.dc]] w' fun e2 w2 => e2 = .returned (vfV (vfyA p)) ∧ Below W0.heap.size W0 w2)) ((owned_any (h.later B0)).mono (fun e w' ⟨p', h1, h2, h3, h4⟩ => ⟨p', h1, (verify_any (h4 w' (fun _ _ _ => rfl)) (hR.below (B0.trans (h3.mono B0.size))) (hU.lat (B0.trans (h3.mono B0.size)))).mono (fun e2 w2 q => ⟨by rw [q.1, vfyA_keyM h2], h3.trans (q.2.mono h3.size)⟩)⟩))
  have CL := Lib.hid (p := ∀ V, Below W0.heap.size W0 V → BkP V (w.heap.size + 1) #[.int .i64 0, .int .i64 0, .int .i64 0] 41 ∧ Below w.heap.size w V) (fun V b => ⟨Z0.lat b, B0.trans (b.mono B0.size)⟩)
  have KN := Lib.hid (fun e W => num15_any e W)
  have HW := Lib.hid hW0
  clear B0 Z0 P0 h hR hU hW0
  unfold vfV at KO
  have FE := Lib.hid (p := ∀ V, Below w.heap.size w V → TknE w p (.returned (.tuple #[.agg #[.int .i64 (vfyA p).2.2.2.stack, .int .i64 (vfyA p).2.2.2.fuel, .int .i64 (vfyA p).2.2.2.back], .bool (decide ((vfyA p).1 = 0))])) V) (fun V b => ⟨rfl, b⟩)
  generalize (vfyA p).2.2.2.stack = ns at *
  generalize (vfyA p).2.2.2.fuel = nf at *
  generalize (vfyA p).2.2.2.back = nb at *
  generalize (vfyA p).2.1 = n21 at *
  generalize (vfyA p).2.2.1 = n22 at *
  generalize (vfyA p).1 = en at *
  unfold Pg.agg Pg.box at *
  obtain ⟨na, nc, names, ua, uc, curs, pa, pc, pool, hor, cells, slots, stack, da, dc, days⟩ := p
  simp only at *
  go_enter Tryz.func13, Tryz.ntmps13
  go_wp2_with fail
  go_at_call 11
  rw [HW.out]
  refine KO.out.mono ?_
  rintro e w1 ⟨p', rfl, hq⟩
  go_wp2_with fail
  go_at_call 26
  refine hq.out.mono ?_
  rintro e w2 ⟨rfl, b2⟩
  obtain ⟨W3, hW3⟩ : ∃ W, w2.alloc (.cells #[.int .i64 ns, .int .i64 nf, .int .i64 nb] 41) = W := ⟨_, rfl⟩
  have b3 : Below W0.heap.size W0 W3 := by rw [← hW3]; exact b2.trans ((allocBP w2 _).mono b2.size)
  have q3 : BkP W3 w2.heap.size #[.int .i64 ns, .int .i64 nf, .int .i64 nb] 41 := by rw [← hW3]; exact heapN _ _
  obtain ⟨zb, bw⟩ := CL.out W3 b3
  obtain ⟨y0, y1, y2⟩ := box_all3P q3
  obtain ⟨z0, z1, z2⟩ := box_all3P zb
  have f0 := zb.frozen 0
  have f1 := zb.frozen 1
  have f2 := zb.frozen 2
  have BW := Lib.hid bw
  have H3 := Lib.hid hW3
  clear b2 b3 hW3 bw q3 zb
  go_wp2
  rw [H3.out]
  go_region_with (go_at_call 14; refine (KN.out en _).mono ?_; rintro e w4 ⟨rfl, rfl⟩)
  all_goals
    go_wp2
    refine bodyPost_ret (v := .tuple #[.agg #[.int .i64 ns, .int .i64 nf, .int .i64 nb], .bool (decide (en = 0))]) ?r rfl ?s
    case r => simp [results, Tryz.results13, go_sem, z0, z1, z2, f0, f1, f2]; try rfl
    case s => exact FE.out _ (((BW.out.setCell (by exact Nat.le_succ _) _).setCell (by exact Nat.le_succ _) _).setCell (by exact Nat.le_succ _) _ |>.trans (drew1B2 _ _))
end Go.Proofs.YtpfjnnkjoabgbaaGreatDoor

namespace Go.Proofs.YtpfjnnkjoabgbaaGreatDoor
open Go.RowKit
set_option linter.unusedVariables false
set_option linter.unusedSimpArgs false
/-- shown, half way: k flows have been looked at. -/
structure ShS (w : World) (a : Option Addr) (n c : Nat) (fs : List Fl) (ft dy day : Int) (k : Nat) (xa : Option Addr) (xn xc : Nat) (W : World) : Prop where
  bel : Below w.heap.size w W
  ob : BkP W w.heap.size #[.slice a n c, .int .i64 ft, .int .i64 dy] 32
  zb : BkP W (w.heap.size + 1) #[.slice none 0 0, .int .i64 0, .int .i64 0] 32
  xb : BkP W (w.heap.size + 2) #[.slice xa xn xc, .int .i64 0, .int .i64 0] 32
  fl : FLm w a n fs
  ow : OwF W w.heap.size (.slice xa xn xc) (shF day (fs.take k))
theorem shF_yes {day : Int} {fs : List Fl} {k : Nat} (hk : k < fs.length) (h : (fs.getD k default).d ≤ day) : shF day (fs.take (k + 1)) = shF day (fs.take k) ++ [fs.getD k default] := by
  unfold shF
  rw [List.take_succ_eq_append_getElem hk, List.filter_append]
  have e : fs.getD k default = fs[k] := by simp [List.getD, hk]
  rw [e] at h ⊢
  simp [h]
theorem shF_no {day : Int} {fs : List Fl} {k : Nat} (hk : k < fs.length) (h : ¬ (fs.getD k default).d ≤ day) : shF day (fs.take (k + 1)) = shF day (fs.take k) := by
  unfold shF
  rw [List.take_succ_eq_append_getElem hk, List.filter_append]
  have e : fs.getD k default = fs[k] := by simp [List.getD, hk]
  rw [e] at h
  simp [h]
section
variable {w : World} {a : Option Addr} {n c : Nat} {fs : List Fl} {ft dy day : Int} {k : Nat} {xa : Option Addr} {xn xc : Nat} {W : World}
theorem ShS.round (h : ShS w a n c fs ft dy day k xa xn xc W) (hk : k < n) (hn : n ≤ 4000000000) (hd : (fs.getD k default).d ≤ day) : ∃ x o xa2 xn2 xc2 w9, a = some ⟨x, o, none⟩ ∧ FCm W x (o + k * 3) (fs.getD k default) ∧ (∀ ty, (Builtin.append_ #[29, 29] ty #[.slice xa xn xc, .slice (some ⟨W.heap.size, 0, none⟩) 1 1]).run Tryz.prog (W.drew.alloc (.cells #[.int .i64 (fs.getD k default).d, .string (fs.getD k default).c, .int .i64 (fs.getD k default).a] 54)) = .ok (.slice xa2 xn2 xc2) w9) ∧ (∀ ob, (W.alloc ob).cell? ⟨w.heap.size + 2, 0, none⟩ = some (.slice xa xn xc)) ∧ w9.cell? ⟨w.heap.size + 2, 0, none⟩ = some (.slice xa xn xc) ∧ w9.frozen? ⟨w.heap.size + 2, 0, none⟩ = false ∧ RowKit.Hid (ShS w a n c fs ft dy day (k + 1) xa2 xn2 xc2 (w9.setCell ⟨w.heap.size + 2, 0, none⟩ (.slice xa2 xn2 xc2))) := by
  obtain ⟨x, o, ha, hx, hc⟩ : ∃ b o, a = some ⟨b, o, none⟩ ∧ b < W.heap.size ∧ ∀ i, i < n → FCm W b (o + i * 3) (fs.getD i default) := by
    rcases (h.fl.later h.bel).2 with z | z
    · omega
    · exact z
  have hl := h.fl.1
  have a8 : Below W.heap.size W (W.drew.alloc (.cells #[.int .i64 (fs.getD k default).d, .string (fs.getD k default).c, .int .i64 (fs.getD k default).a] 54)) := (drew1 W).trans (allocBP W.drew _)
  have d8 := own_blkG h.ow (fun g hg => a8.block g (World.ownsRow.lt h.ow g hg).2)
  obtain ⟨i0, hi, hz0, hz1, hz2⟩ := info_parts infoFo
  have lk : (shF day (fs.take k)).length ≤ k := Nat.le_trans (List.length_filter_le _ _) (by simp; omega)
  have xe : xn = (shF day (fs.take k)).length := (owf_fl h.ow).1.symm
  subst xe
  obtain ⟨xa2, xc2, w9, r9, o9, g9, _⟩ := run_rowapp (V := fun _ => fo3 (fs.getD k default)) Tryz.underlying29 hi hz0 hz1 hz2 rfl (by omega) d8 (a := some ⟨W.heap.size, 0, none⟩) (n := 1) (c := 1) ⟨fun z => (by cases z), Nat.le_refl _, by unfold maxLen; omega⟩ (.inr ⟨W.heap.size, 0, rfl, by simp, fun i hi j hj => by
    have i0 : i = 0 := by omega
    subst i0
    have bk : BkP (W.drew.alloc (.cells #[.int .i64 (fs.getD k default).d, .string (fs.getD k default).c, .int .i64 (fs.getD k default).a] 54)) W.heap.size #[.int .i64 (fs.getD k default).d, .string (fs.getD k default).c, .int .i64 (fs.getD k default).a] 54 := heapN W.drew _
    rw [bk.cell]
    rcases (show j = 0 ∨ j = 1 ∨ j = 2 by omega) with rfl | rfl | rfl <;> rfl⟩) (fun _ => rfl) (fun i u hu => by simp [fo3] at hu; rcases hu with rfl | rfl | rfl <;> rfl) (by unfold maxLen; omega) (by omega) (Nat.le_trans h.bel.size a8.size)
  have kp : Kp (W.drew.alloc (.cells #[.int .i64 (fs.getD k default).d, .string (fs.getD k default).c, .int .i64 (fs.getD k default).a] 54)) w9 (fun y => Value.ownBlock (.slice xa (shF day (fs.take k)).length xc) = some y) := ⟨g9.os, g9.tape, g9.output, g9.size, fun y hy hn => g9.block y hy (fun z => hn z.symm)⟩
  have fb : ∀ y, Value.ownBlock (.slice xa (shF day (fs.take k)).length xc) = some y → w.heap.size ≤ y ∧ ∃ c u f, (W.drew.alloc (.cells #[.int .i64 (fs.getD k default).d, .string (fs.getD k default).c, .int .i64 (fs.getD k default).a] 54)).heap[y]? = some (.cells c u f) ∧ u = 54 := by
    intro y hy
    refine ⟨(World.ownsRow.lt d8 y hy).1, ?_⟩
    rcases d8.2 with ⟨z, _⟩ | ⟨g2, cap, cur, z, _, e3, _⟩
    · rw [z] at hy; cases hy
    · rw [z] at hy
      simp only [Value.ownBlock, Option.some.injEq] at hy
      subst hy
      exact ⟨cur, _, _, e3, rfl⟩
  have kb : ∀ {b : Nat} {arr : Array Value} {t : TypeId}, BkP W b arr t → t ≠ 54 → BkP w9 b arr t := fun hb ht => (keep_ty kp (hb.lat a8) (fun y hy => by obtain ⟨_, c, u, f, e, rfl⟩ := fb y hy; exact ⟨c, _, f, e, Ne.symm ht⟩)).trans (hb.lat a8)
  have x9 := kb h.xb (by decide)
  have bl : Below w.heap.size W w9 := (a8.mono h.bel.size).trans (kp.bel (fun y hy => (fb y hy).1) (Nat.le_trans h.bel.size a8.size))
  have oo : OwF w9 w.heap.size (.slice xa2 ((shF day (fs.take k)).length + 1) xc2) (shF day (fs.take (k + 1))) := by
    rw [shF_yes (by omega) hd]
    unfold OwF
    rw [focs_append, List.length_append]
    have e : focs [fs.getD k default] = flatV 1 (fun _ => fo3 (fs.getD k default)) := by simp [focs, flatV]
    rw [e]
    exact o9
  have q1 : ∀ ob, (W.alloc ob).cell? ⟨w.heap.size + 2, 0, none⟩ = some (.slice xa (shF day (fs.take k)).length xc) := fun ob => below_cell (allocBP W ob) (by rw [h.xb.cell]; rfl)
  have x10 := x9.set2 0 (.slice xa2 ((shF day (fs.take k)).length + 1) xc2) (by simp)
  refine ⟨x, o, xa2, _, xc2, w9, ha, hc k hk, r9, q1, by rw [x9.cell]; rfl, x9.frozen 0, ⟨(h.bel.trans bl).setCell (by exact (by omega : w.heap.size ≤ w.heap.size + 2)) _, (kb h.ob (by decide)).other _ _ _ (by omega), (kb h.zb (by decide)).other _ _ _ (by omega), by simpa using x10, h.fl, own_blkG oo (fun g hg => bk_block (fun z => own_neB oo x9 (by decide) (by rw [hg, z])))⟩⟩
theorem ShS.skip (h : ShS w a n c fs ft dy day k xa xn xc W) (hk : k < n) (hd : ¬ (fs.getD k default).d ≤ day) : ShS w a n c fs ft dy day (k + 1) xa xn xc W := ⟨h.bel, h.ob, h.zb, h.xb, h.fl, by rw [shF_no (by have := h.fl.1; omega) hd]; exact h.ow⟩
end
/-- What shown answers. -/
def ShE (w : World) (fs : List Fl) (ft dy day : Int) (e : Ending) (w' : World) : Prop := ∃ xa xn xc, e = .returned (.agg #[.slice xa xn xc, .int .i64 (if ft ≠ 0 ∧ dy ≤ day then ft else 0), .int .i64 (if ft ≠ 0 ∧ dy ≤ day then dy else 0)]) ∧ OwF w' w.heap.size (.slice xa xn xc) (shF day fs) ∧ Below w.heap.size w w'
set_option maxRecDepth 100000 in
set_option maxHeartbeats 3200000 in
theorem shown_any {w : World} {a : Option Addr} {n c : Nat} {fs : List Fl} (h : FLm w a n fs) (hn : n ≤ 4000000000) (ft dy day : Int) : Calls Tryz.prog 21 #[.agg #[.slice a n c, .int .i64 ft, .int .i64 dy], .int .i64 day] w fun e w' => ShE w fs ft dy day e w' := by
  obtain ⟨W0, hW0⟩ : ∃ W, ((w.alloc (.cells #[.slice a n c, .int .i64 ft, .int .i64 dy] 32)).alloc (.cells #[.slice none 0 0, .int .i64 0, .int .i64 0] 32)).alloc (.cells #[.slice none 0 0, .int .i64 0, .int .i64 0] 32) = W := ⟨_, rfl⟩
  have S0 : ShS w a n c fs ft dy day 0 none 0 0 W0 := by
    rw [← hW0]
    have a1 := allocBP w (.cells #[.slice a n c, .int .i64 ft, .int .i64 dy] 32)
    have a2 := allocBP (w.alloc (.cells #[.slice a n c, .int .i64 ft, .int .i64 dy] 32)) (.cells #[.slice none 0 0, .int .i64 0, .int .i64 0] 32)
    have a3 := allocBP ((w.alloc (.cells #[.slice a n c, .int .i64 ft, .int .i64 dy] 32)).alloc (.cells #[.slice none 0 0, .int .i64 0, .int .i64 0] 32)) (.cells #[.slice none 0 0, .int .i64 0, .int .i64 0] 32)
    have z := heapN (w.alloc (.cells #[.slice a n c, .int .i64 ft, .int .i64 dy] 32)) (.cells #[.slice none 0 0, .int .i64 0, .int .i64 0] 32)
    have q := heapN ((w.alloc (.cells #[.slice a n c, .int .i64 ft, .int .i64 dy] 32)).alloc (.cells #[.slice none 0 0, .int .i64 0, .int .i64 0] 32)) (.cells #[.slice none 0 0, .int .i64 0, .int .i64 0] 32)
    rw [show (w.alloc (.cells #[.slice a n c, .int .i64 ft, .int .i64 dy] 32)).heap.size = w.heap.size + 1 by simp] at z
    rw [show ((w.alloc (.cells #[.slice a n c, .int .i64 ft, .int .i64 dy] 32)).alloc (.cells #[.slice none 0 0, .int .i64 0, .int .i64 0] 32)).heap.size = w.heap.size + 2 by simp] at q
    exact ⟨(a1.trans (a2.mono a1.size)).trans (a3.mono (a1.trans (a2.mono a1.size)).size), ((show BkP _ _ _ _ from heapN w (.cells #[.slice a n c, .int .i64 ft, .int .i64 dy] 32)).lat a2).lat a3, (show BkP _ _ _ _ from z).lat a3, q, h, World.ownsRow_nil _ _ _ _⟩
  have hl := h.1
  have SH := Lib.hid S0
  have HW := Lib.hid hW0
  clear S0 hW0 h
  go_enter Tryz.func21, Tryz.ntmps21
  go_upto_region 2 with fail
  rw [HW.out]
  go_wp2
  go_loopw [6] (fun t wr => ∃ (k : Nat) (xa : Option Addr) (xn xc : Nat), k ≤ n ∧ t = .int .i64 (k : Int) ∧ RowKit.Hid (ShS w a n c fs ft dy day k xa xn xc wr)) (fun t _ => n - (intOf t).toNat)
  case atStart => exact ⟨0, none, 0, 0, by omega, rfl, SH.out⟩
  case round =>
    clear SH
    rename World => wr
    obtain ⟨k, xa, xn, xc, hk, rfl, hS⟩ := hrel
    have s := hS.out
    obtain ⟨o0, o1, o2⟩ := box_all3P s.ob
    by_cases hlt : k < n
    · have kc : (k : Int) < (n : Int) := by omega
      have k0 : ¬ (k : Int) < 0 := by omega
      have ks : IntKind.i64.wrap ((k : Int) + 1) = (k : Int) + 1 := by simp [IntKind.wrap, IntKind.bits, IntKind.signed]; omega
      by_cases hd : (fs.getD k default).d ≤ day
      · obtain ⟨x, o, xa2, xn2, xc2, w9, ha, hf, r9, q1, q2, q3, hN⟩ := s.round hlt hn hd
        have x0 := (box_all3P s.xb).1
        obtain ⟨f0, f1, f2⟩ := hf
        have R9 := Lib.hid r9
        generalize fs.getD k default = f at *
        obtain ⟨fd, fc, fa⟩ := f
        simp only at f0 f1 f2 R9 hd
        have d1 : decide (fd ≤ day) = true := by simpa using hd
        subst ha
        clear hS s r9
        go_wp2
        go_region_law (first | (refine step_app_run rfl _ _ 29 rfl _ _ _ w9 rfl rfl R9.out ?_))
        all_goals
          go_wp2
          refine ⟨⟨k + 1, xa2, xn2, xc2, by omega, by simp, hN⟩, ?_⟩
          simp [intOf]
          omega
      · obtain ⟨x, o, ha, hx, hc⟩ : ∃ b o, a = some ⟨b, o, none⟩ ∧ b < wr.heap.size ∧ ∀ i, i < n → FCm wr b (o + i * 3) (fs.getD i default) := by
          rcases (s.fl.later s.bel).2 with z | z
          · omega
          · exact z
        obtain ⟨f0, _, _⟩ := hc k hlt
        have N := Lib.hid (s.skip hlt hd)
        generalize fs.getD k default = f at *
        obtain ⟨fd, fc, fa⟩ := f
        simp only at f0 hd
        have d1 : decide (fd ≤ day) = false := by simpa using hd
        subst ha
        clear hS s hc
        go_wp2
        refine ⟨⟨k + 1, xa, xn, xc, by omega, by simp, N.out⟩, ?_⟩
        simp [intOf]
        omega
    · have e : k = n := by omega
      subst e
      have kc : ¬ (k : Int) < (k : Int) := by omega
      have ow := s.ow
      rw [List.take_of_length_le (by omega)] at ow
      have OW := Lib.hid ow
      have BL := Lib.hid s.bel
      have hx := s.xb
      have hz := s.zb
      obtain ⟨x0, x1, x2⟩ := box_all3P hx
      obtain ⟨z0, z1, z2⟩ := box_all3P hz
      have f1 := hx.frozen 1
      have f2 := hx.frozen 2
      have g0 := hz.frozen 0
      have g1 := hz.frozen 1
      have g2 := hz.frozen 2
      have NB := Lib.hid (p := ∀ g, Value.ownBlock (.slice xa xn xc) = some g → g ≠ w.heap.size + 2 ∧ g ≠ w.heap.size + 1) (fun g hg => ⟨fun z => own_neB ow hx (by decide) (by rw [hg, z]), fun z => own_neB ow hz (by decide) (by rw [hg, z])⟩)
      clear hS s hx hz ow
      by_cases hc : ft ≠ 0 ∧ dy ≤ day
      · obtain ⟨h1, h2⟩ := hc
        have E := Lib.hid (p := ∀ V, OwF V w.heap.size (.slice xa xn xc) (shF day fs) → Below w.heap.size w V → ShE w fs ft dy day (.returned (.agg #[.slice xa xn xc, .int .i64 ft, .int .i64 dy])) V) (fun V o b => ⟨xa, xn, xc, by rw [if_pos ⟨h1, h2⟩, if_pos ⟨h1, h2⟩], o, b⟩)
        have c1 : (ft != 0) = true := by simpa using h1
        have c2 : decide (dy ≤ day) = true := by simpa using h2
        go_wp2
        refine bodyPost_ret (v := .agg #[.slice xa xn xc, .int .i64 ft, .int .i64 dy]) ?r rfl ?s
        case r => simp [results, Tryz.results21, go_sem, z0, z1, z2]
        case s =>
          refine E.out _ (own_blkG OW.out (fun g hg => ?_)) ?_
          · obtain ⟨q1, q2⟩ := NB.out g hg
            simp only [bk_block q1, bk_block q2]
          · exact ((((BL.out.setCell (by exact (by omega : w.heap.size ≤ w.heap.size + 2)) _).setCell (by exact (by omega : w.heap.size ≤ w.heap.size + 2)) _).setCell (by exact Nat.le_succ _) _).setCell (by exact Nat.le_succ _) _).setCell (by exact Nat.le_succ _) _
      · have E := Lib.hid (p := ∀ V, OwF V w.heap.size (.slice xa xn xc) (shF day fs) → Below w.heap.size w V → ShE w fs ft dy day (.returned (.agg #[.slice xa xn xc, .int .i64 0, .int .i64 0])) V) (fun V o b => ⟨xa, xn, xc, by rw [if_neg hc, if_neg hc], o, b⟩)
        by_cases h1 : ft = 0
        · subst h1
          go_wp2
          refine bodyPost_ret (v := .agg #[.slice xa xn xc, .int .i64 0, .int .i64 0]) ?r rfl ?s
          case r => simp [results, Tryz.results21, go_sem, z0, z1, z2]
          case s =>
            refine E.out _ (own_blkG OW.out (fun g hg => ?_)) ?_
            · obtain ⟨q1, q2⟩ := NB.out g hg
              simp only [bk_block q1, bk_block q2]
            · exact ((BL.out.setCell (by exact Nat.le_succ _) _).setCell (by exact Nat.le_succ _) _).setCell (by exact Nat.le_succ _) _
        · have h2 : ¬ dy ≤ day := fun z => hc ⟨h1, z⟩
          have c1 : (ft != 0) = true := by simpa using h1
          have c2 : decide (dy ≤ day) = false := by simpa using h2
          go_wp2
          refine bodyPost_ret (v := .agg #[.slice xa xn xc, .int .i64 0, .int .i64 0]) ?r rfl ?s
          case r => simp [results, Tryz.results21, go_sem, z0, z1, z2]
          case s =>
            refine E.out _ (own_blkG OW.out (fun g hg => ?_)) ?_
            · obtain ⟨q1, q2⟩ := NB.out g hg
              simp only [bk_block q1, bk_block q2]
            · exact ((BL.out.setCell (by exact Nat.le_succ _) _).setCell (by exact Nat.le_succ _) _).setCell (by exact Nat.le_succ _) _
end Go.Proofs.YtpfjnnkjoabgbaaGreatDoor

namespace Go.Proofs.YtpfjnnkjoabgbaaGreatDoor
open Go.RowKit
set_option linter.unusedVariables false
set_option linter.unusedSimpArgs false
/-- Many blocks, one behind the other. -/
def allocs (w : World) (l : List Obj) : World := l.foldl World.alloc w
theorem allocs_all : ∀ (l : List Obj) (w : World), (allocs w l).heap.size = w.heap.size + l.length ∧ Below w.heap.size w (allocs w l) ∧ ∀ i, i < l.length → (allocs w l).heap[w.heap.size + i]? = l[i]?
  | [], w => ⟨rfl, Below.refl _ _, fun i hi => by simp at hi⟩
  | o :: l, w => by
    obtain ⟨h1, h2, h3⟩ := allocs_all l (w.alloc o)
    have s1 : (w.alloc o).heap.size = w.heap.size + 1 := by simp
    have e : allocs w (o :: l) = allocs (w.alloc o) l := rfl
    rw [e]
    have a1 := allocBP w o
    refine ⟨by rw [h1, s1]; simp; omega, a1.trans (h2.mono a1.size), fun i hi => ?_⟩
    cases i with
    | zero =>
      rw [Nat.add_zero, h2.block w.heap.size (by omega)]
      exact heapN w o
    | succ i =>
      have := h3 i (by simpa using hi)
      rw [s1] at this
      rw [show w.heap.size + (i + 1) = w.heap.size + 1 + i by omega, this]
      rfl
def pfC0 : List In := [⟨3, 0, 0⟩, ⟨5, 0, 0⟩, ⟨0, 0, 0⟩]
def pfC1 : List In := [⟨4, 0, 0⟩, ⟨3, 0, 1⟩, ⟨9, 0, 0⟩, ⟨28, 0, 0⟩, ⟨1, 0, 0⟩, ⟨28, 0, 0⟩, ⟨0, 0, 0⟩]
def pfP (b : Nat) : Pg := ⟨some ⟨b, 0, none⟩, 1, [⟨#[83]⟩], some ⟨b + 1, 0, none⟩, 1, [⟨#[69, 85, 82]⟩], some ⟨b + 2, 0, none⟩, 1, [5], 2, 1, 0, 2, some ⟨b + 6, 0, none⟩, 2, [⟨0, some ⟨b + 4, 0, none⟩, 3, pfC0⟩, ⟨2, some ⟨b + 5, 0, none⟩, 7, pfC1⟩]⟩
def pfR (b : Nat) : List Rw := [⟨some ⟨b + 7, 0, none⟩, 1, 1, [⟨true, 10⟩]⟩, ⟨some ⟨b + 8, 0, none⟩, 1, 1, [⟨true, 20⟩]⟩]
def pfO (b : Nat) : List Obj := [.cells #[.string ⟨#[83]⟩] 9, .cells #[.string ⟨#[69, 85, 82]⟩] 9, .cells #[.int .i64 5] 3, .cells #[.slice (some ⟨b, 0, none⟩) 1 1, .slice (some ⟨b + 1, 0, none⟩) 1 1, .slice (some ⟨b + 2, 0, none⟩) 1 1, .int .i64 2, .int .i64 1, .int .i64 0, .int .i64 2, .slice (some ⟨b + 6, 0, none⟩) 2 2] 26, .cells #[.int .i64 3, .int .i64 0, .int .i64 0, .int .i64 5, .int .i64 0, .int .i64 0, .int .i64 0, .int .i64 0, .int .i64 0] 68, .cells #[.int .i64 4, .int .i64 0, .int .i64 0, .int .i64 3, .int .i64 0, .int .i64 1, .int .i64 9, .int .i64 0, .int .i64 0, .int .i64 28, .int .i64 0, .int .i64 0, .int .i64 1, .int .i64 0, .int .i64 0, .int .i64 28, .int .i64 0, .int .i64 0, .int .i64 0, .int .i64 0, .int .i64 0] 68, .cells #[.int .i64 0, .slice (some ⟨b + 4, 0, none⟩) 3 3, .int .i64 2, .slice (some ⟨b + 5, 0, none⟩) 7 7] 71, .cells #[.bool true, .int .i64 10] 73, .cells #[.bool true, .int .i64 20] 73, .cells #[.slice (some ⟨b + 7, 0, none⟩) 1 1, .slice (some ⟨b + 8, 0, none⟩) 1 1] 47]
theorem i64_sm (z : Int) (h0 : -100 ≤ z) (h1 : z ≤ 100) : i64 z := by
  unfold i64
  simp [Lit.wf, IntKind.min, IntKind.max, IntKind.bits, IntKind.signed]
  omega
theorem hd_sm (b n : Nat) (h : n ≤ 100) : Hd (some ⟨b, 0, none⟩) n n := ⟨(fun e => by cases e), Nat.le_refl _, by unfold maxLen; omega⟩
theorem c0_cell (k : Nat) (hk : k < 3) (j : Nat) (hj : j < 3) : (#[.int .i64 3, .int .i64 0, .int .i64 0, .int .i64 5, .int .i64 0, .int .i64 0, .int .i64 0, .int .i64 0, .int .i64 0] : Array Value)[k * 3 + j]? = some ((icell (pfC0.getD k default)).getD j default) := by
  rcases (show k = 0 ∨ k = 1 ∨ k = 2 by omega) with rfl | rfl | rfl <;> rcases (show j = 0 ∨ j = 1 ∨ j = 2 by omega) with rfl | rfl | rfl <;> rfl
theorem c1_cell (k : Nat) (hk : k < 7) (j : Nat) (hj : j < 3) : (#[.int .i64 4, .int .i64 0, .int .i64 0, .int .i64 3, .int .i64 0, .int .i64 1, .int .i64 9, .int .i64 0, .int .i64 0, .int .i64 28, .int .i64 0, .int .i64 0, .int .i64 1, .int .i64 0, .int .i64 0, .int .i64 28, .int .i64 0, .int .i64 0, .int .i64 0, .int .i64 0, .int .i64 0] : Array Value)[k * 3 + j]? = some ((icell (pfC1.getD k default)).getD j default) := by
  rcases (show k = 0 ∨ k = 1 ∨ k = 2 ∨ k = 3 ∨ k = 4 ∨ k = 5 ∨ k = 6 by omega) with rfl | rfl | rfl | rfl | rfl | rfl | rfl <;> rcases (show j = 0 ∨ j = 1 ∨ j = 2 by omega) with rfl | rfl | rfl <;> rfl
theorem pf_pv (w : World) : PV (allocs w (pfO w.heap.size)) (pfP w.heap.size) ∧ RL (allocs w (pfO w.heap.size)) (some ⟨w.heap.size + 9, 0, none⟩) 2 (pfR w.heap.size) := by
  obtain ⟨_, _, h⟩ := allocs_all (pfO w.heap.size) w
  have b0 : BkP (allocs w (pfO w.heap.size)) w.heap.size _ _ := h 0 (by simp [pfO])
  have b1 : BkP (allocs w (pfO w.heap.size)) (w.heap.size + 1) _ _ := h 1 (by simp [pfO])
  have b2 : BkP (allocs w (pfO w.heap.size)) (w.heap.size + 2) _ _ := h 2 (by simp [pfO])
  have b4 : BkP (allocs w (pfO w.heap.size)) (w.heap.size + 4) _ _ := h 4 (by simp [pfO])
  have b5 : BkP (allocs w (pfO w.heap.size)) (w.heap.size + 5) _ _ := h 5 (by simp [pfO])
  have b6 : BkP (allocs w (pfO w.heap.size)) (w.heap.size + 6) _ _ := h 6 (by simp [pfO])
  have b7 : BkP (allocs w (pfO w.heap.size)) (w.heap.size + 7) _ _ := h 7 (by simp [pfO])
  have b8 : BkP (allocs w (pfO w.heap.size)) (w.heap.size + 8) _ _ := h 8 (by simp [pfO])
  have b9 : BkP (allocs w (pfO w.heap.size)) (w.heap.size + 9) _ _ := h 9 (by simp [pfO])
  refine ⟨⟨⟨hd_sm _ _ (of_decide_eq_true rfl), rfl, of_decide_eq_true rfl, ?_, .inr ⟨_, 0, rfl, b0.lt, ?_⟩⟩, ⟨hd_sm _ _ (of_decide_eq_true rfl), rfl, of_decide_eq_true rfl, ?_, .inr ⟨_, 0, rfl, b1.lt, ?_⟩⟩, ⟨hd_sm _ _ (of_decide_eq_true rfl), rfl, of_decide_eq_true rfl, ?_, .inr ⟨_, 0, rfl, b2.lt, ?_⟩⟩, i64_sm _ (of_decide_eq_true rfl) (of_decide_eq_true rfl), i64_sm _ (of_decide_eq_true rfl) (of_decide_eq_true rfl), i64_sm _ (of_decide_eq_true rfl) (of_decide_eq_true rfl), i64_sm _ (of_decide_eq_true rfl) (of_decide_eq_true rfl), ⟨hd_sm _ _ (of_decide_eq_true rfl), rfl, of_decide_eq_true rfl, ?_, .inr ⟨_, 0, rfl, b6.lt, ?_⟩⟩⟩, ⟨rfl, by omega, ?_, .inr ⟨_, 0, rfl, b9.lt, ?_⟩⟩⟩
  · intro s hs
    rcases List.mem_singleton.1 hs with rfl
    exact of_decide_eq_true rfl
  · intro i hi j hj
    obtain rfl : i = 0 := by simp [pfP] at hi; exact hi
    obtain rfl : j = 0 := by omega
    rw [b0.cell]; rfl
  · intro s hs
    rcases List.mem_singleton.1 hs with rfl
    exact of_decide_eq_true rfl
  · intro i hi j hj
    obtain rfl : i = 0 := by simp [pfP] at hi; exact hi
    obtain rfl : j = 0 := by omega
    rw [b1.cell]; rfl
  · intro s hs
    rcases List.mem_singleton.1 hs with rfl
    exact i64_sm _ (of_decide_eq_true rfl) (of_decide_eq_true rfl)
  · intro i hi j hj
    obtain rfl : i = 0 := by simp [pfP] at hi; exact hi
    obtain rfl : j = 0 := by omega
    rw [b2.cell]; rfl
  · intro s hs
    simp only [pfP, List.mem_cons, List.not_mem_nil, or_false] at hs
    rcases hs with rfl | rfl
    · refine ⟨i64_sm _ (of_decide_eq_true rfl) (of_decide_eq_true rfl), hd_sm _ _ (of_decide_eq_true rfl), rfl, of_decide_eq_true rfl, ?_, .inr ⟨_, 0, rfl, b4.lt, ?_⟩⟩
      · intro i hi
        simp [pfC0] at hi
        rcases hi with rfl | rfl | rfl <;> exact ⟨i64_sm _ (of_decide_eq_true rfl) (of_decide_eq_true rfl), i64_sm _ (of_decide_eq_true rfl) (of_decide_eq_true rfl), i64_sm _ (of_decide_eq_true rfl) (of_decide_eq_true rfl)⟩
      · intro i hi j hj
        rw [b4.cell, Nat.zero_add]
        exact c0_cell i hi j hj
    · refine ⟨i64_sm _ (of_decide_eq_true rfl) (of_decide_eq_true rfl), hd_sm _ _ (of_decide_eq_true rfl), rfl, of_decide_eq_true rfl, ?_, .inr ⟨_, 0, rfl, b5.lt, ?_⟩⟩
      · intro i hi
        simp [pfC1] at hi
        rcases hi with rfl | rfl | rfl | rfl | rfl | rfl | rfl <;> exact ⟨i64_sm _ (of_decide_eq_true rfl) (of_decide_eq_true rfl), i64_sm _ (of_decide_eq_true rfl) (of_decide_eq_true rfl), i64_sm _ (of_decide_eq_true rfl) (of_decide_eq_true rfl)⟩
      · intro i hi j hj
        rw [b5.cell, Nat.zero_add]
        exact c1_cell i hi j hj
  · intro i hi j hj
    have hi : i < 2 := hi
    rcases (show i = 0 ∨ i = 1 by omega) with rfl | rfl <;> rcases (show j = 0 ∨ j = 1 by omega) with rfl | rfl <;> (rw [b6.cell]; rfl)
  · intro r hr
    simp only [pfR, List.mem_cons, List.not_mem_nil, or_false] at hr
    rcases hr with rfl | rfl
    · refine ⟨⟨rfl, of_decide_eq_true rfl, ?_, .inr ⟨_, 0, rfl, b7.lt, fun i hi => ?_⟩⟩, fun z => (by cases z), Nat.le_refl _, (by unfold maxLen; exact of_decide_eq_true rfl)⟩
      · intro c hc
        rcases List.mem_singleton.1 hc with rfl
        rfl
      · obtain rfl : i = 0 := by have hi : i < 1 := hi; omega
        exact ⟨by rw [b7.cell]; rfl, by rw [b7.cell]; rfl⟩
    · refine ⟨⟨rfl, of_decide_eq_true rfl, ?_, .inr ⟨_, 0, rfl, b8.lt, fun i hi => ?_⟩⟩, fun z => (by cases z), Nat.le_refl _, (by unfold maxLen; exact of_decide_eq_true rfl)⟩
      · intro c hc
        rcases List.mem_singleton.1 hc with rfl
        rfl
      · obtain rfl : i = 0 := by have hi : i < 1 := hi; omega
        exact ⟨by rw [b8.cell]; rfl, by rw [b8.cell]; rfl⟩
  · intro i hi
    rcases (show i = 0 ∨ i = 1 by omega) with rfl | rfl <;> (rw [b9.cell]; rfl)
theorem pf_can (b : Nat) : canP (pfP b) := by
  refine ⟨by rfl, ⟨of_decide_eq_true rfl, by rfl, fun i hi => ?_, of_decide_eq_true rfl, by rfl, fun i hi => ?_, of_decide_eq_true rfl, fun i hi => ?_⟩, ⟨fun i hi => ?_, of_decide_eq_true rfl⟩, ⟨fun i hi => ?_, by rfl⟩⟩
  · simp [pfP] at hi
  · simp [pfP] at hi
  · simp [pfP] at hi
  · have hi : i < 2 := hi
    rcases (show i = 0 ∨ i = 1 by omega) with rfl | rfl
    · exact ⟨of_decide_eq_true rfl, of_decide_eq_true rfl⟩
    · exact ⟨of_decide_eq_true rfl, of_decide_eq_true rfl⟩
  · have hi : i < 2 := hi
    rcases (show i = 0 ∨ i = 1 by omega) with rfl | rfl
    · refine ⟨of_decide_eq_true rfl, fun n hn => ?_⟩
      have hn : n < 3 := hn
      rcases (show n = 0 ∨ n = 1 ∨ n = 2 by omega) with rfl | rfl | rfl
      all_goals
        unfold insI inB In.okP
        simp [pfP, pfC0, baA, bbA, baL, bbL]
    · refine ⟨of_decide_eq_true rfl, fun n hn => ?_⟩
      have hn : n < 7 := hn
      rcases (show n = 0 ∨ n = 1 ∨ n = 2 ∨ n = 3 ∨ n = 4 ∨ n = 5 ∨ n = 6 by omega) with rfl | rfl | rfl | rfl | rfl | rfl | rfl
      all_goals
        unfold insI inB In.okP
        simp [pfP, pfC1, baA, bbA, baL, bbL]
set_option maxRecDepth 100000 in
theorem pf_vfy (b : Nat) : vfyA (pfP b) = (0, 0, 0, ⟨2, 10, 1, 0, 1⟩) := by
  unfold vfyA
  rw [if_pos (pf_can b)]
  have e1 : vAll (pfP b).days 2 = (0, 1, 6, ⟨2, 10, 1, 0, 1⟩) := by kernel_rfl
  have e2 : (pfP b).days.length = 2 := rfl
  unfold vfy
  rw [e2, e1, if_neg (by simp), if_pos ⟨rfl, rfl, rfl⟩]
set_option maxRecDepth 100000 in
theorem pf_run (b : Nat) : (runMs (pfP b) 1 (rowsF (pfR b)) 3 (pfP b).born).1.fault = 0 ∧ (runMs (pfP b) 1 (rowsF (pfR b)) 3 (pfP b).born).1.day = 0 ∧ (runMs (pfP b) 1 (rowsF (pfR b)) 3 (pfP b).born).2 = [⟨2, ⟨#[69, 85, 82]⟩, 30⟩, ⟨2, ⟨#[69, 85, 82]⟩, 5⟩] := ⟨by kernel_rfl, by kernel_rfl, by kernel_rfl⟩
set_option maxRecDepth 100000 in
set_option maxHeartbeats 3200000 in
theorem plain15_any {w : World} (hR : Rws w) (hU : Rul w) : Calls Tryz.prog 9 #[] w fun e w' => e = .returned (.bool true) ∧ Below w.heap.size w w' := by
  obtain ⟨_, bA, _⟩ := allocs_all (pfO w.heap.size) w
  obtain ⟨pv, rl⟩ := pf_pv w
  have vf := pf_vfy w.heap.size
  obtain ⟨r1, r2, r3⟩ := pf_run w.heap.size
  have KR := Lib.hid (p := Calls Tryz.prog 10 #[(pfP w.heap.size).agg, .slice (some ⟨w.heap.size + 9, 0, none⟩) 2 2] (allocs w (pfO w.heap.size)) fun e w' => ∃ fa fc, e = .returned (.tuple #[.agg #[.slice fa 2 fc, .int .i64 0, .int .i64 0], .int .i64 0]) ∧ RowKit.Hid (FLm w' fa 2 [⟨2, ⟨#[69, 85, 82]⟩, 30⟩, ⟨2, ⟨#[69, 85, 82]⟩, 5⟩] ∧ Below w.heap.size w w')) ((run_any (rc := 2) pv (hR.below bA) (hU.lat bA) rl).mono (fun e w' q => by
    obtain ⟨fa, fn, fc, rfl, o⟩ := q.ok (by rw [vf])
    have e0 : (vfyA (pfP w.heap.size)).2.2.2.back = 1 := by rw [vf]
    have e1 : ((pfP w.heap.size).hor + 1).toNat = 3 := rfl
    rw [e0, e1, r3] at o
    rw [e0, e1, r1, r2]
    have f := owf_fl o
    have fl : fn = 2 := f.1.symm
    subst fl
    exact ⟨fa, fc, rfl, f, bA.trans (q.bel.mono bA.size)⟩))
  have KN := Lib.hid (fun e W => num15_any e W)
  have KS := Lib.hid (p := ∀ V w1 fa fc, Below w1.heap.size w1 V → FLm w1 fa 2 [⟨2, ⟨#[69, 85, 82]⟩, 30⟩, ⟨2, ⟨#[69, 85, 82]⟩, 5⟩] → Calls Tryz.prog 18 #[.slice fa 2 fc, .slice (some ⟨V.heap.size, 0, none⟩) 2 2] (V.alloc (.cells #[.int .i64 2, .string ⟨#[69, 85, 82]⟩, .int .i64 30, .int .i64 2, .string ⟨#[69, 85, 82]⟩, .int .i64 5] 54)) fun e w' => e = .returned (.bool true) ∧ Below (V.alloc (.cells #[.int .i64 2, .string ⟨#[69, 85, 82]⟩, .int .i64 30, .int .i64 2, .string ⟨#[69, 85, 82]⟩, .int .i64 5] 54)).heap.size (V.alloc (.cells #[.int .i64 2, .string ⟨#[69, 85, 82]⟩, .int .i64 30, .int .i64 2, .string ⟨#[69, 85, 82]⟩, .int .i64 5] 54)) w') (fun V w1 fa fc b f => by
    have al := allocBP V (.cells #[.int .i64 2, .string ⟨#[69, 85, 82]⟩, .int .i64 30, .int .i64 2, .string ⟨#[69, 85, 82]⟩, .int .i64 5] 54)
    have bk : BkP (V.alloc (.cells #[.int .i64 2, .string ⟨#[69, 85, 82]⟩, .int .i64 30, .int .i64 2, .string ⟨#[69, 85, 82]⟩, .int .i64 5] 54)) V.heap.size #[.int .i64 2, .string ⟨#[69, 85, 82]⟩, .int .i64 30, .int .i64 2, .string ⟨#[69, 85, 82]⟩, .int .i64 5] 54 := heapN _ _
    refine sameFl_any fa (some ⟨V.heap.size, 0, none⟩) 2 fc 2 _ _ ((f.later b).later al) ⟨rfl, .inr ⟨V.heap.size, 0, rfl, bk.lt, fun i hi => ?_⟩⟩ (by omega)
    rcases (show i = 0 ∨ i = 1 by omega) with rfl | rfl
    · exact ⟨by rw [bk.cell]; rfl, by rw [bk.cell]; rfl, by rw [bk.cell]; rfl⟩
    · exact ⟨by rw [bk.cell]; rfl, by rw [bk.cell]; rfl, by rw [bk.cell]; rfl⟩)
  clear pv rl vf r1 r2 r3 hR hU bA
  go_enter Tryz.func9, Tryz.ntmps9
  go_wp2_with fail
  go_at_call 10
  refine KR.out.mono ?_
  rintro e w1 ⟨fa, fc, rfl, hq⟩
  obtain ⟨f1, b1⟩ := hq.out
  obtain ⟨W2, hW2⟩ : ∃ W, w1.alloc (.cells #[.slice fa 2 fc, .int .i64 0, .int .i64 0] 32) = W := ⟨_, rfl⟩
  have k1 : BkP W2 w1.heap.size #[.slice fa 2 fc, .int .i64 0, .int .i64 0] 32 := by rw [← hW2]; exact heapN _ _
  have bw2 : Below w1.heap.size w1 W2 := by rw [← hW2]; exact allocBP _ _
  have KS2 := Lib.hid (KS.out W2 w1 fa fc bw2 f1)
  have CL := Lib.hid (p := ∀ V, Below W2.heap.size W2 V → V.cell? ⟨w1.heap.size, 0, none⟩ = some (.slice fa 2 fc) ∧ V.cell? ⟨w1.heap.size, 1, none⟩ = some (.int .i64 0) ∧ Below w.heap.size w V) (fun V b => ⟨by rw [(k1.lat b).cell]; rfl, by rw [(k1.lat b).cell]; rfl, (b1.trans (bw2.mono b1.size)).trans (b.mono (b1.trans (bw2.mono b1.size)).size)⟩)
  obtain ⟨x0, _, _⟩ := CL.out _ (allocBP W2 (.cells #[.int .i64 2, .string ⟨#[69, 85, 82]⟩, .int .i64 30, .int .i64 2, .string ⟨#[69, 85, 82]⟩, .int .i64 5] 54))
  have HW := Lib.hid hW2
  clear hW2 f1 b1 k1 bw2 hq KR KS
  go_upto_region 4 with fail
  rw [HW.out]
  go_wp2_with (first
    | (go_at_call 18; refine KS2.out.mono ?_; rintro e w5 ⟨rfl, b5⟩; obtain ⟨y0, y1, b6⟩ := CL.out w5 ((allocBP W2 _).trans (b5.mono (allocBP W2 _).size)); have B6 := Lib.hid b6; clear b5 b6)
    | (go_at_call 14; refine (KN.out 0 _).mono ?_; rintro e w6 ⟨rfl, rfl⟩))
  go_ret
  exact ⟨rfl, B6.out⟩
end Go.Proofs.YtpfjnnkjoabgbaaGreatDoor

namespace Go.Proofs.YtpfjnnkjoabgbaaGreatDoor
open Go.RowKit
set_option linter.unusedVariables false
set_option linter.unusedSimpArgs false
def rwV (rs : List Rw) (i : Nat) : List Value := [.slice (rs.getD i default).a (rs.getD i default).n (rs.getD i default).cap]
/-- A row that lies in memory. -/
def RwOk (W : World) (r : Rw) : Prop := RwV W (.slice r.a r.n r.cap) r.cs ∧ r.cs.length = r.n ∧ r.n ≤ 8796093021952 ∧ (∀ c ∈ r.cs, (Lit.int .i64 c.v).wf = true) ∧ (r.a = none → r.n = 0 ∧ r.cap = 0) ∧ r.n ≤ r.cap ∧ r.cap ≤ maxLen
theorem RwOk.keep {W W' : World} {r : Rw} {S : Nat → Prop} (h : RwOk W r) (k : Kp W W' S) (ht : ∀ y cur fr, S y → W.heap[y]? ≠ some (.cells cur 73 fr)) : RwOk W' r := ⟨h.1.keep k ht, h.2⟩
theorem RwOk.rc {W : World} {r : Rw} (h : RwOk W r) : RC W r.a r.n r.cs := by
  obtain ⟨⟨a, z, e, q⟩, h2, h3, h4, _⟩ := h
  injection e with e1 e2 e3
  subst e1 e3
  refine ⟨h2, h3, h4, ?_⟩
  rcases q with q | ⟨y, u, cur, fr, e, hy, c⟩
  · left; rw [← h2, q]; rfl
  · exact .inr ⟨y, u, e, (Array.getElem?_eq_some_iff.1 hy).1, fun i hi => c i (by omega)⟩
/-- Rows that are laid one behind the other in a list of one's own. -/
structure MxS (w : World) (rs : List Rw) (ma : Option Addr) (k mc : Nat) (W : World) : Prop where
  bel : Below w.heap.size w W
  own : OwL W w.heap.size 47 1 ma k mc (rwV rs)
  len : rs.length = k
  rows : ∀ r ∈ rs, RwOk W r
theorem MxS.lat {w : World} {rs : List Rw} {ma : Option Addr} {k mc : Nat} {W W' : World} (h : MxS w rs ma k mc W) (b : Below W.heap.size W W') : MxS w rs ma k mc W' := ⟨h.bel.trans (b.mono h.bel.size), h.own.lat b, h.len, fun r hr => (h.rows r hr).keep (Kp.below b (fun _ => False)) (fun _ _ _ z => z.elim)⟩
theorem MxS.rl {w : World} {rs : List Rw} {ma : Option Addr} {k mc : Nat} {W : World} (h : MxS w rs ma k mc W) (hk : k ≤ 5864062014635) : RL W ma k rs := by
  refine ⟨h.len, hk, fun r hr => ⟨(h.rows r hr).rc, (h.rows r hr).2.2.2.2⟩, ?_⟩
  rcases (h.own.list (by omega) (fun _ => rfl)).2 W (fun _ _ => rfl) with z | ⟨b, o, e, hb, c⟩
  · exact .inl z
  · refine .inr ⟨b, o, e, hb, fun i hi => ?_⟩
    have := c i hi 0 (by omega)
    rw [Nat.mul_one, Nat.add_zero] at this
    exact this
theorem MxS.next {w : World} {rs : List Rw} {ma : Option Addr} {k mc : Nat} {W : World} (h : MxS w rs ma k mc W) (hk : k + 1 ≤ 5864062014635) {r : Rw} (hr : RwOk W r) : ∃ ma2 mc2 w3, (∀ ty, (Builtin.append_ #[27, 27] ty #[.slice ma k mc, .slice (some ⟨W.heap.size, 0, none⟩) 1 1]).run Tryz.prog (W.alloc (.cells #[.slice r.a r.n r.cap] 47)) = .ok (.slice ma2 (k + 1) mc2) w3) ∧ RowKit.Hid (MxS w (rs ++ [r]) ma2 (k + 1) mc2 w3 ∧ Kp W w3 (fun y => Value.ownBlock (.slice ma k mc) = some y) ∧ (Value.ownBlock (.slice ma2 (k + 1) mc2) = Value.ownBlock (.slice ma k mc) ∨ ∃ y, Value.ownBlock (.slice ma2 (k + 1) mc2) = some y ∧ W.heap.size ≤ y)) := by
  have al := allocBP W (.cells #[.slice r.a r.n r.cap] 47)
  have h1 := h.lat al
  obtain ⟨i0, hi, hz0, hz1, hz2⟩ := info_parts infoRw
  obtain ⟨ma2, mc2, w3, r3, o3, g3, pl⟩ := run_rowapp (V := fun _ => [.slice r.a r.n r.cap]) Tryz.underlying27 hi hz0 hz1 hz2 rfl (by omega) h1.own (a := some ⟨W.heap.size, 0, none⟩) (n := 1) (c := 1) ⟨fun z => (by cases z), Nat.le_refl _, by unfold maxLen; omega⟩ (.inr ⟨W.heap.size, 0, rfl, by simp, fun i hi j hj => by
    have i0 : i = 0 := by omega
    have j0 : j = 0 := by omega
    subst i0 j0
    have bk : BkP (W.alloc (.cells #[.slice r.a r.n r.cap] 47)) W.heap.size #[.slice r.a r.n r.cap] 47 := heapN W _
    rw [bk.cell]
    rfl⟩) (fun _ => rfl) (fun i u hu => by simp at hu; rw [hu]; rfl) (by unfold maxLen; omega) (by omega) h1.bel.size
  have kp : Kp (W.alloc (.cells #[.slice r.a r.n r.cap] 47)) w3 (fun y => Value.ownBlock (.slice ma k mc) = some y) := ⟨g3.os, g3.tape, g3.output, g3.size, fun y hy hn => g3.block y hy (fun z => hn z.symm)⟩
  have fb : ∀ y, Value.ownBlock (.slice ma k mc) = some y → w.heap.size ≤ y ∧ ∃ c f, (W.alloc (.cells #[.slice r.a r.n r.cap] 47)).heap[y]? = some (.cells c 47 f) := by
    intro y hy
    refine ⟨(World.ownsRow.lt h1.own y hy).1, ?_⟩
    rcases h1.own.2 with ⟨z, _⟩ | ⟨g2, cap, cur, z, _, e3, _⟩
    · rw [z] at hy; cases hy
    · rw [z] at hy
      simp only [Value.ownBlock, Option.some.injEq] at hy
      subst hy
      exact ⟨cur, _, e3⟩
  have nt : ∀ (y : Nat) (c : Array Value) (fr : Nat × Nat), Value.ownBlock (.slice ma k mc) = some y → (W.alloc (.cells #[.slice r.a r.n r.cap] 47)).heap[y]? ≠ some (.cells c 73 fr) := by
    intro y c fr hy z
    obtain ⟨_, c2, f, e⟩ := fb y hy
    have := e.symm.trans z
    injection this with this
    injection this with _ q
    exact absurd q (by decide)
  refine ⟨ma2, mc2, w3, r3, ⟨h1.bel.trans (kp.bel (fun y hy => (fb y hy).1) h1.bel.size), ?_, by simp [h.len], ?_⟩, (Kp.below al _).trans kp (fun _ _ z => z), by rcases pl with z | z; exact .inl z; exact .inr ⟨_, z, by simp⟩⟩
  · unfold OwL
    have gl : ∀ i, i < k → (rs ++ [r]).getD i default = rs.getD i default := fun i hi => getD_snoc_lt (by rw [h.len]; exact hi)
    have gk : (rs ++ [r]).getD k default = r := by rw [← h.len]; exact getD_snoc_eq
    have e1 := flatV_snoc (rwV rs) (rwV (rs ++ [r])) k (fun i hi => by unfold rwV; rw [gl i hi])
    have e2 : rwV (rs ++ [r]) k = flatV 1 (fun _ => [Value.slice r.a r.n r.cap]) := by
      unfold rwV
      rw [gk]
      rfl
    rw [e2] at e1
    rw [← e1]
    exact o3
  · intro x hx
    simp at hx
    rcases hx with hx | rfl
    · exact (h1.rows x hx).keep kp nt
    · exact (hr.keep (Kp.below al (fun _ => False)) (fun _ _ _ z => z.elim)).keep kp nt
end Go.Proofs.YtpfjnnkjoabgbaaGreatDoor
