/-
  WALK: left.
-/
import Derived.Test.YtlcidigcecmnpaaDoorWAs4
import Derived.Test.YtlcidigcecmnpaaDoorWAs2
namespace Go.Proofs.YtlcidigcecmnpaaDoor
open Go.RowKit
set_option linter.unusedVariables false
set_option linter.unusedSimpArgs false
theorem marks2 {W : World} {a : Option Addr} {c n : Nat} {l : List Sg} (h : CpW W a c n 38 2 (sgsP l ++ s77.cs ++ s77.cs)) (hl : l.length = n) : ∃ g, a = some ⟨g, 0, none⟩ ∧ g < W.heap.size ∧ n + 2 ≤ c ∧ W.cell? ⟨g, n * 2, none⟩ = some (.int .i64 (-77)) ∧ W.cell? ⟨g, (n + 1) * 2, none⟩ = some (.int .i64 (-77)) := by
  obtain ⟨g, B, rfl, h⟩ := h
  have hc := own_capP h
  have el : (sgsP l).length = n * 2 := by rw [sgsP_len, hl]
  rw [List.append_assoc] at h
  refine ⟨g, rfl, hc.2.2, hc.1, own_cellsP h _ _ ?_, own_cellsP h _ _ ?_⟩
  · rw [List.getElem?_append_right (by omega), el, Nat.sub_self]; rfl
  · rw [List.getElem?_append_right (by omega), el, show (n + 1) * 2 - n * 2 = 2 by omega]; rfl
theorem marks3 {W : World} {a : Option Addr} {c n : Nat} {l : List In} (h : CpW W a c n 28 3 (icsP l ++ icell i77 ++ icell i77)) (hl : l.length = n) : ∃ g, a = some ⟨g, 0, none⟩ ∧ g < W.heap.size ∧ n + 2 ≤ c ∧ W.cell? ⟨g, n * 3, none⟩ = some (.int .i64 (-77)) ∧ W.cell? ⟨g, (n + 1) * 3, none⟩ = some (.int .i64 (-77)) := by
  obtain ⟨g, B, rfl, h⟩ := h
  have hc := own_capP h
  have el : (icsP l).length = n * 3 := by rw [icsP_len, hl]
  rw [List.append_assoc] at h
  refine ⟨g, rfl, hc.2.2, hc.1, own_cellsP h _ _ ?_, own_cellsP h _ _ ?_⟩
  · rw [List.getElem?_append_right (by omega), el, Nat.sub_self]; rfl
  · rw [List.getElem?_append_right (by omega), el, show (n + 1) * 3 - n * 3 = 3 by omega]; rfl
set_option maxRecDepth 100000 in
set_option maxHeartbeats 40000000 in
theorem left_any {w0 w : World} {p q : Pg} (hp : PV w0 p) (h : CpE w p q) :
    Calls Tryd.prog 8 #[q.agg] w fun e w' => e = .returned (.bool true) ∧ Below w.heap.size w w' := by
  have hq := h.pv hp
  have X0 := heapN w (.cells q.arr 26)
  have B0 := Lib.hid (allocBP w (.cells q.arr 26))
  have MC := Lib.hid h.mc
  have DR := Lib.hid hq.days
  obtain ⟨gn, en, ln, bn, n0, n1⟩ := marks1 h.mn (by simp [strsP])
  obtain ⟨gu, eu, lu, bu, u0, u1⟩ := marks1 h.mu (by simp [strsP])
  obtain ⟨gp, ep, lp, bp, p0, p1⟩ := marks1 h.mp (by simp [intsP])
  obtain ⟨gd, ed, ld, bd, d0, d1⟩ := marks2 h.md rfl
  have sn := hq.names.2.2.1
  have su := hq.curs.2.2.1
  have sp := hq.pool.2.2.1
  have sd := hq.days.2.2.1
  clear hq h hp
  obtain ⟨na, nc, names, ua, uc, curs, pa, pc, pool, hor, cells, slots, stack, da, dc, days⟩ := q
  unfold Pg.agg
  unfold Pg.arr at X0 B0
  simp only at *
  subst en eu ep ed
  generalize hn : names.length = nn at *
  generalize hu : curs.length = nu at *
  generalize hpl : pool.length = np at *
  generalize hd : days.length = nd at *
  have HDL := Lib.hid hd
  clear hn hu hpl hd
  obtain ⟨x0, x1, x2, x3, x4, x5, x6, x7⟩ := box_all813 X0
  generalize hW0 : w.alloc _ = W0 at *
  have n0' := (B0.out.cell (p := ⟨gn, nn, none⟩) ln).trans n0
  have n1' := (B0.out.cell (p := ⟨gn, nn + 1, none⟩) ln).trans n1
  have u0' := (B0.out.cell (p := ⟨gu, nu, none⟩) lu).trans u0
  have u1' := (B0.out.cell (p := ⟨gu, nu + 1, none⟩) lu).trans u1
  have p0' := (B0.out.cell (p := ⟨gp, np, none⟩) lp).trans p0
  have p1' := (B0.out.cell (p := ⟨gp, np + 1, none⟩) lp).trans p1
  have d0' := (B0.out.cell (p := ⟨gd, nd * 2, none⟩) ld).trans d0
  have d1' := (B0.out.cell (p := ⟨gd, (nd + 1) * 2, none⟩) ld).trans d1
  unfold mkV at n0' n1' u0' u1'
  unfold m77 at p0' p1'
  clear n0 n1 u0 u1 p0 p1 d0 d1 X0
  have wn : IntKind.i64.wrap ((nn : Int) + 2) = ((nn + 2 : Nat) : Int) := by simp [IntKind.wrap, IntKind.bits, IntKind.signed]; omega
  have wu : IntKind.i64.wrap ((nu : Int) + 2) = ((nu + 2 : Nat) : Int) := by simp [IntKind.wrap, IntKind.bits, IntKind.signed]; omega
  have wp : IntKind.i64.wrap ((np : Int) + 2) = ((np + 2 : Nat) : Int) := by simp [IntKind.wrap, IntKind.bits, IntKind.signed]; omega
  have wd : IntKind.i64.wrap ((nd : Int) + 2) = ((nd + 2 : Nat) : Int) := by simp [IntKind.wrap, IntKind.bits, IntKind.signed]; omega
  go_enter Tryd.func8, Tryd.ntmps8
  go_wp2
  clear n0' n1' u0' u1' p0' p1' d0' d1' wn wu wp wd x0 x1 x2 x3 x4 x5 x6 hW0
  go_loopw [7] (fun t wr => ∃ k : Nat, k ≤ nd ∧ t = .int .i64 (k : Int) ∧ ∃ z, wr = W0.drewN z) (fun t _ => nd - (intOf t).toNat)
  case atStart => exact ⟨0, by omega, rfl, 0, rfl⟩
  case round =>
    obtain ⟨m, hm, rfl, z, rfl⟩ := hrel
    by_cases hlt : m < nd
    · obtain ⟨x, o, ex, hx, hc⟩ : ∃ x o, (some ⟨gd, 0, none⟩ : Option Addr) = some ⟨x, o, none⟩ ∧ x < w.heap.size ∧ ∀ i, i < nd → ∀ j, j < 2 → w.cell? ⟨x, o + i * 2 + j, none⟩ = some (((days.getD i default).cs).getD j default) := by
        rcases DR.out.2.2.2.2 with q | ⟨b, o, e, h1, h2⟩
        · omega
        · exact ⟨b, o, e, h1, h2⟩
      injection ex with ex
      injection ex with ex1 ex2
      subst ex1 ex2
      have c1 := (B0.out.cell (p := ⟨gd, 0 + m * 2 + 1, none⟩) hx).trans (hc m hlt 1 (by omega))
      obtain ⟨gc, ec, lc, bc, y0, y1⟩ := marks3 (MC.out m hlt) rfl
      have sb := (DR.out.2.2.2.1 _ (sg_mem (i := m) (by rw [HDL.out]; exact hlt))).2.2.2.1
      simp only [Sg.cs, Nat.zero_add, List.getD_cons_zero, List.getD_cons_succ] at c1
      rw [ec] at c1
      have y0' := (B0.out.cell (p := ⟨gc, (days.getD m default).code.length * 3, none⟩) lc).trans y0
      have y1' := (B0.out.cell (p := ⟨gc, ((days.getD m default).code.length + 1) * 3, none⟩) lc).trans y1
      have kc : (m : Int) < (nd : Int) := by omega
      generalize (days.getD m default).code.length = nl at *
      generalize (days.getD m default).cc = cl at *
      have wl : IntKind.i64.wrap ((nl : Int) + 2) = ((nl + 2 : Nat) : Int) := by simp [IntKind.wrap, IntKind.bits, IntKind.signed]; omega
      clear hc y0 y1 ec hx
      go_wp2
      go_quiet (fail)
      go_wp2
      go_roundw
      case rel => exact ⟨m + 1, by omega, by go_num, _, by first | rfl | simp only [World.drewN_drewN]⟩
      case measure => simp [intOf]; omega
    · obtain rfl : m = nd := by omega
      go_wp2
      go_ret
      exact ⟨rfl, B0.out.trans ((drewBP _ _).mono B0.out.size)⟩
end Go.Proofs.YtlcidigcecmnpaaDoor
