import Derived.Test.YtpfjnnkjoabgbaaGreatDoorXBR
namespace Go.Proofs.YtpfjnnkjoabgbaaGreatDoor
open Go.RowKit
set_option linter.unusedVariables false
set_option linter.unusedSimpArgs false
def TknE (w : World) (p : Pg) (e : Ending) (w' : World) : Prop := e = .returned (.tuple #[.agg #[.int .i64 (vfyA p).2.2.2.stack, .int .i64 (vfyA p).2.2.2.fuel, .int .i64 (vfyA p).2.2.2.back], .bool (decide ((vfyA p).1 = 0))]) ∧ Below w.heap.size w w'
set_option maxRecDepth 100000 in
set_option maxHeartbeats 3200000 in
theorem taken_any {w : World} {p : Pg} (h : PV w p) (hR : Rws w) (hU : Rul w) : Calls Tryz.prog 13 #[p.agg] w fun e w' => TknE w p e w' := by
  obtain ⟨W0, hW0⟩ : ∃ W, (w.alloc p.box).alloc (.cells #[.int .i64 0, .int .i64 0, .int .i64 0] 41) = W := ⟨_, rfl⟩
  have B0 : Below w.heap.size w W0 := by rw [← hW0]; exact (allocBP w p.box).trans ((allocBP (w.alloc p.box) _).mono (by simp))
  have Z0 : BkP W0 (w.heap.size + 1) #[.int .i64 0, .int .i64 0, .int .i64 0] 41 := by
    rw [← hW0]
    have := heapN (w.alloc p.box) (.cells #[.int .i64 0, .int .i64 0, .int .i64 0] 41)
    rw [show (w.alloc p.box).heap.size = w.heap.size + 1 by simp] at this
    exact this
  have P0 : BkP W0 w.heap.size #[.slice p.na p.names.length p.nc, .slice p.ua p.curs.length p.uc, .slice p.pa p.pool.length p.pc, .int .i64 p.hor, .int .i64 p.cells, .int .i64 p.slots, .int .i64 p.stack, .slice p.da p.days.length p.dc] 26 := by rw [← hW0]; exact BkP.lat (heapN w p.box) (allocBP _ _)
  obtain ⟨a0, a1, a2, a3, a4, a5, a6, a7⟩ := box_all8 P0
  have KO := Lib.hid (p := Calls Tryz.prog 11 #[p.agg] W0 fun e w' => ∃ p' : Pg, e = .returned (.agg #[.slice p'.na p'.names.length p'.nc, .slice p'.ua p'.curs.length p'.uc, .slice p'.pa p'.pool.length p'.pc, .int .i64 p'.hor, .int .i64 p'.cells, .int .i64 p'.slots, .int .i64 p'.stack, .slice p'.da p'.days.length p'.dc]) ∧ RowKit.Hid (Calls Tryz.prog 26 #[.agg #[.slice p'.na p'.names.length p'.nc, .slice p'.ua p'.curs.length p'.uc, .slice p'.pa p'.pool.length p'.pc, .int .i64 p'.hor, .int .i64 p'.cells, .int .i64 p'.slots, .int .i64 p'.stack, .slice p'.da p'.days.length p'.dc]] w' fun e2 w2 => e2 = .returned (vfV (vfyA p)) ∧ Below W0.heap.size W0 w2)) ((owned_any (h.later B0)).mono (fun e w' ⟨p', h1, h2, h3, h4⟩ => ⟨p', h1, (verify_any (h4 w' (fun _ _ _ => rfl)) (hR.below (B0.trans (h3.mono B0.size))) (hU.lat (B0.trans (h3.mono B0.size)))).mono (fun e2 w2 q => ⟨by rw [q.1, vfyA_keyM h2], h3.trans (q.2.mono h3.size)⟩)⟩))
  have CL := Lib.hid (p := ∀ V, Below W0.heap.size W0 V → BkP V (w.heap.size + 1) #[.int .i64 0, .int .i64 0, .int .i64 0] 41 ∧ Below w.heap.size w V) (fun V b => ⟨Z0.lat b, B0.trans (b.mono B0.size)⟩)
  have KN := Lib.hid (fun e W => num15_any e W)
  have HW := Lib.hid hW0
  clear B0 Z0 P0 h hR hU hW0
  unfold vfV at KO
  have FE := Lib.hid (p := ∀ V, Below w.heap.size w V → TknE w p (.returned (.tuple #[.agg #[.int .i64 (vfyA p).2.2.2.stack, .int .i64 (vfyA p).2.2.2.fuel, .int .i64 (vfyA p).2.2.2.back], .bool (decide ((vfyA p).1 = 0))])) V) (fun V b => ⟨rfl, b⟩)
  generalize (vfyA p).2.2.2.stack = ns at *
  generalize (vfyA p).2.2.2.fuel = nf at *
  generalize (vfyA p).2.2.2.back = nb at *
  generalize (vfyA p).2.1 = n21 at *
  generalize (vfyA p).2.2.1 = n22 at *
  generalize (vfyA p).1 = en at *
  unfold Pg.agg Pg.box at *
  obtain ⟨na, nc, names, ua, uc, curs, pa, pc, pool, hor, cells, slots, stack, da, dc, days⟩ := p
  simp only at *
  go_enter Tryz.func13, Tryz.ntmps13
  go_wp2_with fail
  go_at_call 11
  rw [HW.out]
  refine KO.out.mono ?_
  rintro e w1 ⟨p', rfl, hq⟩
  go_wp2_with fail
  go_at_call 26
  refine hq.out.mono ?_
  rintro e w2 ⟨rfl, b2⟩
  obtain ⟨W3, hW3⟩ : ∃ W, w2.alloc (.cells #[.int .i64 ns, .int .i64 nf, .int .i64 nb] 41) = W := ⟨_, rfl⟩
  have b3 : Below W0.heap.size W0 W3 := by rw [← hW3]; exact b2.trans ((allocBP w2 _).mono b2.size)
  have q3 : BkP W3 w2.heap.size #[.int .i64 ns, .int .i64 nf, .int .i64 nb] 41 := by rw [← hW3]; exact heapN _ _
  obtain ⟨zb, bw⟩ := CL.out W3 b3
  obtain ⟨y0, y1, y2⟩ := box_all3P q3
  obtain ⟨z0, z1, z2⟩ := box_all3P zb
  have f0 := zb.frozen 0
  have f1 := zb.frozen 1
  have f2 := zb.frozen 2
  have BW := Lib.hid bw
  have H3 := Lib.hid hW3
  clear b2 b3 hW3 bw q3 zb
  go_wp2
  rw [H3.out]
  go_region_with (go_at_call 14; refine (KN.out en _).mono ?_; rintro e w4 ⟨rfl, rfl⟩)
  all_goals
    go_wp2
    refine bodyPost_ret (v := .tuple #[.agg #[.int .i64 ns, .int .i64 nf, .int .i64 nb], .bool (decide (en = 0))]) ?r rfl ?s
    case r => simp [results, Tryz.results13, go_sem, z0, z1, z2, f0, f1, f2]; try rfl
    case s => exact FE.out _ (((BW.out.setCell (by exact Nat.le_succ _) _).setCell (by exact Nat.le_succ _) _).setCell (by exact Nat.le_succ _) _ |>.trans (drew1B2 _ _))
end Go.Proofs.YtpfjnnkjoabgbaaGreatDoor

namespace Go.Proofs.YtpfjnnkjoabgbaaGreatDoor
open Go.RowKit
set_option linter.unusedVariables false
set_option linter.unusedSimpArgs false
/-- Many blocks, one behind the other. -/
def allocs (w : World) (l : List Obj) : World := l.foldl World.alloc w
theorem allocs_all : ∀ (l : List Obj) (w : World), (allocs w l).heap.size = w.heap.size + l.length ∧ Below w.heap.size w (allocs w l) ∧ ∀ i, i < l.length → (allocs w l).heap[w.heap.size + i]? = l[i]?
  | [], w => ⟨rfl, Below.refl _ _, fun i hi => by simp at hi⟩
  | o :: l, w => by
    obtain ⟨h1, h2, h3⟩ := allocs_all l (w.alloc o)
    have s1 : (w.alloc o).heap.size = w.heap.size + 1 := by simp
    have e : allocs w (o :: l) = allocs (w.alloc o) l := rfl
    rw [e]
    have a1 := allocBP w o
    refine ⟨by rw [h1, s1]; simp; omega, a1.trans (h2.mono a1.size), fun i hi => ?_⟩
    cases i with
    | zero =>
      rw [Nat.add_zero, h2.block w.heap.size (by omega)]
      exact heapN w o
    | succ i =>
      have := h3 i (by simpa using hi)
      rw [s1] at this
      rw [show w.heap.size + (i + 1) = w.heap.size + 1 + i by omega, this]
      rfl
def pfC0 : List In := [⟨3, 0, 0⟩, ⟨5, 0, 0⟩, ⟨0, 0, 0⟩]
def pfC1 : List In := [⟨4, 0, 0⟩, ⟨3, 0, 1⟩, ⟨9, 0, 0⟩, ⟨28, 0, 0⟩, ⟨1, 0, 0⟩, ⟨28, 0, 0⟩, ⟨0, 0, 0⟩]
def pfP (b : Nat) : Pg := ⟨some ⟨b, 0, none⟩, 1, [⟨#[83]⟩], some ⟨b + 1, 0, none⟩, 1, [⟨#[69, 85, 82]⟩], some ⟨b + 2, 0, none⟩, 1, [5], 2, 1, 0, 2, some ⟨b + 6, 0, none⟩, 2, [⟨0, some ⟨b + 4, 0, none⟩, 3, pfC0⟩, ⟨2, some ⟨b + 5, 0, none⟩, 7, pfC1⟩]⟩
def pfR (b : Nat) : List Rw := [⟨some ⟨b + 7, 0, none⟩, 1, 1, [⟨true, 10⟩]⟩, ⟨some ⟨b + 8, 0, none⟩, 1, 1, [⟨true, 20⟩]⟩]
def pfO (b : Nat) : List Obj := [.cells #[.string ⟨#[83]⟩] 9, .cells #[.string ⟨#[69, 85, 82]⟩] 9, .cells #[.int .i64 5] 3, .cells #[.slice (some ⟨b, 0, none⟩) 1 1, .slice (some ⟨b + 1, 0, none⟩) 1 1, .slice (some ⟨b + 2, 0, none⟩) 1 1, .int .i64 2, .int .i64 1, .int .i64 0, .int .i64 2, .slice (some ⟨b + 6, 0, none⟩) 2 2] 26, .cells #[.int .i64 3, .int .i64 0, .int .i64 0, .int .i64 5, .int .i64 0, .int .i64 0, .int .i64 0, .int .i64 0, .int .i64 0] 68, .cells #[.int .i64 4, .int .i64 0, .int .i64 0, .int .i64 3, .int .i64 0, .int .i64 1, .int .i64 9, .int .i64 0, .int .i64 0, .int .i64 28, .int .i64 0, .int .i64 0, .int .i64 1, .int .i64 0, .int .i64 0, .int .i64 28, .int .i64 0, .int .i64 0, .int .i64 0, .int .i64 0, .int .i64 0] 68, .cells #[.int .i64 0, .slice (some ⟨b + 4, 0, none⟩) 3 3, .int .i64 2, .slice (some ⟨b + 5, 0, none⟩) 7 7] 71, .cells #[.bool true, .int .i64 10] 73, .cells #[.bool true, .int .i64 20] 73, .cells #[.slice (some ⟨b + 7, 0, none⟩) 1 1, .slice (some ⟨b + 8, 0, none⟩) 1 1] 47]
theorem i64_sm (z : Int) (h0 : -100 ≤ z) (h1 : z ≤ 100) : i64 z := by
  unfold i64
  simp [Lit.wf, IntKind.min, IntKind.max, IntKind.bits, IntKind.signed]
  omega
theorem hd_sm (b n : Nat) (h : n ≤ 100) : Hd (some ⟨b, 0, none⟩) n n := ⟨(fun e => by cases e), Nat.le_refl _, by unfold maxLen; omega⟩
theorem c0_cell (k : Nat) (hk : k < 3) (j : Nat) (hj : j < 3) : (#[.int .i64 3, .int .i64 0, .int .i64 0, .int .i64 5, .int .i64 0, .int .i64 0, .int .i64 0, .int .i64 0, .int .i64 0] : Array Value)[k * 3 + j]? = some ((icell (pfC0.getD k default)).getD j default) := by
  rcases (show k = 0 ∨ k = 1 ∨ k = 2 by omega) with rfl | rfl | rfl <;> rcases (show j = 0 ∨ j = 1 ∨ j = 2 by omega) with rfl | rfl | rfl <;> rfl
theorem c1_cell (k : Nat) (hk : k < 7) (j : Nat) (hj : j < 3) : (#[.int .i64 4, .int .i64 0, .int .i64 0, .int .i64 3, .int .i64 0, .int .i64 1, .int .i64 9, .int .i64 0, .int .i64 0, .int .i64 28, .int .i64 0, .int .i64 0, .int .i64 1, .int .i64 0, .int .i64 0, .int .i64 28, .int .i64 0, .int .i64 0, .int .i64 0, .int .i64 0, .int .i64 0] : Array Value)[k * 3 + j]? = some ((icell (pfC1.getD k default)).getD j default) := by
  rcases (show k = 0 ∨ k = 1 ∨ k = 2 ∨ k = 3 ∨ k = 4 ∨ k = 5 ∨ k = 6 by omega) with rfl | rfl | rfl | rfl | rfl | rfl | rfl <;> rcases (show j = 0 ∨ j = 1 ∨ j = 2 by omega) with rfl | rfl | rfl <;> rfl
theorem pf_pv (w : World) : PV (allocs w (pfO w.heap.size)) (pfP w.heap.size) ∧ RL (allocs w (pfO w.heap.size)) (some ⟨w.heap.size + 9, 0, none⟩) 2 (pfR w.heap.size) := by
  obtain ⟨_, _, h⟩ := allocs_all (pfO w.heap.size) w
  have b0 : BkP (allocs w (pfO w.heap.size)) w.heap.size _ _ := h 0 (by simp [pfO])
  have b1 : BkP (allocs w (pfO w.heap.size)) (w.heap.size + 1) _ _ := h 1 (by simp [pfO])
  have b2 : BkP (allocs w (pfO w.heap.size)) (w.heap.size + 2) _ _ := h 2 (by simp [pfO])
  have b4 : BkP (allocs w (pfO w.heap.size)) (w.heap.size + 4) _ _ := h 4 (by simp [pfO])
  have b5 : BkP (allocs w (pfO w.heap.size)) (w.heap.size + 5) _ _ := h 5 (by simp [pfO])
  have b6 : BkP (allocs w (pfO w.heap.size)) (w.heap.size + 6) _ _ := h 6 (by simp [pfO])
  have b7 : BkP (allocs w (pfO w.heap.size)) (w.heap.size + 7) _ _ := h 7 (by simp [pfO])
  have b8 : BkP (allocs w (pfO w.heap.size)) (w.heap.size + 8) _ _ := h 8 (by simp [pfO])
  have b9 : BkP (allocs w (pfO w.heap.size)) (w.heap.size + 9) _ _ := h 9 (by simp [pfO])
  refine ⟨⟨⟨hd_sm _ _ (of_decide_eq_true rfl), rfl, of_decide_eq_true rfl, ?_, .inr ⟨_, 0, rfl, b0.lt, ?_⟩⟩, ⟨hd_sm _ _ (of_decide_eq_true rfl), rfl, of_decide_eq_true rfl, ?_, .inr ⟨_, 0, rfl, b1.lt, ?_⟩⟩, ⟨hd_sm _ _ (of_decide_eq_true rfl), rfl, of_decide_eq_true rfl, ?_, .inr ⟨_, 0, rfl, b2.lt, ?_⟩⟩, i64_sm _ (of_decide_eq_true rfl) (of_decide_eq_true rfl), i64_sm _ (of_decide_eq_true rfl) (of_decide_eq_true rfl), i64_sm _ (of_decide_eq_true rfl) (of_decide_eq_true rfl), i64_sm _ (of_decide_eq_true rfl) (of_decide_eq_true rfl), ⟨hd_sm _ _ (of_decide_eq_true rfl), rfl, of_decide_eq_true rfl, ?_, .inr ⟨_, 0, rfl, b6.lt, ?_⟩⟩⟩, ⟨rfl, by omega, ?_, .inr ⟨_, 0, rfl, b9.lt, ?_⟩⟩⟩
  · intro s hs
    rcases List.mem_singleton.1 hs with rfl
    exact of_decide_eq_true rfl
  · intro i hi j hj
    obtain rfl : i = 0 := by simp [pfP] at hi; exact hi
    obtain rfl : j = 0 := by omega
    rw [b0.cell]; rfl
  · intro s hs
    rcases List.mem_singleton.1 hs with rfl
    exact of_decide_eq_true rfl
  · intro i hi j hj
    obtain rfl : i = 0 := by simp [pfP] at hi; exact hi
    obtain rfl : j = 0 := by omega
    rw [b1.cell]; rfl
  · intro s hs
    rcases List.mem_singleton.1 hs with rfl
    exact i64_sm _ (of_decide_eq_true rfl) (of_decide_eq_true rfl)
  · intro i hi j hj
    obtain rfl : i = 0 := by simp [pfP] at hi; exact hi
    obtain rfl : j = 0 := by omega
    rw [b2.cell]; rfl
  · intro s hs
    simp only [pfP, List.mem_cons, List.not_mem_nil, or_false] at hs
    rcases hs with rfl | rfl
    · refine ⟨i64_sm _ (of_decide_eq_true rfl) (of_decide_eq_true rfl), hd_sm _ _ (of_decide_eq_true rfl), rfl, of_decide_eq_true rfl, ?_, .inr ⟨_, 0, rfl, b4.lt, ?_⟩⟩
      · intro i hi
        simp [pfC0] at hi
        rcases hi with rfl | rfl | rfl <;> exact ⟨i64_sm _ (of_decide_eq_true rfl) (of_decide_eq_true rfl), i64_sm _ (of_decide_eq_true rfl) (of_decide_eq_true rfl), i64_sm _ (of_decide_eq_true rfl) (of_decide_eq_true rfl)⟩
      · intro i hi j hj
        rw [b4.cell, Nat.zero_add]
        exact c0_cell i hi j hj
    · refine ⟨i64_sm _ (of_decide_eq_true rfl) (of_decide_eq_true rfl), hd_sm _ _ (of_decide_eq_true rfl), rfl, of_decide_eq_true rfl, ?_, .inr ⟨_, 0, rfl, b5.lt, ?_⟩⟩
      · intro i hi
        simp [pfC1] at hi
        rcases hi with rfl | rfl | rfl | rfl | rfl | rfl | rfl <;> exact ⟨i64_sm _ (of_decide_eq_true rfl) (of_decide_eq_true rfl), i64_sm _ (of_decide_eq_true rfl) (of_decide_eq_true rfl), i64_sm _ (of_decide_eq_true rfl) (of_decide_eq_true rfl)⟩
      · intro i hi j hj
        rw [b5.cell, Nat.zero_add]
        exact c1_cell i hi j hj
  · intro i hi j hj
    have hi : i < 2 := hi
    rcases (show i = 0 ∨ i = 1 by omega) with rfl | rfl <;> rcases (show j = 0 ∨ j = 1 by omega) with rfl | rfl <;> (rw [b6.cell]; rfl)
  · intro r hr
    simp only [pfR, List.mem_cons, List.not_mem_nil, or_false] at hr
    rcases hr with rfl | rfl
    · refine ⟨⟨rfl, of_decide_eq_true rfl, ?_, .inr ⟨_, 0, rfl, b7.lt, fun i hi => ?_⟩⟩, fun z => (by cases z), Nat.le_refl _, (by unfold maxLen; exact of_decide_eq_true rfl)⟩
      · intro c hc
        rcases List.mem_singleton.1 hc with rfl
        rfl
      · obtain rfl : i = 0 := by have hi : i < 1 := hi; omega
        exact ⟨by rw [b7.cell]; rfl, by rw [b7.cell]; rfl⟩
    · refine ⟨⟨rfl, of_decide_eq_true rfl, ?_, .inr ⟨_, 0, rfl, b8.lt, fun i hi => ?_⟩⟩, fun z => (by cases z), Nat.le_refl _, (by unfold maxLen; exact of_decide_eq_true rfl)⟩
      · intro c hc
        rcases List.mem_singleton.1 hc with rfl
        rfl
      · obtain rfl : i = 0 := by have hi : i < 1 := hi; omega
        exact ⟨by rw [b8.cell]; rfl, by rw [b8.cell]; rfl⟩
  · intro i hi
    rcases (show i = 0 ∨ i = 1 by omega) with rfl | rfl <;> (rw [b9.cell]; rfl)
theorem pf_can (b : Nat) : canP (pfP b) := by
  refine ⟨by rfl, ⟨of_decide_eq_true rfl, by rfl, fun i hi => ?_, of_decide_eq_true rfl, by rfl, fun i hi => ?_, of_decide_eq_true rfl, fun i hi => ?_⟩, ⟨fun i hi => ?_, of_decide_eq_true rfl⟩, ⟨fun i hi => ?_, by rfl⟩⟩
  · simp [pfP] at hi
  · simp [pfP] at hi
  · simp [pfP] at hi
  · have hi : i < 2 := hi
    rcases (show i = 0 ∨ i = 1 by omega) with rfl | rfl
    · exact ⟨of_decide_eq_true rfl, of_decide_eq_true rfl⟩
    · exact ⟨of_decide_eq_true rfl, of_decide_eq_true rfl⟩
  · have hi : i < 2 := hi
    rcases (show i = 0 ∨ i = 1 by omega) with rfl | rfl
    · refine ⟨of_decide_eq_true rfl, fun n hn => ?_⟩
      have hn : n < 3 := hn
      rcases (show n = 0 ∨ n = 1 ∨ n = 2 by omega) with rfl | rfl | rfl
      all_goals
        unfold insI inB In.okP
        simp [pfP, pfC0, baA, bbA, baL, bbL]
    · refine ⟨of_decide_eq_true rfl, fun n hn => ?_⟩
      have hn : n < 7 := hn
      rcases (show n = 0 ∨ n = 1 ∨ n = 2 ∨ n = 3 ∨ n = 4 ∨ n = 5 ∨ n = 6 by omega) with rfl | rfl | rfl | rfl | rfl | rfl | rfl
      all_goals
        unfold insI inB In.okP
        simp [pfP, pfC1, baA, bbA, baL, bbL]
set_option maxRecDepth 100000 in
theorem pf_vfy (b : Nat) : vfyA (pfP b) = (0, 0, 0, ⟨2, 10, 1, 0, 1⟩) := by
  unfold vfyA
  rw [if_pos (pf_can b)]
  have e1 : vAll (pfP b).days 2 = (0, 1, 6, ⟨2, 10, 1, 0, 1⟩) := by kernel_rfl
  have e2 : (pfP b).days.length = 2 := rfl
  unfold vfy
  rw [e2, e1, if_neg (by simp), if_pos ⟨rfl, rfl, rfl⟩]
set_option maxRecDepth 100000 in
theorem pf_run (b : Nat) : (runMs (pfP b) 1 (rowsF (pfR b)) 3 (pfP b).born).1.fault = 0 ∧ (runMs (pfP b) 1 (rowsF (pfR b)) 3 (pfP b).born).1.day = 0 ∧ (runMs (pfP b) 1 (rowsF (pfR b)) 3 (pfP b).born).2 = [⟨2, ⟨#[69, 85, 82]⟩, 30⟩, ⟨2, ⟨#[69, 85, 82]⟩, 5⟩] := ⟨by kernel_rfl, by kernel_rfl, by kernel_rfl⟩
set_option maxRecDepth 100000 in
set_option maxHeartbeats 3200000 in
theorem plain15_any {w : World} (hR : Rws w) (hU : Rul w) : Calls Tryz.prog 9 #[] w fun e w' => e = .returned (.bool true) ∧ Below w.heap.size w w' := by
  obtain ⟨_, bA, _⟩ := allocs_all (pfO w.heap.size) w
  obtain ⟨pv, rl⟩ := pf_pv w
  have vf := pf_vfy w.heap.size
  obtain ⟨r1, r2, r3⟩ := pf_run w.heap.size
  have KR := Lib.hid (p := Calls Tryz.prog 10 #[(pfP w.heap.size).agg, .slice (some ⟨w.heap.size + 9, 0, none⟩) 2 2] (allocs w (pfO w.heap.size)) fun e w' => ∃ fa fc, e = .returned (.tuple #[.agg #[.slice fa 2 fc, .int .i64 0, .int .i64 0], .int .i64 0]) ∧ RowKit.Hid (FLm w' fa 2 [⟨2, ⟨#[69, 85, 82]⟩, 30⟩, ⟨2, ⟨#[69, 85, 82]⟩, 5⟩] ∧ Below w.heap.size w w')) ((run_any (rc := 2) pv (hR.below bA) (hU.lat bA) rl).mono (fun e w' q => by
    obtain ⟨fa, fn, fc, rfl, o⟩ := q.ok (by rw [vf])
    have e0 : (vfyA (pfP w.heap.size)).2.2.2.back = 1 := by rw [vf]
    have e1 : ((pfP w.heap.size).hor + 1).toNat = 3 := rfl
    rw [e0, e1, r3] at o
    rw [e0, e1, r1, r2]
    have f := owf_fl o
    have fl : fn = 2 := f.1.symm
    subst fl
    exact ⟨fa, fc, rfl, f, bA.trans (q.bel.mono bA.size)⟩))
  have KN := Lib.hid (fun e W => num15_any e W)
  have KS := Lib.hid (p := ∀ V w1 fa fc, Below w1.heap.size w1 V → FLm w1 fa 2 [⟨2, ⟨#[69, 85, 82]⟩, 30⟩, ⟨2, ⟨#[69, 85, 82]⟩, 5⟩] → Calls Tryz.prog 18 #[.slice fa 2 fc, .slice (some ⟨V.heap.size, 0, none⟩) 2 2] (V.alloc (.cells #[.int .i64 2, .string ⟨#[69, 85, 82]⟩, .int .i64 30, .int .i64 2, .string ⟨#[69, 85, 82]⟩, .int .i64 5] 54)) fun e w' => e = .returned (.bool true) ∧ Below (V.alloc (.cells #[.int .i64 2, .string ⟨#[69, 85, 82]⟩, .int .i64 30, .int .i64 2, .string ⟨#[69, 85, 82]⟩, .int .i64 5] 54)).heap.size (V.alloc (.cells #[.int .i64 2, .string ⟨#[69, 85, 82]⟩, .int .i64 30, .int .i64 2, .string ⟨#[69, 85, 82]⟩, .int .i64 5] 54)) w') (fun V w1 fa fc b f => by
    have al := allocBP V (.cells #[.int .i64 2, .string ⟨#[69, 85, 82]⟩, .int .i64 30, .int .i64 2, .string ⟨#[69, 85, 82]⟩, .int .i64 5] 54)
    have bk : BkP (V.alloc (.cells #[.int .i64 2, .string ⟨#[69, 85, 82]⟩, .int .i64 30, .int .i64 2, .string ⟨#[69, 85, 82]⟩, .int .i64 5] 54)) V.heap.size #[.int .i64 2, .string ⟨#[69, 85, 82]⟩, .int .i64 30, .int .i64 2, .string ⟨#[69, 85, 82]⟩, .int .i64 5] 54 := heapN _ _
    refine sameFl_any fa (some ⟨V.heap.size, 0, none⟩) 2 fc 2 _ _ ((f.later b).later al) ⟨rfl, .inr ⟨V.heap.size, 0, rfl, bk.lt, fun i hi => ?_⟩⟩ (by omega)
    rcases (show i = 0 ∨ i = 1 by omega) with rfl | rfl
    · exact ⟨by rw [bk.cell]; rfl, by rw [bk.cell]; rfl, by rw [bk.cell]; rfl⟩
    · exact ⟨by rw [bk.cell]; rfl, by rw [bk.cell]; rfl, by rw [bk.cell]; rfl⟩)
  clear pv rl vf r1 r2 r3 hR hU bA
  go_enter Tryz.func9, Tryz.ntmps9
  go_wp2_with fail
  go_at_call 10
  refine KR.out.mono ?_
  rintro e w1 ⟨fa, fc, rfl, hq⟩
  obtain ⟨f1, b1⟩ := hq.out
  obtain ⟨W2, hW2⟩ : ∃ W, w1.alloc (.cells #[.slice fa 2 fc, .int .i64 0, .int .i64 0] 32) = W := ⟨_, rfl⟩
  have k1 : BkP W2 w1.heap.size #[.slice fa 2 fc, .int .i64 0, .int .i64 0] 32 := by rw [← hW2]; exact heapN _ _
  have bw2 : Below w1.heap.size w1 W2 := by rw [← hW2]; exact allocBP _ _
  have KS2 := Lib.hid (KS.out W2 w1 fa fc bw2 f1)
  have CL := Lib.hid (p := ∀ V, Below W2.heap.size W2 V → V.cell? ⟨w1.heap.size, 0, none⟩ = some (.slice fa 2 fc) ∧ V.cell? ⟨w1.heap.size, 1, none⟩ = some (.int .i64 0) ∧ Below w.heap.size w V) (fun V b => ⟨by rw [(k1.lat b).cell]; rfl, by rw [(k1.lat b).cell]; rfl, (b1.trans (bw2.mono b1.size)).trans (b.mono (b1.trans (bw2.mono b1.size)).size)⟩)
  obtain ⟨x0, _, _⟩ := CL.out _ (allocBP W2 (.cells #[.int .i64 2, .string ⟨#[69, 85, 82]⟩, .int .i64 30, .int .i64 2, .string ⟨#[69, 85, 82]⟩, .int .i64 5] 54))
  have HW := Lib.hid hW2
  clear hW2 f1 b1 k1 bw2 hq KR KS
  go_upto_region 4 with fail
  rw [HW.out]
  go_wp2_with (first
    | (go_at_call 18; refine KS2.out.mono ?_; rintro e w5 ⟨rfl, b5⟩; obtain ⟨y0, y1, b6⟩ := CL.out w5 ((allocBP W2 _).trans (b5.mono (allocBP W2 _).size)); have B6 := Lib.hid b6; clear b5 b6)
    | (go_at_call 14; refine (KN.out 0 _).mono ?_; rintro e w6 ⟨rfl, rfl⟩))
  go_ret
  exact ⟨rfl, B6.out⟩
end Go.Proofs.YtpfjnnkjoabgbaaGreatDoor

namespace Go.Proofs.YtpfjnnkjoabgbaaGreatDoor
open Go.RowKit
set_option linter.unusedVariables false
set_option linter.unusedSimpArgs false
def rwV (rs : List Rw) (i : Nat) : List Value := [.slice (rs.getD i default).a (rs.getD i default).n (rs.getD i default).cap]
/-- A row that lies in memory. -/
def RwOk (W : World) (r : Rw) : Prop := RwV W (.slice r.a r.n r.cap) r.cs ∧ r.cs.length = r.n ∧ r.n ≤ 8796093021952 ∧ (∀ c ∈ r.cs, (Lit.int .i64 c.v).wf = true) ∧ (r.a = none → r.n = 0 ∧ r.cap = 0) ∧ r.n ≤ r.cap ∧ r.cap ≤ maxLen
theorem RwOk.keep {W W' : World} {r : Rw} {S : Nat → Prop} (h : RwOk W r) (k : Kp W W' S) (ht : ∀ y cur fr, S y → W.heap[y]? ≠ some (.cells cur 73 fr)) : RwOk W' r := ⟨h.1.keep k ht, h.2⟩
theorem RwOk.rc {W : World} {r : Rw} (h : RwOk W r) : RC W r.a r.n r.cs := by
  obtain ⟨⟨a, z, e, q⟩, h2, h3, h4, _⟩ := h
  injection e with e1 e2 e3
  subst e1 e3
  refine ⟨h2, h3, h4, ?_⟩
  rcases q with q | ⟨y, u, cur, fr, e, hy, c⟩
  · left; rw [← h2, q]; rfl
  · exact .inr ⟨y, u, e, (Array.getElem?_eq_some_iff.1 hy).1, fun i hi => c i (by omega)⟩
/-- Rows that are laid one behind the other in a list of one's own. -/
structure MxS (w : World) (rs : List Rw) (ma : Option Addr) (k mc : Nat) (W : World) : Prop where
  bel : Below w.heap.size w W
  own : OwL W w.heap.size 47 1 ma k mc (rwV rs)
  len : rs.length = k
  rows : ∀ r ∈ rs, RwOk W r
theorem MxS.lat {w : World} {rs : List Rw} {ma : Option Addr} {k mc : Nat} {W W' : World} (h : MxS w rs ma k mc W) (b : Below W.heap.size W W') : MxS w rs ma k mc W' := ⟨h.bel.trans (b.mono h.bel.size), h.own.lat b, h.len, fun r hr => (h.rows r hr).keep (Kp.below b (fun _ => False)) (fun _ _ _ z => z.elim)⟩
theorem MxS.rl {w : World} {rs : List Rw} {ma : Option Addr} {k mc : Nat} {W : World} (h : MxS w rs ma k mc W) (hk : k ≤ 5864062014635) : RL W ma k rs := by
  refine ⟨h.len, hk, fun r hr => ⟨(h.rows r hr).rc, (h.rows r hr).2.2.2.2⟩, ?_⟩
  rcases (h.own.list (by omega) (fun _ => rfl)).2 W (fun _ _ => rfl) with z | ⟨b, o, e, hb, c⟩
  · exact .inl z
  · refine .inr ⟨b, o, e, hb, fun i hi => ?_⟩
    have := c i hi 0 (by omega)
    rw [Nat.mul_one, Nat.add_zero] at this
    exact this
theorem MxS.next {w : World} {rs : List Rw} {ma : Option Addr} {k mc : Nat} {W : World} (h : MxS w rs ma k mc W) (hk : k + 1 ≤ 5864062014635) {r : Rw} (hr : RwOk W r) : ∃ ma2 mc2 w3, (∀ ty, (Builtin.append_ #[27, 27] ty #[.slice ma k mc, .slice (some ⟨W.heap.size, 0, none⟩) 1 1]).run Tryz.prog (W.alloc (.cells #[.slice r.a r.n r.cap] 47)) = .ok (.slice ma2 (k + 1) mc2) w3) ∧ RowKit.Hid (MxS w (rs ++ [r]) ma2 (k + 1) mc2 w3 ∧ Kp W w3 (fun y => Value.ownBlock (.slice ma k mc) = some y) ∧ (Value.ownBlock (.slice ma2 (k + 1) mc2) = Value.ownBlock (.slice ma k mc) ∨ ∃ y, Value.ownBlock (.slice ma2 (k + 1) mc2) = some y ∧ W.heap.size ≤ y)) := by
  have al := allocBP W (.cells #[.slice r.a r.n r.cap] 47)
  have h1 := h.lat al
  obtain ⟨i0, hi, hz0, hz1, hz2⟩ := info_parts infoRw
  obtain ⟨ma2, mc2, w3, r3, o3, g3, pl⟩ := run_rowapp (V := fun _ => [.slice r.a r.n r.cap]) Tryz.underlying27 hi hz0 hz1 hz2 rfl (by omega) h1.own (a := some ⟨W.heap.size, 0, none⟩) (n := 1) (c := 1) ⟨fun z => (by cases z), Nat.le_refl _, by unfold maxLen; omega⟩ (.inr ⟨W.heap.size, 0, rfl, by simp, fun i hi j hj => by
    have i0 : i = 0 := by omega
    have j0 : j = 0 := by omega
    subst i0 j0
    have bk : BkP (W.alloc (.cells #[.slice r.a r.n r.cap] 47)) W.heap.size #[.slice r.a r.n r.cap] 47 := heapN W _
    rw [bk.cell]
    rfl⟩) (fun _ => rfl) (fun i u hu => by simp at hu; rw [hu]; rfl) (by unfold maxLen; omega) (by omega) h1.bel.size
  have kp : Kp (W.alloc (.cells #[.slice r.a r.n r.cap] 47)) w3 (fun y => Value.ownBlock (.slice ma k mc) = some y) := ⟨g3.os, g3.tape, g3.output, g3.size, fun y hy hn => g3.block y hy (fun z => hn z.symm)⟩
  have fb : ∀ y, Value.ownBlock (.slice ma k mc) = some y → w.heap.size ≤ y ∧ ∃ c f, (W.alloc (.cells #[.slice r.a r.n r.cap] 47)).heap[y]? = some (.cells c 47 f) := by
    intro y hy
    refine ⟨(World.ownsRow.lt h1.own y hy).1, ?_⟩
    rcases h1.own.2 with ⟨z, _⟩ | ⟨g2, cap, cur, z, _, e3, _⟩
    · rw [z] at hy; cases hy
    · rw [z] at hy
      simp only [Value.ownBlock, Option.some.injEq] at hy
      subst hy
      exact ⟨cur, _, e3⟩
  have nt : ∀ (y : Nat) (c : Array Value) (fr : Nat × Nat), Value.ownBlock (.slice ma k mc) = some y → (W.alloc (.cells #[.slice r.a r.n r.cap] 47)).heap[y]? ≠ some (.cells c 73 fr) := by
    intro y c fr hy z
    obtain ⟨_, c2, f, e⟩ := fb y hy
    have := e.symm.trans z
    injection this with this
    injection this with _ q
    exact absurd q (by decide)
  refine ⟨ma2, mc2, w3, r3, ⟨h1.bel.trans (kp.bel (fun y hy => (fb y hy).1) h1.bel.size), ?_, by simp [h.len], ?_⟩, (Kp.below al _).trans kp (fun _ _ z => z), by rcases pl with z | z; exact .inl z; exact .inr ⟨_, z, by simp⟩⟩
  · unfold OwL
    have gl : ∀ i, i < k → (rs ++ [r]).getD i default = rs.getD i default := fun i hi => getD_snoc_lt (by rw [h.len]; exact hi)
    have gk : (rs ++ [r]).getD k default = r := by rw [← h.len]; exact getD_snoc_eq
    have e1 := flatV_snoc (rwV rs) (rwV (rs ++ [r])) k (fun i hi => by unfold rwV; rw [gl i hi])
    have e2 : rwV (rs ++ [r]) k = flatV 1 (fun _ => [Value.slice r.a r.n r.cap]) := by
      unfold rwV
      rw [gk]
      rfl
    rw [e2] at e1
    rw [← e1]
    exact o3
  · intro x hx
    simp at hx
    rcases hx with hx | rfl
    · exact (h1.rows x hx).keep kp nt
    · exact (hr.keep (Kp.below al (fun _ => False)) (fun _ _ _ z => z.elim)).keep kp nt
end Go.Proofs.YtpfjnnkjoabgbaaGreatDoor

namespace Go.Proofs.YtpfjnnkjoabgbaaGreatDoor
open Go.RowKit
set_option linter.unusedVariables false
set_option linter.unusedSimpArgs false
/-- So far filled. -/
def FiR (n k : Nat) (row gs : List Cl) : Prop := gs.length = n ∧ ∀ j, j < n → gs.getD j default = if j < k then fixC (row.getD j default) else zCl
theorem FiR.set {n k : Nat} {row gs : List Cl} (h : FiR n k row gs) (hk : k < n) : FiR n (k + 1) row (gs.set k (fixC (row.getD k default))) := by
  refine ⟨by rw [List.length_set]; exact h.1, fun j hj => ?_⟩
  have := h.2 j hj
  by_cases e : j = k
  · subst e
    rw [if_pos (by omega)]
    simp [List.getD, h.1, hj]
  · have q : (gs.set k (fixC (row.getD k default))).getD j default = gs.getD j default := by
      simp only [List.getD]
      rw [List.getElem?_set_ne (Ne.symm e)]
    rw [q, this]
    by_cases z : j < k
    · rw [if_pos z, if_pos (by omega)]
    · rw [if_neg z, if_neg (by omega)]
theorem FiR.skip {n k : Nat} {row gs : List Cl} (h : FiR n k row gs) (hk : (row.getD k default).h = false) : FiR n (k + 1) row gs := by
  refine ⟨h.1, fun j hj => ?_⟩
  rw [h.2 j hj]
  by_cases z : j < k
  · rw [if_pos z, if_pos (by omega)]
  · rw [if_neg z]
    by_cases q : j = k
    · subst q; rw [if_pos (by omega)]; unfold fixC; rw [hk]; rfl
    · rw [if_neg (by omega)]
theorem FiR.end {n k : Nat} {row gs : List Cl} (h : FiR n k row gs) (hk : ¬ (k < n ∧ k < row.length)) : gs = fitR n row := by
  apply List.ext_getElem?
  intro j
  by_cases hj : j < n
  · have a := h.2 j hj
    have e1 : gs[j]? = some (gs.getD j default) := by simp [List.getD, h.1, hj]
    have e2 : (fitR n row)[j]? = some (if (row.getD j default).h then row.getD j default else ⟨false, 0⟩) := by simp [fitR, hj]
    rw [e1, e2, a]
    by_cases z : j < k
    · rw [if_pos z]; rfl
    · rw [if_neg z]
      have : row.getD j default = zCl := by
        simp only [List.getD, List.getElem?_eq_none (by omega : row.length ≤ j)]
        rfl
      rw [this]
      rfl
  · rw [List.getElem?_eq_none (by rw [h.1]; omega), List.getElem?_eq_none (by simp [fitR]; omega)]
theorem fi_start (n : Nat) (row : List Cl) : FiR n 0 row (List.replicate n zCl) := by
  refine ⟨by simp, fun j hj => ?_⟩
  rw [if_neg (by omega)]
  simp [List.getD, hj]
set_option maxRecDepth 100000 in
set_option maxHeartbeats 1600000 in
theorem fit15_any {w : World} {n : Nat} (hn : n ≤ 1000000) {a : Option Addr} {m cap : Nat} {row : List Cl} (h : RC w a m row) : Calls Tryz.prog 22 #[.slice a m cap, .int .i64 (n : Int)] w fun e w' => FtE w n row e w' := by
  have hl := h.1
  have hm := h.2.1
  have mk := make_cells n (by omega)
  obtain ⟨W2, hW2⟩ : ∃ W, w.alloc (.cells (madeCells #[.bool false, .int .i64 0] (n * 2)) 73) = W := ⟨_, rfl⟩
  have B2 := Lib.hid (p := Below w.heap.size w W2) (by rw [← hW2]; exact allocBP w _)
  have F2 := Lib.hid (p := ∃ gs, FiR n 0 row gs ∧ Rc W2 w.heap.size gs) ⟨_, fi_start n row, rc_of (by rw [← hW2]; exact heapN w _) (made_clv n) (by simp; omega)⟩
  have FE := Lib.hid (p := ∀ W gs k, FiR n k row gs → ¬ (k < n ∧ k < m) → Rc W w.heap.size gs → Below w.heap.size w W → FtE w n row (.returned (.slice (some ⟨w.heap.size, 0, none⟩) n n)) W) (fun W gs k f hk r b => ⟨rfl, b, by rw [← hl] at hk; rw [← f.end hk]; exact r⟩)
  have HC := Lib.hid (p := ∀ W, Below w.heap.size w W → RC W a m row) (fun W b => h.later b)
  have HW := Lib.hid hW2
  clear h hW2
  go_enter Tryz.func22, Tryz.ntmps22
  go_wp2_with fail
  rw [HW.out]
  clear mk
  go_wp2_with fail
  go_loopw [6] (fun t wr => ∃ (k : Nat), k ≤ n ∧ k ≤ m ∧ t = .int .i64 (k : Int) ∧ Below w.heap.size w wr ∧ RowKit.Hid (∃ gs, FiR n k row gs ∧ Rc wr w.heap.size gs)) (fun t _ => n - (intOf t).toNat)
  case atStart => exact ⟨0, by omega, by omega, rfl, B2.out, F2.out⟩
  case round =>
    clear B2 F2
    rename World => wr
    obtain ⟨k, hk, hk2, rfl, hB, hF⟩ := hrel
    obtain ⟨gs, hg, hr⟩ := hF.out
    have BB := Lib.hid hB
    have GG := Lib.hid hg
    have RR := Lib.hid hr
    by_cases hlt : k < n
    · have kc : (k : Int) < (n : Int) := by omega
      by_cases hlm : k < m
      · have kd : (k : Int) < (m : Int) := by omega
        have k0 : ¬ (k : Int) < 0 := by omega
        have ks : IntKind.i64.wrap ((k : Int) + 1) = (k : Int) + 1 := by simp [IntKind.wrap, IntKind.bits, IntKind.signed]; omega
        have c := HC.out wr hB
        obtain ⟨_, _, _, c4⟩ := c
        rcases c4 with z | ⟨b, o, rfl, hb, hc⟩
        · omega
        · obtain ⟨q0, q1⟩ := hc k hlm
          have f0 := World.ownsRow.frozenAt hr (k * 2)
          have f1 := World.ownsRow.frozenAt hr (k * 2 + 1)
          have lt := hr.block.lt
          have SK := Lib.hid (p := (row.getD k default).h = false → ∃ gs, FiR n (k + 1) row gs ∧ Rc wr w.heap.size gs) (fun z => ⟨gs, hg.skip z, hr⟩)
          have ST := Lib.hid (p := (row.getD k default).h = true → ∃ gs, FiR n (k + 1) row gs ∧ Rc ((wr.setCell ⟨w.heap.size, k * 2, none⟩ (.bool true)).setCell ⟨w.heap.size, k * 2 + 1, none⟩ (.int .i64 (row.getD k default).v)) w.heap.size gs) (fun z => by
            have e : fixC (row.getD k default) = row.getD k default := by unfold fixC; rw [if_pos z]
            have x := hr.set k (by rw [hg.1]; exact hlt) (row.getD k default)
            have y := hg.set hlt
            rw [e] at y
            rw [z] at x
            exact ⟨_, y, x⟩)
          have G2 : (gs.length) = n := hg.1
          obtain ⟨z0, z1⟩ := hr.fc k (by rw [hg.1]; exact hlt)
          generalize gs.getD k default = c0 at *
          generalize row.getD k default = cc at *
          obtain ⟨ch, cv⟩ := cc
          dsimp only at q0 q1 SK ST
          clear hF hg hr hB hc HC FE GG RR G2
          cases ch with
          | false =>
            clear ST
            go_wp2
            refine ⟨⟨k + 1, by omega, by omega, by simp, BB.out, SK.out rfl⟩, ?_⟩
            simp [intOf]; omega
          | true =>
            clear SK
            go_wp2
            refine ⟨⟨k + 1, by omega, by omega, by simp, ?_, ST.out rfl⟩, ?_⟩
            · exact (BB.out.setCell (by exact Nat.le_refl _) _).setCell (by exact Nat.le_refl _) _
            · simp [intOf]; omega
      · have kd : ¬ (k : Int) < (m : Int) := by omega
        have FX := Lib.hid (FE.out wr gs k hg (by omega) hr hB)
        clear hr hg hF hB
        go_wp2
        go_ret
        exact FX.out
    · have kc : ¬ (k : Int) < (n : Int) := by omega
      have FX := Lib.hid (FE.out wr gs k hg (by omega) hr hB)
      clear hr hg hF hB
      go_wp2
      go_ret
      exact FX.out
end Go.Proofs.YtpfjnnkjoabgbaaGreatDoor

namespace Go.Proofs.YtpfjnnkjoabgbaaGreatDoor
open Go.RowKit
set_option linter.unusedVariables false
set_option linter.unusedSimpArgs false
def clR (cs : List Cl) (i : Nat) : List Value := (cs.getD i default).two
theorem flat_clr (cs : List Cl) : flatV cs.length (clR cs) = clv cs := by
  have e : (List.range cs.length).map (fun i => cs.getD i default) = cs := by
    apply List.ext_getElem (by simp)
    intro j h1 h2
    simp [List.getD, h2]
  unfold flatV clR clv
  conv => rhs; rw [← e]
  rw [List.flatMap_map]
theorem RC.rowR {W : World} {a : Option Addr} {n : Nat} {cs : List Cl} (h : RC W a n cs) : Row W a n 2 (clR cs) := by
  rcases h.2.2.2 with z | ⟨b, o, e, hb, hc⟩
  · exact .inl z
  · refine .inr ⟨b, o, e, hb, fun i hi j hj => ?_⟩
    obtain ⟨c0, c1⟩ := hc i hi
    have : j = 0 ∨ j = 1 := by omega
    rcases this with rfl | rfl
    · exact c0
    · exact c1
theorem own_rw {V : World} {B : Nat} {a : Option Addr} {n c : Nat} {cs : List Cl} (q : V.ownsRow B 73 2 (.slice a n c) n (clv cs)) (hl : cs.length = n) (hb : n ≤ 8796093021952) (hw : ∀ c ∈ cs, (Lit.int .i64 c.v).wf = true) : RwOk V ⟨a, n, c, cs⟩ := by
  rcases q.2 with ⟨z, _⟩ | ⟨g, cap, cur, z, _, e3, z4, z5, _⟩
  · injection z with z1 z2 z3
    subst z1 z2 z3
    exact ⟨⟨none, 0, by rw [hl], .inl (List.length_eq_zero_iff.1 hl)⟩, hl, hb, hw, fun _ => ⟨rfl, rfl⟩, Nat.le_refl _, by dsimp only; unfold maxLen; omega⟩
  · injection z with z1 z2 z3
    subst z1 z3
    have r := rc_own (xs := []) (by rw [List.append_nil]; exact q) (by omega) (by omega) hw
    refine ⟨⟨_, _, by rw [hl], ?_⟩, hl, hb, hw, fun z => (by cases z), z4, z5⟩
    rcases r.2.2.2 with z | ⟨y, u, e, _, hc⟩
    · exact .inl (List.length_eq_zero_iff.1 z)
    · injection e with e
      injection e with e1 e2
      subst e1 e2
      exact .inr ⟨g, 0, cur, _, rfl, e3, fun i hi => hc i hi⟩
theorem clr_len (cs : List Cl) (i : Nat) : (clR cs i).length = 2 := rfl
theorem clr_one (cs : List Cl) (i : Nat) : ∀ u ∈ clR cs i, u.oneCell' = true := by
  intro u hu
  simp only [clR, Cl.two, List.mem_cons, List.not_mem_nil, or_false] at hu
  rcases hu with rfl | rfl <;> rfl
/-- 'append(append([]api.Cell{}, l...), more...)'. -/
theorem long_row {W : World} {a : Option Addr} {n c : Nat} {cs : List Cl} (h : RwOk W ⟨a, n, c, cs⟩) {b : Option Addr} {m d : Nat} {more : List Cl} (g : RC W b m more ∧ (b = none → m = 0 ∧ d = 0) ∧ m ≤ d ∧ d ≤ maxLen) (hl : n + m ≤ 8796093021952) : ∃ a1 c1 w1, (∀ ty, (Builtin.append_ #[47, 47] ty #[.slice (some ⟨W.heap.size, 0, none⟩) 0 0, .slice a n c]).run Tryz.prog (W.alloc (.cells #[] 73)) = .ok (.slice a1 n c1) w1) ∧ ∃ a2 c2 w2, (∀ ty, (Builtin.append_ #[47, 47] ty #[.slice a1 n c1, .slice b m d]).run Tryz.prog w1 = .ok (.slice a2 (n + m) c2) w2) ∧ RowKit.Hid (Below W.heap.size W w2 ∧ RwOk w2 ⟨a2, n + m, c2, cs ++ more⟩) := by
  obtain ⟨i0, hi, hz0, hz1, hz2⟩ := info_parts infoCl
  obtain ⟨a1, c1, w1, r1, o1, b1⟩ := run_fresh (B := W.heap.size) (T := 47) Tryz.underlying47 hi hz0 hz1 hz2 rfl (by decide) (Nat.le_refl _) (a := a) (n := n) (c := c) ⟨h.2.2.2.2.1, h.2.2.2.2.2⟩ h.rc.rowR (clr_len cs) (clr_one cs) (by unfold maxLen; omega) (by omega)
  obtain ⟨a2, c2, w2, r2, o2, g2, _⟩ := run_rowapp (T := 47) Tryz.underlying47 hi hz0 hz1 hz2 rfl (by decide) o1 (a := b) (n := m) (c := d) ⟨g.2.1, g.2.2⟩ (g.1.later b1).rowR (clr_len more) (clr_one more) (by unfold maxLen; omega) (by omega) b1.size
  have l1 := h.2.1
  have l2 := g.1.1
  dsimp only at l1
  refine ⟨a1, c1, w1, r1, a2, c2, w2, r2, ?_, own_rw (B := W.heap.size) ?_ (by rw [List.length_append]; omega) hl (fun x hx => by rcases List.mem_append.1 hx with hx | hx; exact h.2.2.2.1 x hx; exact g.1.2.2.1 x hx)⟩
  · exact ⟨g2.os.trans b1.os, g2.tape.trans b1.tape, g2.output.trans b1.output, Nat.le_trans b1.size g2.size, fun k hk => (g2.block k (Nat.lt_of_lt_of_le hk b1.size) (fun z => by have := (World.ownsRow.lt o1 k z.symm).1; omega)).trans (b1.block k hk)⟩
  · rw [clv_app, ← flat_clr cs, ← flat_clr more, l1, l2]
    exact o2
theorem MxS.keep {w : World} {rs : List Rw} {ma : Option Addr} {k mc : Nat} {W W' : World} {S : Nat → Prop} (h : MxS w rs ma k mc W) (kp : Kp W W' S) (hS : ∀ y, S y → w.heap.size ≤ y) (hn : ∀ y, S y → Value.ownBlock (.slice ma k mc) ≠ some y) (nt : ∀ y cur fr, S y → W.heap[y]? ≠ some (.cells cur 73 fr)) : MxS w rs ma k mc W' :=
  ⟨h.bel.trans (kp.bel hS h.bel.size), own_blkG h.own (fun g hg => kp.blk g (World.ownsRow.lt h.own g hg).2 (fun z => hn g z hg)), h.len, fun r hr => (h.rows r hr).keep kp nt⟩
theorem MxS.nt {w : World} {rs : List Rw} {ma : Option Addr} {k mc : Nat} {W : World} (h : MxS w rs ma k mc W) : ∀ y cur fr, Value.ownBlock (.slice ma k mc) = some y → W.heap[y]? ≠ some (.cells cur 73 fr) := by
  intro y cur fr hy z
  rcases h.own.2 with ⟨q, _⟩ | ⟨g2, cap, cur2, q, _, e3, _⟩
  · rw [q] at hy; cases hy
  · rw [q] at hy
    simp only [Value.ownBlock, Option.some.injEq] at hy
    subst hy
    have := e3.symm.trans z
    injection this with this
    injection this with _ q
    exact absurd q (by decide)
/-- Two lists of rows that grow side by side. -/
structure Mx2 (w : World) (rs ss : List Rw) (ma : Option Addr) (mc : Nat) (na : Option Addr) (nc k : Nat) (W : World) : Prop where
  fst : MxS w rs ma k mc W
  snd : MxS w ss na k nc W
  ne : ∀ y, Value.ownBlock (.slice ma k mc) = some y → Value.ownBlock (.slice na k nc) ≠ some y
theorem Mx2.lat {w : World} {rs ss : List Rw} {ma na : Option Addr} {k mc nc : Nat} {W W' : World} (h : Mx2 w rs ss ma mc na nc k W) (b : Below W.heap.size W W') : Mx2 w rs ss ma mc na nc k W' := ⟨h.fst.lat b, h.snd.lat b, h.ne⟩
/-- A row more for the first, then, later, one for the second. -/
theorem Mx2.next {w : World} {rs ss : List Rw} {ma na : Option Addr} {k mc nc : Nat} {W : World} (h : Mx2 w rs ss ma mc na nc k W) (hk : k + 1 ≤ 5864062014635) {r : Rw} (hr : RwOk W r) : ∃ ma2 mc2 w3, (∀ ty, (Builtin.append_ #[27, 27] ty #[.slice ma k mc, .slice (some ⟨W.heap.size, 0, none⟩) 1 1]).run Tryz.prog (W.alloc (.cells #[.slice r.a r.n r.cap] 47)) = .ok (.slice ma2 (k + 1) mc2) w3) ∧ RowKit.Hid (Kp W w3 (fun y => Value.ownBlock (.slice ma k mc) = some y) ∧ (∀ x, RwOk W x → RwOk w3 x) ∧ w.heap.size ≤ W.heap.size ∧
    ∀ W4, Below w3.heap.size w3 W4 → ∀ x, RwOk W4 x → ∃ na2 nc2 w5, (∀ ty, (Builtin.append_ #[27, 27] ty #[.slice na k nc, .slice (some ⟨W4.heap.size, 0, none⟩) 1 1]).run Tryz.prog (W4.alloc (.cells #[.slice x.a x.n x.cap] 47)) = .ok (.slice na2 (k + 1) nc2) w5) ∧ RowKit.Hid (Mx2 w (rs ++ [r]) (ss ++ [x]) ma2 mc2 na2 nc2 (k + 1) w5)) := by
  obtain ⟨ma2, mc2, w3, r3, x3⟩ := h.fst.next hk hr
  obtain ⟨m3, k3, p3⟩ := x3.out
  have lo : ∀ y, Value.ownBlock (.slice ma k mc) = some y → w.heap.size ≤ y := fun y hy => (World.ownsRow.lt h.fst.own y hy).1
  have s3 : MxS w ss na k nc w3 := h.snd.keep k3 lo (fun y hy => h.ne y hy) h.fst.nt
  refine ⟨ma2, mc2, w3, r3, k3, fun x hx => hx.keep k3 h.fst.nt, h.fst.bel.size, fun W4 b4 x hx => ?_⟩
  have s4 := s3.lat b4
  obtain ⟨na2, nc2, w5, r5, x5⟩ := s4.next hk hx
  obtain ⟨m5, k5, p5⟩ := x5.out
  have l2 := fun y hy => World.ownsRow.lt h.snd.own y hy
  have ne2 : ∀ y, Value.ownBlock (.slice na k nc) = some y → Value.ownBlock (.slice ma2 (k + 1) mc2) ≠ some y := by
    intro y hy z
    rcases p3 with p | ⟨g, p, q⟩
    · rw [p] at z; exact h.ne y z hy
    · rw [p] at z; injection z with z; subst z; have := (l2 _ hy).2; omega
  refine ⟨na2, nc2, w5, r5, (m3.lat b4).keep k5 (fun y hy => (l2 y hy).1) ne2 s4.nt, m5, ?_⟩
  intro y hy z
  rcases p5 with p | ⟨g, p, q⟩
  · rw [p] at z; exact ne2 y z hy
  · rw [p] at z; injection z with z; subst z
    have := (World.ownsRow.lt m3.own _ hy).2
    have := b4.size
    omega
end Go.Proofs.YtpfjnnkjoabgbaaGreatDoor

namespace Go.Proofs.YtpfjnnkjoabgbaaGreatDoor
open Go.RowKit
set_option linter.unusedVariables false
set_option linter.unusedSimpArgs false
theorem MxS.last {w : World} {rs : List Rw} {ma : Option Addr} {k mc : Nat} {W : World} (h : MxS w rs ma k mc W) (hk : k + 1 ≤ 5864062014635) {r : Rw} (hr : RC w r.a r.n r.cs ∧ (r.a = none → r.n = 0 ∧ r.cap = 0) ∧ r.n ≤ r.cap ∧ r.cap ≤ maxLen) : ∃ ma2 mc2 w3, (∀ ty, (Builtin.append_ #[27, 27] ty #[.slice ma k mc, .slice (some ⟨W.heap.size, 0, none⟩) 1 1]).run Tryz.prog (W.alloc (.cells #[.slice r.a r.n r.cap] 47)) = .ok (.slice ma2 (k + 1) mc2) w3) ∧ RowKit.Hid (RL w3 ma2 (k + 1) (rs ++ [r]) ∧ Kp W w3 (fun y => Value.ownBlock (.slice ma k mc) = some y)) := by
  have al := allocBP W (.cells #[.slice r.a r.n r.cap] 47)
  have h1 := h.lat al
  obtain ⟨i0, hi, hz0, hz1, hz2⟩ := info_parts infoRw
  obtain ⟨ma2, mc2, w3, r3, o3, g3, pl⟩ := run_rowapp (V := fun _ => [.slice r.a r.n r.cap]) Tryz.underlying27 hi hz0 hz1 hz2 rfl (by omega) h1.own (a := some ⟨W.heap.size, 0, none⟩) (n := 1) (c := 1) ⟨fun z => (by cases z), Nat.le_refl _, by unfold maxLen; omega⟩ (.inr ⟨W.heap.size, 0, rfl, by simp, fun i hi j hj => by
    have i0 : i = 0 := by omega
    have j0 : j = 0 := by omega
    subst i0 j0
    have bk : BkP (W.alloc (.cells #[.slice r.a r.n r.cap] 47)) W.heap.size #[.slice r.a r.n r.cap] 47 := heapN W _
    rw [bk.cell]
    rfl⟩) (fun _ => rfl) (fun i u hu => by simp at hu; rw [hu]; rfl) (by unfold maxLen; omega) (by omega) h1.bel.size
  have kp : Kp (W.alloc (.cells #[.slice r.a r.n r.cap] 47)) w3 (fun y => Value.ownBlock (.slice ma k mc) = some y) := ⟨g3.os, g3.tape, g3.output, g3.size, fun y hy hn => g3.block y hy (fun z => hn z.symm)⟩
  have fb : ∀ y, Value.ownBlock (.slice ma k mc) = some y → w.heap.size ≤ y ∧ ∃ c f, (W.alloc (.cells #[.slice r.a r.n r.cap] 47)).heap[y]? = some (.cells c 47 f) := by
    intro y hy
    refine ⟨(World.ownsRow.lt h1.own y hy).1, ?_⟩
    rcases h1.own.2 with ⟨z, _⟩ | ⟨g2, cap, cur, z, _, e3, _⟩
    · rw [z] at hy; cases hy
    · rw [z] at hy
      simp only [Value.ownBlock, Option.some.injEq] at hy
      subst hy
      exact ⟨cur, _, e3⟩
  have nt : ∀ (y : Nat) (c : Array Value) (fr : Nat × Nat), Value.ownBlock (.slice ma k mc) = some y → (W.alloc (.cells #[.slice r.a r.n r.cap] 47)).heap[y]? ≠ some (.cells c 73 fr) := by
    intro y c fr hy z
    obtain ⟨_, c2, f, e⟩ := fb y hy
    have := e.symm.trans z
    injection this with this
    injection this with _ q
    exact absurd q (by decide)
  have bel3 : Below w.heap.size w w3 := h1.bel.trans (kp.bel (fun y hy => (fb y hy).1) h1.bel.size)
  have own3 : OwL w3 w.heap.size 47 1 ma2 (k + 1) mc2 (rwV (rs ++ [r])) := by
    unfold OwL
    have gl : ∀ i, i < k → (rs ++ [r]).getD i default = rs.getD i default := fun i hi => getD_snoc_lt (by rw [h.len]; exact hi)
    have gk : (rs ++ [r]).getD k default = r := by rw [← h.len]; exact getD_snoc_eq
    have e1 := flatV_snoc (rwV rs) (rwV (rs ++ [r])) k (fun i hi => by unfold rwV; rw [gl i hi])
    have e2 : rwV (rs ++ [r]) k = flatV 1 (fun _ => [Value.slice r.a r.n r.cap]) := by
      unfold rwV
      rw [gk]
      rfl
    rw [e2] at e1
    rw [← e1]
    exact o3
  refine ⟨ma2, mc2, w3, r3, ⟨by simp [h.len], hk, ?_, ?_⟩, (Kp.below al _).trans kp (fun _ _ z => z)⟩
  · intro x hx
    simp at hx
    rcases hx with hx | rfl
    · have q := (h1.rows x hx).keep kp nt
      exact ⟨q.rc, q.2.2.2.2⟩
    · exact ⟨hr.1.later bel3, hr.2⟩
  · rcases (own3.list (by omega) (fun _ => rfl)).2 w3 (fun _ _ => rfl) with z | ⟨b, o, e, hb, c⟩
    · exact .inl z
    · refine .inr ⟨b, o, e, hb, fun i hi => ?_⟩
      have := c i hi 0 (by omega)
      rw [Nat.mul_one, Nat.add_zero] at this
      exact this
theorem fit_len (n : Nat) (r : List Cl) : (fitR n r).length = n := by simp [fitR]
theorem fit_at (n : Nat) (r : List Cl) (j : Nat) (hj : j < n) : (fitR n r).getD j default = if (r.getD j default).h then r.getD j default else ⟨false, 0⟩ := by simp [fitR, hj]
theorem fit_fit (n : Nat) (r xs : List Cl) : fitR n (fitR n r ++ xs) = fitR n r := by
  apply List.ext_getElem (by simp [fitR])
  intro j h1 h2
  have hj : j < n := by rw [fit_len] at h2; exact h2
  have a : (fitR n (fitR n r ++ xs)).getD j default = (fitR n r).getD j default := by
    rw [fit_at n _ j hj]
    have e : (fitR n r ++ xs).getD j default = (fitR n r).getD j default := by
      simp only [List.getD]
      rw [List.getElem?_append_left (by rw [fit_len]; exact hj)]
    rw [e, fit_at n r j hj]
    by_cases z : (r.getD j default).h = true
    · rw [if_pos z, if_pos z]
    · rw [if_neg z]; rfl
  simpa [List.getD, h1, h2] using a
theorem fit_wf {n : Nat} {r : List Cl} (h : ∀ c ∈ r, (Lit.int .i64 c.v).wf = true) : ∀ c ∈ fitR n r, (Lit.int .i64 c.v).wf = true := by
  intro c hc
  simp only [fitR, List.mem_map] at hc
  obtain ⟨j, _, rfl⟩ := hc
  split
  · rename_i z
    by_cases q : j < r.length
    · exact h _ (by simp [List.getD, q])
    · simp only [List.getD, List.getElem?_eq_none (by omega : r.length ≤ j)] at z
      exact absurd z (by decide)
  · decide
theorem ft_rw {w w' : World} {n : Nat} {row : List Cl} {e : Ending} (hn : n ≤ 1000000) (hw : ∀ c ∈ row, (Lit.int .i64 c.v).wf = true) (h : FtE w n row e w') : ∃ g, e = .returned (.slice (some ⟨g, 0, none⟩) n n) ∧ RowKit.Hid (Below w.heap.size w w' ∧ RwOk w' ⟨some ⟨g, 0, none⟩, n, n, fitR n row⟩) := by
  refine ⟨_, h.ret, h.bel, ?_⟩
  have r := h.row
  unfold Rc at r
  rw [fit_len] at r
  exact own_rw r (fit_len n row) (by omega) (fit_wf hw)
end Go.Proofs.YtpfjnnkjoabgbaaGreatDoor

namespace Go.Proofs.YtpfjnnkjoabgbaaGreatDoor
open Go.RowKit
set_option linter.unusedVariables false
set_option linter.unusedSimpArgs false
/-- What the law hands to Run, and what comes. -/
structure RoE2 (w : World) (p : Pg) (rows : Nat → List Cl) (fa : Option Addr) (fn fc : Nat) (W : World) : Prop where
  fl : FLm W fa fn (runMs p (vfyA p).2.2.2.back rows (p.hor + 1).toNat p.born).2
  bel : Below w.heap.size w W
theorem run_owned {w V : World} {p : Pg} (hv : (vfyA p).1 = 0) (h : PV w p) (hR : Rws w) (hU : Rul w) (b : Below w.heap.size w V) : Calls Tryz.prog 11 #[p.agg] V fun e w' => ∃ p' : Pg, e = .returned (.agg #[.slice p'.na p'.names.length p'.nc, .slice p'.ua p'.curs.length p'.uc, .slice p'.pa p'.pool.length p'.pc, .int .i64 p'.hor, .int .i64 p'.cells, .int .i64 p'.slots, .int .i64 p'.stack, .slice p'.da p'.days.length p'.dc]) ∧ RowKit.Hid (Below V.heap.size V w' ∧ ∀ U, Below w'.heap.size w' U → ∀ ra rn rc rs, RL U ra rn rs → Calls Tryz.prog 10 #[.agg #[.slice p'.na p'.names.length p'.nc, .slice p'.ua p'.curs.length p'.uc, .slice p'.pa p'.pool.length p'.pc, .int .i64 p'.hor, .int .i64 p'.cells, .int .i64 p'.slots, .int .i64 p'.stack, .slice p'.da p'.days.length p'.dc], .slice ra rn rc] U fun e w2 => ∃ fa fn fc, e = .returned (.tuple #[.agg #[.slice fa fn fc, .int .i64 (runMs p (vfyA p).2.2.2.back (rowsF rs) (p.hor + 1).toNat p.born).1.fault, .int .i64 (runMs p (vfyA p).2.2.2.back (rowsF rs) (p.hor + 1).toNat p.born).1.day], .int .i64 0]) ∧ RowKit.Hid (FLm w2 fa fn (runMs p (vfyA p).2.2.2.back (rowsF rs) (p.hor + 1).toNat p.born).2 ∧ Below U.heap.size U w2)) := by
  refine (owned_any (h.later b)).mono ?_
  rintro e w' ⟨p', rfl, hk, hb, hp⟩
  refine ⟨p', rfl, hb, fun U bU ra rn rc rs hr => ?_⟩
  have b' := b.trans (hb.mono b.size)
  have b2 := b'.trans (bU.mono b'.size)
  have hpU : PV U p' := hp U (fun k _ hk2 => bU.block k hk2)
  refine (run_any (rc := rc) hpU (hR.below b2) (hU.lat b2) hr).mono ?_
  intro e w2 q
  have ev := vfyA_keyM hk
  have eb := born_keyM hk
  have eh : p'.hor = p.hor := congrArg (fun k => k.2.2.2.1) hk
  obtain ⟨fa, fn, fc, rfl, o⟩ := q.ok (by rw [ev]; exact hv)
  have er : runMs p' (vfyA p').2.2.2.back (rowsF rs) (p'.hor + 1).toNat p'.born = runMs p (vfyA p).2.2.2.back (rowsF rs) (p.hor + 1).toNat p.born := by
    rw [ev, eb, eh]
    exact runMs_keyM hk _ _ _ _
  rw [er] at o ⊢
  exact ⟨fa, fn, fc, rfl, owf_fl o, q.bel⟩
end Go.Proofs.YtpfjnnkjoabgbaaGreatDoor
