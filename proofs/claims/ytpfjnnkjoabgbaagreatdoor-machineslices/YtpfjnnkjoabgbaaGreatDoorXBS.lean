import Derived.Test.YtpfjnnkjoabgbaaGreatDoorXBR
namespace Go.Proofs.YtpfjnnkjoabgbaaGreatDoor
open Go.RowKit
set_option linter.unusedVariables false
set_option linter.unusedSimpArgs false
def TknE (w : World) (p : Pg) (e : Ending) (w' : World) : Prop := e = .returned (.tuple #[.agg #[.int .i64 (vfyA p).2.2.2.stack, .int .i64 (vfyA p).2.2.2.fuel, .int .i64 (vfyA p).2.2.2.back], .bool (decide ((vfyA p).1 = 0))]) ∧ Below w.heap.size w w'
set_option maxRecDepth 100000 in
set_option maxHeartbeats 3200000 in
theorem taken_any {w : World} {p : Pg} (h : PV w p) (hR : Rws w) (hU : Rul w) : Calls Tryz.prog 13 #[p.agg] w fun e w' => TknE w p e w' := by
  obtain ⟨W0, hW0⟩ : ∃ W, (w.alloc p.box).alloc (.cells #[.int .i64 0, .int .i64 0, .int .i64 0] 41) = W := ⟨_, rfl⟩
  have B0 : Below w.heap.size w W0 := by rw [← hW0]; exact (allocBP w p.box).trans ((allocBP (w.alloc p.box) _).mono (by simp))
  have Z0 : BkP W0 (w.heap.size + 1) #[.int .i64 0, .int .i64 0, .int .i64 0] 41 := by
    rw [← hW0]
    have := heapN (w.alloc p.box) (.cells #[.int .i64 0, .int .i64 0, .int .i64 0] 41)
    rw [show (w.alloc p.box).heap.size = w.heap.size + 1 by simp] at this
    exact this
  have P0 : BkP W0 w.heap.size #[.slice p.na p.names.length p.nc, .slice p.ua p.curs.length p.uc, .slice p.pa p.pool.length p.pc, .int .i64 p.hor, .int .i64 p.cells, .int .i64 p.slots, .int .i64 p.stack, .slice p.da p.days.length p.dc] 26 := by rw [← hW0]; exact BkP.lat (heapN w p.box) (allocBP _ _)
  obtain ⟨a0, a1, a2, a3, a4, a5, a6, a7⟩ := box_all8 P0
  have KO := Lib.hid (p := Calls Tryz.prog 11 #[p.agg] W0 fun e w' => ∃ p' : Pg, e = .returned (.agg #[.slice p'.na p'.names.length p'.nc, .slice p'.ua p'.curs.length p'.uc, .slice p'.pa p'.pool.length p'.pc, .int .i64 p'.hor, .int .i64 p'.cells, .int .i64 p'.slots, .int .i64 p'.stack, .slice p'.da p'.days.length p'.dc]) ∧ RowKit.Hid (Calls Tryz.prog 26 #[.agg #[.slice p'.na p'.names.length p'.nc, .slice p'.ua p'.curs.length p'.uc, .slice p'.pa p'.pool.length p'.pc, .int .i64 p'.hor, .int .i64 p'.cells, .int .i64 p'.slots, .int .i64 p'.stack, .slice p'.da p'.days.length p'.dc]] w' fun e2 w2 => e2 = .returned (vfV (vfyA p)) ∧ Below W0.heap.size W0 w2)) ((owned_any (h.later B0)).mono (fun e w' ⟨p', h1, h2, h3, h4⟩ => ⟨p', h1, (verify_any (h4 w' (fun _ _ _ => rfl)) (hR.below (B0.trans (h3.mono B0.size))) (hU.lat (B0.trans (h3.mono B0.size)))).mono (fun e2 w2 q => ⟨by rw [q.1, vfyA_keyM h2], h3.trans (q.2.mono h3.size)⟩)⟩))
  have CL := Lib.hid (p := ∀ V, Below W0.heap.size W0 V → BkP V (w.heap.size + 1) #[.int .i64 0, .int .i64 0, .int .i64 0] 41 ∧ Below w.heap.size w V) (fun V b => ⟨Z0.lat b, B0.trans (b.mono B0.size)⟩)
  have KN := Lib.hid (fun e W => num15_any e W)
  have HW := Lib.hid hW0
  clear B0 Z0 P0 h hR hU hW0
  unfold vfV at KO
  have FE := Lib.hid (p := ∀ V, Below w.heap.size w V → TknE w p (.returned (.tuple #[.agg #[.int .i64 (vfyA p).2.2.2.stack, .int .i64 (vfyA p).2.2.2.fuel, .int .i64 (vfyA p).2.2.2.back], .bool (decide ((vfyA p).1 = 0))])) V) (fun V b => ⟨rfl, b⟩)
  generalize (vfyA p).2.2.2.stack = ns at *
  generalize (vfyA p).2.2.2.fuel = nf at *
  generalize (vfyA p).2.2.2.back = nb at *
  generalize (vfyA p).2.1 = n21 at *
  generalize (vfyA p).2.2.1 = n22 at *
  generalize (vfyA p).1 = en at *
  unfold Pg.agg Pg.box at *
  obtain ⟨na, nc, names, ua, uc, curs, pa, pc, pool, hor, cells, slots, stack, da, dc, days⟩ := p
  simp only at *
  go_enter Tryz.func13, Tryz.ntmps13
  go_wp2_with fail
  go_at_call 11
  rw [HW.out]
  refine KO.out.mono ?_
  rintro e w1 ⟨p', rfl, hq⟩
  go_wp2_with fail
  go_at_call 26
  refine hq.out.mono ?_
  rintro e w2 ⟨rfl, b2⟩
  obtain ⟨W3, hW3⟩ : ∃ W, w2.alloc (.cells #[.int .i64 ns, .int .i64 nf, .int .i64 nb] 41) = W := ⟨_, rfl⟩
  have b3 : Below W0.heap.size W0 W3 := by rw [← hW3]; exact b2.trans ((allocBP w2 _).mono b2.size)
  have q3 : BkP W3 w2.heap.size #[.int .i64 ns, .int .i64 nf, .int .i64 nb] 41 := by rw [← hW3]; exact heapN _ _
  obtain ⟨zb, bw⟩ := CL.out W3 b3
  obtain ⟨y0, y1, y2⟩ := box_all3P q3
  obtain ⟨z0, z1, z2⟩ := box_all3P zb
  have f0 := zb.frozen 0
  have f1 := zb.frozen 1
  have f2 := zb.frozen 2
  have BW := Lib.hid bw
  have H3 := Lib.hid hW3
  clear b2 b3 hW3 bw q3 zb
  go_wp2
  rw [H3.out]
  go_region_with (go_at_call 14; refine (KN.out en _).mono ?_; rintro e w4 ⟨rfl, rfl⟩)
  all_goals
    go_wp2
    refine bodyPost_ret (v := .tuple #[.agg #[.int .i64 ns, .int .i64 nf, .int .i64 nb], .bool (decide (en = 0))]) ?r rfl ?s
    case r => simp [results, Tryz.results13, go_sem, z0, z1, z2, f0, f1, f2]; try rfl
    case s => exact FE.out _ (((BW.out.setCell (by exact Nat.le_succ _) _).setCell (by exact Nat.le_succ _) _).setCell (by exact Nat.le_succ _) _ |>.trans (drew1B2 _ _))
end Go.Proofs.YtpfjnnkjoabgbaaGreatDoor

namespace Go.Proofs.YtpfjnnkjoabgbaaGreatDoor
open Go.RowKit
set_option linter.unusedVariables false
set_option linter.unusedSimpArgs false
/-- Many blocks, one behind the other. -/
def allocs (w : World) (l : List Obj) : World := l.foldl World.alloc w
theorem allocs_all : ∀ (l : List Obj) (w : World), (allocs w l).heap.size = w.heap.size + l.length ∧ Below w.heap.size w (allocs w l) ∧ ∀ i, i < l.length → (allocs w l).heap[w.heap.size + i]? = l[i]?
  | [], w => ⟨rfl, Below.refl _ _, fun i hi => by simp at hi⟩
  | o :: l, w => by
    obtain ⟨h1, h2, h3⟩ := allocs_all l (w.alloc o)
    have s1 : (w.alloc o).heap.size = w.heap.size + 1 := by simp
    have e : allocs w (o :: l) = allocs (w.alloc o) l := rfl
    rw [e]
    have a1 := allocBP w o
    refine ⟨by rw [h1, s1]; simp; omega, a1.trans (h2.mono a1.size), fun i hi => ?_⟩
    cases i with
    | zero =>
      rw [Nat.add_zero, h2.block w.heap.size (by omega)]
      exact heapN w o
    | succ i =>
      have := h3 i (by simpa using hi)
      rw [s1] at this
      rw [show w.heap.size + (i + 1) = w.heap.size + 1 + i by omega, this]
      rfl
def pfC0 : List In := [⟨3, 0, 0⟩, ⟨5, 0, 0⟩, ⟨0, 0, 0⟩]
def pfC1 : List In := [⟨4, 0, 0⟩, ⟨3, 0, 1⟩, ⟨9, 0, 0⟩, ⟨28, 0, 0⟩, ⟨1, 0, 0⟩, ⟨28, 0, 0⟩, ⟨0, 0, 0⟩]
def pfP (b : Nat) : Pg := ⟨some ⟨b, 0, none⟩, 1, [⟨#[83]⟩], some ⟨b + 1, 0, none⟩, 1, [⟨#[69, 85, 82]⟩], some ⟨b + 2, 0, none⟩, 1, [5], 2, 1, 0, 2, some ⟨b + 6, 0, none⟩, 2, [⟨0, some ⟨b + 4, 0, none⟩, 3, pfC0⟩, ⟨2, some ⟨b + 5, 0, none⟩, 7, pfC1⟩]⟩
def pfR (b : Nat) : List Rw := [⟨some ⟨b + 7, 0, none⟩, 1, 1, [⟨true, 10⟩]⟩, ⟨some ⟨b + 8, 0, none⟩, 1, 1, [⟨true, 20⟩]⟩]
def pfO (b : Nat) : List Obj := [.cells #[.string ⟨#[83]⟩] 9, .cells #[.string ⟨#[69, 85, 82]⟩] 9, .cells #[.int .i64 5] 3, .cells #[.slice (some ⟨b, 0, none⟩) 1 1, .slice (some ⟨b + 1, 0, none⟩) 1 1, .slice (some ⟨b + 2, 0, none⟩) 1 1, .int .i64 2, .int .i64 1, .int .i64 0, .int .i64 2, .slice (some ⟨b + 6, 0, none⟩) 2 2] 26, .cells #[.int .i64 3, .int .i64 0, .int .i64 0, .int .i64 5, .int .i64 0, .int .i64 0, .int .i64 0, .int .i64 0, .int .i64 0] 68, .cells #[.int .i64 4, .int .i64 0, .int .i64 0, .int .i64 3, .int .i64 0, .int .i64 1, .int .i64 9, .int .i64 0, .int .i64 0, .int .i64 28, .int .i64 0, .int .i64 0, .int .i64 1, .int .i64 0, .int .i64 0, .int .i64 28, .int .i64 0, .int .i64 0, .int .i64 0, .int .i64 0, .int .i64 0] 68, .cells #[.int .i64 0, .slice (some ⟨b + 4, 0, none⟩) 3 3, .int .i64 2, .slice (some ⟨b + 5, 0, none⟩) 7 7] 71, .cells #[.bool true, .int .i64 10] 73, .cells #[.bool true, .int .i64 20] 73, .cells #[.slice (some ⟨b + 7, 0, none⟩) 1 1, .slice (some ⟨b + 8, 0, none⟩) 1 1] 47]
theorem i64_sm (z : Int) (h0 : -100 ≤ z) (h1 : z ≤ 100) : i64 z := by
  unfold i64
  simp [Lit.wf, IntKind.min, IntKind.max, IntKind.bits, IntKind.signed]
  omega
theorem hd_sm (b n : Nat) (h : n ≤ 100) : Hd (some ⟨b, 0, none⟩) n n := ⟨(fun e => by cases e), Nat.le_refl _, by unfold maxLen; omega⟩
theorem c0_cell (k : Nat) (hk : k < 3) (j : Nat) (hj : j < 3) : (#[.int .i64 3, .int .i64 0, .int .i64 0, .int .i64 5, .int .i64 0, .int .i64 0, .int .i64 0, .int .i64 0, .int .i64 0] : Array Value)[k * 3 + j]? = some ((icell (pfC0.getD k default)).getD j default) := by
  rcases (show k = 0 ∨ k = 1 ∨ k = 2 by omega) with rfl | rfl | rfl <;> rcases (show j = 0 ∨ j = 1 ∨ j = 2 by omega) with rfl | rfl | rfl <;> rfl
theorem c1_cell (k : Nat) (hk : k < 7) (j : Nat) (hj : j < 3) : (#[.int .i64 4, .int .i64 0, .int .i64 0, .int .i64 3, .int .i64 0, .int .i64 1, .int .i64 9, .int .i64 0, .int .i64 0, .int .i64 28, .int .i64 0, .int .i64 0, .int .i64 1, .int .i64 0, .int .i64 0, .int .i64 28, .int .i64 0, .int .i64 0, .int .i64 0, .int .i64 0, .int .i64 0] : Array Value)[k * 3 + j]? = some ((icell (pfC1.getD k default)).getD j default) := by
  rcases (show k = 0 ∨ k = 1 ∨ k = 2 ∨ k = 3 ∨ k = 4 ∨ k = 5 ∨ k = 6 by omega) with rfl | rfl | rfl | rfl | rfl | rfl | rfl <;> rcases (show j = 0 ∨ j = 1 ∨ j = 2 by omega) with rfl | rfl | rfl <;> rfl
theorem pf_pv (w : World) : PV (allocs w (pfO w.heap.size)) (pfP w.heap.size) ∧ RL (allocs w (pfO w.heap.size)) (some ⟨w.heap.size + 9, 0, none⟩) 2 (pfR w.heap.size) := by
  obtain ⟨_, _, h⟩ := allocs_all (pfO w.heap.size) w
  have b0 : BkP (allocs w (pfO w.heap.size)) w.heap.size _ _ := h 0 (by simp [pfO])
  have b1 : BkP (allocs w (pfO w.heap.size)) (w.heap.size + 1) _ _ := h 1 (by simp [pfO])
  have b2 : BkP (allocs w (pfO w.heap.size)) (w.heap.size + 2) _ _ := h 2 (by simp [pfO])
  have b4 : BkP (allocs w (pfO w.heap.size)) (w.heap.size + 4) _ _ := h 4 (by simp [pfO])
  have b5 : BkP (allocs w (pfO w.heap.size)) (w.heap.size + 5) _ _ := h 5 (by simp [pfO])
  have b6 : BkP (allocs w (pfO w.heap.size)) (w.heap.size + 6) _ _ := h 6 (by simp [pfO])
  have b7 : BkP (allocs w (pfO w.heap.size)) (w.heap.size + 7) _ _ := h 7 (by simp [pfO])
  have b8 : BkP (allocs w (pfO w.heap.size)) (w.heap.size + 8) _ _ := h 8 (by simp [pfO])
  have b9 : BkP (allocs w (pfO w.heap.size)) (w.heap.size + 9) _ _ := h 9 (by simp [pfO])
  refine ⟨⟨⟨hd_sm _ _ (of_decide_eq_true rfl), rfl, of_decide_eq_true rfl, ?_, .inr ⟨_, 0, rfl, b0.lt, ?_⟩⟩, ⟨hd_sm _ _ (of_decide_eq_true rfl), rfl, of_decide_eq_true rfl, ?_, .inr ⟨_, 0, rfl, b1.lt, ?_⟩⟩, ⟨hd_sm _ _ (of_decide_eq_true rfl), rfl, of_decide_eq_true rfl, ?_, .inr ⟨_, 0, rfl, b2.lt, ?_⟩⟩, i64_sm _ (of_decide_eq_true rfl) (of_decide_eq_true rfl), i64_sm _ (of_decide_eq_true rfl) (of_decide_eq_true rfl), i64_sm _ (of_decide_eq_true rfl) (of_decide_eq_true rfl), i64_sm _ (of_decide_eq_true rfl) (of_decide_eq_true rfl), ⟨hd_sm _ _ (of_decide_eq_true rfl), rfl, of_decide_eq_true rfl, ?_, .inr ⟨_, 0, rfl, b6.lt, ?_⟩⟩⟩, ⟨rfl, by omega, ?_, .inr ⟨_, 0, rfl, b9.lt, ?_⟩⟩⟩
  · intro s hs
    rcases List.mem_singleton.1 hs with rfl
    exact of_decide_eq_true rfl
  · intro i hi j hj
    obtain rfl : i = 0 := by simp [pfP] at hi; exact hi
    obtain rfl : j = 0 := by omega
    rw [b0.cell]; rfl
  · intro s hs
    rcases List.mem_singleton.1 hs with rfl
    exact of_decide_eq_true rfl
  · intro i hi j hj
    obtain rfl : i = 0 := by simp [pfP] at hi; exact hi
    obtain rfl : j = 0 := by omega
    rw [b1.cell]; rfl
  · intro s hs
    rcases List.mem_singleton.1 hs with rfl
    exact i64_sm _ (of_decide_eq_true rfl) (of_decide_eq_true rfl)
  · intro i hi j hj
    obtain rfl : i = 0 := by simp [pfP] at hi; exact hi
    obtain rfl : j = 0 := by omega
    rw [b2.cell]; rfl
  · intro s hs
    simp only [pfP, List.mem_cons, List.not_mem_nil, or_false] at hs
    rcases hs with rfl | rfl
    · refine ⟨i64_sm _ (of_decide_eq_true rfl) (of_decide_eq_true rfl), hd_sm _ _ (of_decide_eq_true rfl), rfl, of_decide_eq_true rfl, ?_, .inr ⟨_, 0, rfl, b4.lt, ?_⟩⟩
      · intro i hi
        simp [pfC0] at hi
        rcases hi with rfl | rfl | rfl <;> exact ⟨i64_sm _ (of_decide_eq_true rfl) (of_decide_eq_true rfl), i64_sm _ (of_decide_eq_true rfl) (of_decide_eq_true rfl), i64_sm _ (of_decide_eq_true rfl) (of_decide_eq_true rfl)⟩
      · intro i hi j hj
        rw [b4.cell, Nat.zero_add]
        exact c0_cell i hi j hj
    · refine ⟨i64_sm _ (of_decide_eq_true rfl) (of_decide_eq_true rfl), hd_sm _ _ (of_decide_eq_true rfl), rfl, of_decide_eq_true rfl, ?_, .inr ⟨_, 0, rfl, b5.lt, ?_⟩⟩
      · intro i hi
        simp [pfC1] at hi
        rcases hi with rfl | rfl | rfl | rfl | rfl | rfl | rfl <;> exact ⟨i64_sm _ (of_decide_eq_true rfl) (of_decide_eq_true rfl), i64_sm _ (of_decide_eq_true rfl) (of_decide_eq_true rfl), i64_sm _ (of_decide_eq_true rfl) (of_decide_eq_true rfl)⟩
      · intro i hi j hj
        rw [b5.cell, Nat.zero_add]
        exact c1_cell i hi j hj
  · intro i hi j hj
    have hi : i < 2 := hi
    rcases (show i = 0 ∨ i = 1 by omega) with rfl | rfl <;> rcases (show j = 0 ∨ j = 1 by omega) with rfl | rfl <;> (rw [b6.cell]; rfl)
  · intro r hr
    simp only [pfR, List.mem_cons, List.not_mem_nil, or_false] at hr
    rcases hr with rfl | rfl
    · refine ⟨⟨rfl, of_decide_eq_true rfl, ?_, .inr ⟨_, 0, rfl, b7.lt, fun i hi => ?_⟩⟩, fun z => (by cases z), Nat.le_refl _, (by unfold maxLen; exact of_decide_eq_true rfl)⟩
      · intro c hc
        rcases List.mem_singleton.1 hc with rfl
        rfl
      · obtain rfl : i = 0 := by have hi : i < 1 := hi; omega
        exact ⟨by rw [b7.cell]; rfl, by rw [b7.cell]; rfl⟩
    · refine ⟨⟨rfl, of_decide_eq_true rfl, ?_, .inr ⟨_, 0, rfl, b8.lt, fun i hi => ?_⟩⟩, fun z => (by cases z), Nat.le_refl _, (by unfold maxLen; exact of_decide_eq_true rfl)⟩
      · intro c hc
        rcases List.mem_singleton.1 hc with rfl
        rfl
      · obtain rfl : i = 0 := by have hi : i < 1 := hi; omega
        exact ⟨by rw [b8.cell]; rfl, by rw [b8.cell]; rfl⟩
  · intro i hi
    rcases (show i = 0 ∨ i = 1 by omega) with rfl | rfl <;> (rw [b9.cell]; rfl)
theorem pf_can (b : Nat) : canP (pfP b) := by
  refine ⟨by rfl, ⟨of_decide_eq_true rfl, by rfl, fun i hi => ?_, of_decide_eq_true rfl, by rfl, fun i hi => ?_, of_decide_eq_true rfl, fun i hi => ?_⟩, ⟨fun i hi => ?_, of_decide_eq_true rfl⟩, ⟨fun i hi => ?_, by rfl⟩⟩
  · simp [pfP] at hi
  · simp [pfP] at hi
  · simp [pfP] at hi
  · have hi : i < 2 := hi
    rcases (show i = 0 ∨ i = 1 by omega) with rfl | rfl
    · exact ⟨of_decide_eq_true rfl, of_decide_eq_true rfl⟩
    · exact ⟨of_decide_eq_true rfl, of_decide_eq_true rfl⟩
  · have hi : i < 2 := hi
    rcases (show i = 0 ∨ i = 1 by omega) with rfl | rfl
    · refine ⟨of_decide_eq_true rfl, fun n hn => ?_⟩
      have hn : n < 3 := hn
      rcases (show n = 0 ∨ n = 1 ∨ n = 2 by omega) with rfl | rfl | rfl
      all_goals
        unfold insI inB In.okP
        simp [pfP, pfC0, baA, bbA, baL, bbL]
    · refine ⟨of_decide_eq_true rfl, fun n hn => ?_⟩
      have hn : n < 7 := hn
      rcases (show n = 0 ∨ n = 1 ∨ n = 2 ∨ n = 3 ∨ n = 4 ∨ n = 5 ∨ n = 6 by omega) with rfl | rfl | rfl | rfl | rfl | rfl | rfl
      all_goals
        unfold insI inB In.okP
        simp [pfP, pfC1, baA, bbA, baL, bbL]
set_option maxRecDepth 100000 in
theorem pf_vfy (b : Nat) : vfyA (pfP b) = (0, 0, 0, ⟨2, 10, 1, 0, 1⟩) := by
  unfold vfyA
  rw [if_pos (pf_can b)]
  have e1 : vAll (pfP b).days 2 = (0, 1, 6, ⟨2, 10, 1, 0, 1⟩) := by kernel_rfl
  have e2 : (pfP b).days.length = 2 := rfl
  unfold vfy
  rw [e2, e1, if_neg (by simp), if_pos ⟨rfl, rfl, rfl⟩]
set_option maxRecDepth 100000 in
theorem pf_run (b : Nat) : (runMs (pfP b) 1 (rowsF (pfR b)) 3 (pfP b).born).1.fault = 0 ∧ (runMs (pfP b) 1 (rowsF (pfR b)) 3 (pfP b).born).1.day = 0 ∧ (runMs (pfP b) 1 (rowsF (pfR b)) 3 (pfP b).born).2 = [⟨2, ⟨#[69, 85, 82]⟩, 30⟩, ⟨2, ⟨#[69, 85, 82]⟩, 5⟩] := ⟨by kernel_rfl, by kernel_rfl, by kernel_rfl⟩
set_option maxRecDepth 100000 in
set_option maxHeartbeats 3200000 in
theorem plain15_any {w : World} (hR : Rws w) (hU : Rul w) : Calls Tryz.prog 9 #[] w fun e w' => e = .returned (.bool true) ∧ Below w.heap.size w w' := by
  obtain ⟨_, bA, _⟩ := allocs_all (pfO w.heap.size) w
  obtain ⟨pv, rl⟩ := pf_pv w
  have vf := pf_vfy w.heap.size
  obtain ⟨r1, r2, r3⟩ := pf_run w.heap.size
  have KR := Lib.hid (p := Calls Tryz.prog 10 #[(pfP w.heap.size).agg, .slice (some ⟨w.heap.size + 9, 0, none⟩) 2 2] (allocs w (pfO w.heap.size)) fun e w' => ∃ fa fc, e = .returned (.tuple #[.agg #[.slice fa 2 fc, .int .i64 0, .int .i64 0], .int .i64 0]) ∧ RowKit.Hid (FLm w' fa 2 [⟨2, ⟨#[69, 85, 82]⟩, 30⟩, ⟨2, ⟨#[69, 85, 82]⟩, 5⟩] ∧ Below w.heap.size w w')) ((run_any (rc := 2) pv (hR.below bA) (hU.lat bA) rl).mono (fun e w' q => by
    obtain ⟨fa, fn, fc, rfl, o⟩ := q.ok (by rw [vf])
    have e0 : (vfyA (pfP w.heap.size)).2.2.2.back = 1 := by rw [vf]
    have e1 : ((pfP w.heap.size).hor + 1).toNat = 3 := rfl
    rw [e0, e1, r3] at o
    rw [e0, e1, r1, r2]
    have f := owf_fl o
    have fl : fn = 2 := f.1.symm
    subst fl
    exact ⟨fa, fc, rfl, f, bA.trans (q.bel.mono bA.size)⟩))
  have KN := Lib.hid (fun e W => num15_any e W)
  have KS := Lib.hid (p := ∀ V w1 fa fc, Below w1.heap.size w1 V → FLm w1 fa 2 [⟨2, ⟨#[69, 85, 82]⟩, 30⟩, ⟨2, ⟨#[69, 85, 82]⟩, 5⟩] → Calls Tryz.prog 18 #[.slice fa 2 fc, .slice (some ⟨V.heap.size, 0, none⟩) 2 2] (V.alloc (.cells #[.int .i64 2, .string ⟨#[69, 85, 82]⟩, .int .i64 30, .int .i64 2, .string ⟨#[69, 85, 82]⟩, .int .i64 5] 54)) fun e w' => e = .returned (.bool true) ∧ Below (V.alloc (.cells #[.int .i64 2, .string ⟨#[69, 85, 82]⟩, .int .i64 30, .int .i64 2, .string ⟨#[69, 85, 82]⟩, .int .i64 5] 54)).heap.size (V.alloc (.cells #[.int .i64 2, .string ⟨#[69, 85, 82]⟩, .int .i64 30, .int .i64 2, .string ⟨#[69, 85, 82]⟩, .int .i64 5] 54)) w') (fun V w1 fa fc b f => by
    have al := allocBP V (.cells #[.int .i64 2, .string ⟨#[69, 85, 82]⟩, .int .i64 30, .int .i64 2, .string ⟨#[69, 85, 82]⟩, .int .i64 5] 54)
    have bk : BkP (V.alloc (.cells #[.int .i64 2, .string ⟨#[69, 85, 82]⟩, .int .i64 30, .int .i64 2, .string ⟨#[69, 85, 82]⟩, .int .i64 5] 54)) V.heap.size #[.int .i64 2, .string ⟨#[69, 85, 82]⟩, .int .i64 30, .int .i64 2, .string ⟨#[69, 85, 82]⟩, .int .i64 5] 54 := heapN _ _
    refine sameFl_any fa (some ⟨V.heap.size, 0, none⟩) 2 fc 2 _ _ ((f.later b).later al) ⟨rfl, .inr ⟨V.heap.size, 0, rfl, bk.lt, fun i hi => ?_⟩⟩ (by omega)
    rcases (show i = 0 ∨ i = 1 by omega) with rfl | rfl
    · exact ⟨by rw [bk.cell]; rfl, by rw [bk.cell]; rfl, by rw [bk.cell]; rfl⟩
    · exact ⟨by rw [bk.cell]; rfl, by rw [bk.cell]; rfl, by rw [bk.cell]; rfl⟩)
  clear pv rl vf r1 r2 r3 hR hU bA
  go_enter Tryz.func9, Tryz.ntmps9
  go_wp2_with fail
  go_at_call 10
  refine KR.out.mono ?_
  rintro e w1 ⟨fa, fc, rfl, hq⟩
  obtain ⟨f1, b1⟩ := hq.out
  obtain ⟨W2, hW2⟩ : ∃ W, w1.alloc (.cells #[.slice fa 2 fc, .int .i64 0, .int .i64 0] 32) = W := ⟨_, rfl⟩
  have k1 : BkP W2 w1.heap.size #[.slice fa 2 fc, .int .i64 0, .int .i64 0] 32 := by rw [← hW2]; exact heapN _ _
  have bw2 : Below w1.heap.size w1 W2 := by rw [← hW2]; exact allocBP _ _
  have KS2 := Lib.hid (KS.out W2 w1 fa fc bw2 f1)
  have CL := Lib.hid (p := ∀ V, Below W2.heap.size W2 V → V.cell? ⟨w1.heap.size, 0, none⟩ = some (.slice fa 2 fc) ∧ V.cell? ⟨w1.heap.size, 1, none⟩ = some (.int .i64 0) ∧ Below w.heap.size w V) (fun V b => ⟨by rw [(k1.lat b).cell]; rfl, by rw [(k1.lat b).cell]; rfl, (b1.trans (bw2.mono b1.size)).trans (b.mono (b1.trans (bw2.mono b1.size)).size)⟩)
  obtain ⟨x0, _, _⟩ := CL.out _ (allocBP W2 (.cells #[.int .i64 2, .string ⟨#[69, 85, 82]⟩, .int .i64 30, .int .i64 2, .string ⟨#[69, 85, 82]⟩, .int .i64 5] 54))
  have HW := Lib.hid hW2
  clear hW2 f1 b1 k1 bw2 hq KR KS
  go_upto_region 4 with fail
  rw [HW.out]
  go_wp2_with (first
    | (go_at_call 18; refine KS2.out.mono ?_; rintro e w5 ⟨rfl, b5⟩; obtain ⟨y0, y1, b6⟩ := CL.out w5 ((allocBP W2 _).trans (b5.mono (allocBP W2 _).size)); have B6 := Lib.hid b6; clear b5 b6)
    | (go_at_call 14; refine (KN.out 0 _).mono ?_; rintro e w6 ⟨rfl, rfl⟩))
  go_ret
  exact ⟨rfl, B6.out⟩
end Go.Proofs.YtpfjnnkjoabgbaaGreatDoor

namespace Go.Proofs.YtpfjnnkjoabgbaaGreatDoor
open Go.RowKit
set_option linter.unusedVariables false
set_option linter.unusedSimpArgs false
theorem run_owned {w V : World} {p : Pg} (hv : (vfyA p).1 = 0) (h : PV w p) (hR : Rws w) (hU : Rul w) (b : Below w.heap.size w V) : Calls Tryz.prog 11 #[p.agg] V fun e w' => ∃ p' : Pg, e = .returned (.agg #[.slice p'.na p'.names.length p'.nc, .slice p'.ua p'.curs.length p'.uc, .slice p'.pa p'.pool.length p'.pc, .int .i64 p'.hor, .int .i64 p'.cells, .int .i64 p'.slots, .int .i64 p'.stack, .slice p'.da p'.days.length p'.dc]) ∧ RowKit.Hid (Below V.heap.size V w' ∧ ∀ U, Below w'.heap.size w' U → ∀ ra rn rc rs, RL U ra rn rs → Calls Tryz.prog 10 #[.agg #[.slice p'.na p'.names.length p'.nc, .slice p'.ua p'.curs.length p'.uc, .slice p'.pa p'.pool.length p'.pc, .int .i64 p'.hor, .int .i64 p'.cells, .int .i64 p'.slots, .int .i64 p'.stack, .slice p'.da p'.days.length p'.dc], .slice ra rn rc] U fun e w2 => ∃ fa fn fc, e = .returned (.tuple #[.agg #[.slice fa fn fc, .int .i64 (runMs p (vfyA p).2.2.2.back (rowsF rs) (p.hor + 1).toNat p.born).1.fault, .int .i64 (runMs p (vfyA p).2.2.2.back (rowsF rs) (p.hor + 1).toNat p.born).1.day], .int .i64 0]) ∧ RowKit.Hid (FLm w2 fa fn (runMs p (vfyA p).2.2.2.back (rowsF rs) (p.hor + 1).toNat p.born).2 ∧ Below U.heap.size U w2)) := by
  refine (owned_any (h.later b)).mono ?_
  rintro e w' ⟨p', rfl, hk, hb, hp⟩
  refine ⟨p', rfl, hb, fun U bU ra rn rc rs hr => ?_⟩
  have b' := b.trans (hb.mono b.size)
  have b2 := b'.trans (bU.mono b'.size)
  have hpU : PV U p' := hp U (fun k _ hk2 => bU.block k hk2)
  refine (run_any (rc := rc) hpU (hR.below b2) (hU.lat b2) hr).mono ?_
  intro e w2 q
  have ev := vfyA_keyM hk
  have eb := born_keyM hk
  have eh : p'.hor = p.hor := congrArg (fun k => k.2.2.2.1) hk
  obtain ⟨fa, fn, fc, rfl, o⟩ := q.ok (by rw [ev]; exact hv)
  have er : runMs p' (vfyA p').2.2.2.back (rowsF rs) (p'.hor + 1).toNat p'.born = runMs p (vfyA p).2.2.2.back (rowsF rs) (p.hor + 1).toNat p.born := by
    rw [ev, eb, eh]
    exact runMs_keyM hk _ _ _ _
  rw [er] at o ⊢
  exact ⟨fa, fn, fc, rfl, owf_fl o, q.bel⟩
end Go.Proofs.YtpfjnnkjoabgbaaGreatDoor
