/-
  WALKS: canonical and Canon of the program (made by gen_wcanc.py).
-/
import Derived.Test.YteedkcmjhdabeaaDoorWCanB
namespace Go.Proofs.YteedkcmjhdabeaaDoor
open Go.RowKit
set_option linter.unusedVariables false
set_option linter.unusedSimpArgs false
def canP (p : Pg) : Prop := numP p = true ∧ lstP p ∧ dayP p ∧ useP p
noncomputable instance (p : Pg) : Decidable (canP p) := Classical.propDecidable _
theorem numP_hor {p : Pg} (h : numP p = true) : 0 ≤ p.hor ∧ p.hor ≤ 3660 := by
  unfold numP wB at h
  simp only [Bool.and_eq_true, decide_eq_true_eq] at h
  exact h.1.1.1
set_option maxRecDepth 100000 in
set_option maxHeartbeats 8000000 in
theorem canonical_any {w : World} {p : Pg} (h : PV w p) (hR : Rws w) : Calls Tryd.prog 17 #[p.agg] w fun e w' => e = .returned (.bool (decide (canP p))) ∧ Below w.heap.size w w' := by
  have K0 := Lib.hid (fun W (b : Below w.heap.size w W) => numbersFit_any (w := W) (p := p))
  have K1 := Lib.hid (fun W (b : Below w.heap.size w W) => listsFit_any (h.later b))
  have K3 := Lib.hid (fun W (b : Below w.heap.size w W) => codeFits_any (h.later b) (hR.below b))
  have HP := Lib.hid h
  have B0 := Lib.hid (allocBP w p.box)
  have TB := Lib.hid (p := BkP (w.alloc p.box) w.heap.size p.arr 26) (heapN _ _)
  unfold Pg.agg at K0 K1 K3
  unfold Pg.agg
  unfold Pg.box at B0 TB
  unfold Pg.arr at TB
  clear h hR
  by_cases e0 : numP p = true
  · by_cases e1 : lstP p
    · have K2 := Lib.hid (fun W (b : Below w.heap.size w W) => daysFit_any (HP.out.later b) (numP_hor e0).1 (numP_hor e0).2)
      unfold Pg.agg at K2
      by_cases e2 : dayP p
      · by_cases e3 : useP p
        · have R := Lib.hid (p := decide (canP p) = true) (decide_eq_true ⟨e0, e1, e2, e3⟩)
          rw [e0] at K0
          simp only [decide_eq_true e1] at K1
          simp only [decide_eq_true e2] at K2
          simp only [decide_eq_true e3] at K3
          obtain ⟨na, nc, names, ua, uc, curs, pa, pc, pool, hor, cells, slots, stack, da, dc, days⟩ := p
          simp only at K0 K1 K2 K3 R B0 TB
          clear e0 e1 e2 e3
          go_enter Tryd.func17, Tryd.ntmps17
          have T0 := TB
          go_wp2_with (first
            | (go_at_call 24; refine (K0.out _ B0.out).mono ?_; rintro e w1 ⟨rfl, h1⟩; have B1 := Lib.hid (B0.out.trans (h1.mono B0.out.size)); have T1 := Lib.hid (T0.out.laterP h1); obtain ⟨x00, x01, x02, x03, x04, x05, x06, x07⟩ := box_all8 (T1.out); clear h1)
            | (go_at_call 25; refine (K1.out _ B1.out).mono ?_; rintro e w2 ⟨rfl, h1⟩; have B2 := Lib.hid (B1.out.trans (h1.mono B1.out.size)); have T2 := Lib.hid (T1.out.laterP h1); obtain ⟨x10, x11, x12, x13, x14, x15, x16, x17⟩ := box_all8 (T2.out); clear h1)
            | (go_at_call 26; refine (K2.out _ B2.out).mono ?_; rintro e w3 ⟨rfl, h1⟩; have B3 := Lib.hid (B2.out.trans (h1.mono B2.out.size)); have T3 := Lib.hid (T2.out.laterP h1); obtain ⟨x20, x21, x22, x23, x24, x25, x26, x27⟩ := box_all8 (T3.out); clear h1)
            | (go_at_call 27; refine (K3.out _ B3.out).mono ?_; rintro e w4 ⟨rfl, h1⟩; have B4 := Lib.hid (B3.out.trans (h1.mono B3.out.size)); have T4 := Lib.hid (T3.out.laterP h1); obtain ⟨x30, x31, x32, x33, x34, x35, x36, x37⟩ := box_all8 (T4.out); clear h1))
          go_ret
          exact ⟨retBP R.out.symm, B4.out⟩
        · have R := Lib.hid (p := decide (canP p) = false) (decide_eq_false (fun z => e3 z.2.2.2))
          rw [e0] at K0
          simp only [decide_eq_true e1] at K1
          simp only [decide_eq_true e2] at K2
          simp only [decide_eq_false e3] at K3
          obtain ⟨na, nc, names, ua, uc, curs, pa, pc, pool, hor, cells, slots, stack, da, dc, days⟩ := p
          simp only at K0 K1 K2 K3 R B0 TB
          clear e0 e1 e2 e3
          go_enter Tryd.func17, Tryd.ntmps17
          have T0 := TB
          go_wp2_with (first
            | (go_at_call 24; refine (K0.out _ B0.out).mono ?_; rintro e w1 ⟨rfl, h1⟩; have B1 := Lib.hid (B0.out.trans (h1.mono B0.out.size)); have T1 := Lib.hid (T0.out.laterP h1); obtain ⟨x00, x01, x02, x03, x04, x05, x06, x07⟩ := box_all8 (T1.out); clear h1)
            | (go_at_call 25; refine (K1.out _ B1.out).mono ?_; rintro e w2 ⟨rfl, h1⟩; have B2 := Lib.hid (B1.out.trans (h1.mono B1.out.size)); have T2 := Lib.hid (T1.out.laterP h1); obtain ⟨x10, x11, x12, x13, x14, x15, x16, x17⟩ := box_all8 (T2.out); clear h1)
            | (go_at_call 26; refine (K2.out _ B2.out).mono ?_; rintro e w3 ⟨rfl, h1⟩; have B3 := Lib.hid (B2.out.trans (h1.mono B2.out.size)); have T3 := Lib.hid (T2.out.laterP h1); obtain ⟨x20, x21, x22, x23, x24, x25, x26, x27⟩ := box_all8 (T3.out); clear h1)
            | (go_at_call 27; refine (K3.out _ B3.out).mono ?_; rintro e w4 ⟨rfl, h1⟩; have B4 := Lib.hid (B3.out.trans (h1.mono B3.out.size)); have T4 := Lib.hid (T3.out.laterP h1); obtain ⟨x30, x31, x32, x33, x34, x35, x36, x37⟩ := box_all8 (T4.out); clear h1))
          go_ret
          exact ⟨retBP R.out.symm, B4.out⟩
      · have R := Lib.hid (p := decide (canP p) = false) (decide_eq_false (fun z => e2 z.2.2.1))
        rw [e0] at K0
        simp only [decide_eq_true e1] at K1
        simp only [decide_eq_false e2] at K2
        obtain ⟨na, nc, names, ua, uc, curs, pa, pc, pool, hor, cells, slots, stack, da, dc, days⟩ := p
        simp only at K0 K1 K2 R B0 TB
        clear e0 e1 e2
        go_enter Tryd.func17, Tryd.ntmps17
        have T0 := TB
        go_wp2_with (first
          | (go_at_call 24; refine (K0.out _ B0.out).mono ?_; rintro e w1 ⟨rfl, h1⟩; have B1 := Lib.hid (B0.out.trans (h1.mono B0.out.size)); have T1 := Lib.hid (T0.out.laterP h1); obtain ⟨x00, x01, x02, x03, x04, x05, x06, x07⟩ := box_all8 (T1.out); clear h1)
          | (go_at_call 25; refine (K1.out _ B1.out).mono ?_; rintro e w2 ⟨rfl, h1⟩; have B2 := Lib.hid (B1.out.trans (h1.mono B1.out.size)); have T2 := Lib.hid (T1.out.laterP h1); obtain ⟨x10, x11, x12, x13, x14, x15, x16, x17⟩ := box_all8 (T2.out); clear h1)
          | (go_at_call 26; refine (K2.out _ B2.out).mono ?_; rintro e w3 ⟨rfl, h1⟩; have B3 := Lib.hid (B2.out.trans (h1.mono B2.out.size)); have T3 := Lib.hid (T2.out.laterP h1); obtain ⟨x20, x21, x22, x23, x24, x25, x26, x27⟩ := box_all8 (T3.out); clear h1))
        go_ret
        exact ⟨retBP R.out.symm, B3.out⟩
    · have R := Lib.hid (p := decide (canP p) = false) (decide_eq_false (fun z => e1 z.2.1))
      rw [e0] at K0
      simp only [decide_eq_false e1] at K1
      obtain ⟨na, nc, names, ua, uc, curs, pa, pc, pool, hor, cells, slots, stack, da, dc, days⟩ := p
      simp only at K0 K1 R B0 TB
      clear e0 e1
      go_enter Tryd.func17, Tryd.ntmps17
      have T0 := TB
      go_wp2_with (first
        | (go_at_call 24; refine (K0.out _ B0.out).mono ?_; rintro e w1 ⟨rfl, h1⟩; have B1 := Lib.hid (B0.out.trans (h1.mono B0.out.size)); have T1 := Lib.hid (T0.out.laterP h1); obtain ⟨x00, x01, x02, x03, x04, x05, x06, x07⟩ := box_all8 (T1.out); clear h1)
        | (go_at_call 25; refine (K1.out _ B1.out).mono ?_; rintro e w2 ⟨rfl, h1⟩; have B2 := Lib.hid (B1.out.trans (h1.mono B1.out.size)); have T2 := Lib.hid (T1.out.laterP h1); obtain ⟨x10, x11, x12, x13, x14, x15, x16, x17⟩ := box_all8 (T2.out); clear h1))
      go_ret
      exact ⟨retBP R.out.symm, B2.out⟩
  · have R := Lib.hid (p := decide (canP p) = false) (decide_eq_false (fun z => e0 z.1))
    rw [Bool.eq_false_iff.2 e0] at K0
    obtain ⟨na, nc, names, ua, uc, curs, pa, pc, pool, hor, cells, slots, stack, da, dc, days⟩ := p
    simp only at K0 R B0 TB
    clear e0
    go_enter Tryd.func17, Tryd.ntmps17
    have T0 := TB
    go_wp2_with (first
      | (go_at_call 24; refine (K0.out _ B0.out).mono ?_; rintro e w1 ⟨rfl, h1⟩; have B1 := Lib.hid (B0.out.trans (h1.mono B0.out.size)); have T1 := Lib.hid (T0.out.laterP h1); obtain ⟨x00, x01, x02, x03, x04, x05, x06, x07⟩ := box_all8 (T1.out); clear h1))
    go_ret
    exact ⟨retBP R.out.symm, B1.out⟩
set_option maxRecDepth 100000 in
theorem canon_any {w : World} {p : Pg} (h : PV w p) (hR : Rws w) : Calls Tryd.prog 8 #[p.agg] w fun e w' => e = .returned (.int .i64 (if canP p then 0 else 121)) ∧ Below w.heap.size w w' := by
  have K := Lib.hid (canonical_any (h.later (allocBP w p.box)) (hR.below (allocBP w p.box)))
  have B0 := Lib.hid (allocBP w p.box)
  clear h hR
  by_cases e : canP p
  · have R := Lib.hid (p := (if canP p then (0 : Int) else 121) = 0) (if_pos e)
    rw [decide_eq_true e] at K
    rw [R.out]
    clear R e
    unfold Pg.agg at K
    unfold Pg.agg
    unfold Pg.box at B0 K
    obtain ⟨na, nc, names, ua, uc, curs, pa, pc, pool, hor, cells, slots, stack, da, dc, days⟩ := p
    go_enter Tryd.func8, Tryd.ntmps8
    go_wp2_with (go_at_call 17; refine K.out.mono ?_; rintro e w1 ⟨rfl, h1⟩; have B1 := Lib.hid (B0.out.trans (h1.mono B0.out.size)); clear h1)
    go_ret
    exact ⟨rfl, B1.out⟩
  · have R := Lib.hid (p := (if canP p then (0 : Int) else 121) = 121) (if_neg e)
    rw [decide_eq_false e] at K
    rw [R.out]
    clear R e
    unfold Pg.agg at K
    unfold Pg.agg
    unfold Pg.box at B0 K
    obtain ⟨na, nc, names, ua, uc, curs, pa, pc, pool, hor, cells, slots, stack, da, dc, days⟩ := p
    go_enter Tryd.func8, Tryd.ntmps8
    go_wp2_with (go_at_call 17; refine K.out.mono ?_; rintro e w1 ⟨rfl, h1⟩; have B1 := Lib.hid (B0.out.trans (h1.mono B0.out.size)); clear h1)
    go_ret
    exact ⟨rfl, B1.out⟩
end Go.Proofs.YteedkcmjhdabeaaDoor
