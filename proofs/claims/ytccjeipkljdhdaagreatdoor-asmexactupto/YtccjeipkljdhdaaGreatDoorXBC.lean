import Derived.Test.YtccjeipkljdhdaaGreatDoorXBA
import Derived.Test.YtccjeipkljdhdaaGreatDoorXBB
namespace Go.Proofs.YtccjeipkljdhdaaGreatDoor
open Go.RowKit
set_option linter.unusedVariables false
set_option linter.unusedSimpArgs false
theorem make_intsN (n : Nat) (hn : n ≤ 17592186043905) (W : World) : (Instr.makeSlice 24 (.int .i64 (n : Int)) (.int .i64 (n : Int))).run Tryz.prog W = .ok (.slice (some ⟨W.heap.size, 0, none⟩) n n) (W.alloc (.cells (madeCells #[.int .i64 0] n) 3)) := by
  obtain ⟨i0, hi, hz0, hz1, hz2⟩ := info_parts infoPN
  have := run_make (P := Tryz.prog) W 24 3 i0 _ Tryz.underlying24 hi hz0 .i64 .i64 n n (by omega) (by omega) (by rw [hz2]; omega) (by omega)
  rw [hz1] at this
  simpa [Value.cells] using this
theorem made_intsN (a : Nat) : (madeCells #[.int .i64 0] a).toList = intsP (List.replicate a 0) := by
  apply List.ext_getElem?
  intro k
  by_cases hk : k < a
  · unfold madeCells intsP
    simp [hk, List.getElem?_replicate, Nat.mod_one]
  · rw [List.getElem?_eq_none (by simp [madeCells]; omega), List.getElem?_eq_none (by simp [intsP]; omega)]
theorem rno_of {W : World} {B g a : Nat} (h : W.heap[g]? = some (.cells (madeCells #[.int .i64 0] a) 3)) (hB : B ≤ g) (ha : a ≤ 17592186043905) : RNo W B g (List.replicate a 0) := by
  unfold RNo
  rw [List.length_replicate]
  refine ⟨by simp [intsP], .inr ⟨g, a, madeCells #[.int .i64 0] a, rfl, hB, h, Nat.le_refl _, by unfold maxLen; omega, by simp [madeCells], ?_⟩⟩
  rw [made_intsN, List.take_of_length_le (by simp [intsP])]
theorem rel_new (a : Nat) : Rel (List.replicate a 0) (List.replicate a false) 0 := by
  refine ⟨by simp, fun j hj => ?_⟩
  have h : j < a := by simpa using hj
  simp [List.getD, List.getElem?_replicate, h]
theorem four_heap (w : World) (o1 o2 o3 o4 : Obj) : ((((w.alloc o1).alloc o2).alloc o3).alloc o4).heap[w.heap.size]? = some o1 ∧ ((((w.alloc o1).alloc o2).alloc o3).alloc o4).heap[w.heap.size + 1]? = some o2 ∧ ((((w.alloc o1).alloc o2).alloc o3).alloc o4).heap[w.heap.size + 1 + 1]? = some o3 ∧ ((((w.alloc o1).alloc o2).alloc o3).alloc o4).heap[w.heap.size + 1 + 1 + 1]? = some o4 := by
  have e1 : (w.alloc o1).heap.size = w.heap.size + 1 := by simp
  have e2 : ((w.alloc o1).alloc o2).heap.size = w.heap.size + 1 + 1 := by simp
  have e3 : (((w.alloc o1).alloc o2).alloc o3).heap.size = w.heap.size + 1 + 1 + 1 := by simp
  have k1 := heapN w o1
  have k2 := heapN (w.alloc o1) o2
  have k3 := heapN ((w.alloc o1).alloc o2) o3
  have k4 := heapN (((w.alloc o1).alloc o2).alloc o3) o4
  rw [e1] at k2
  rw [e2] at k3
  rw [e3] at k4
  refine ⟨?_, ?_, ?_, k4⟩
  · rw [Below.heap_alloc _ _ _ (by omega), Below.heap_alloc _ _ _ (by omega), Below.heap_alloc _ _ _ (by omega)]; exact k1
  · rw [Below.heap_alloc _ _ _ (by omega), Below.heap_alloc _ _ _ (by omega)]; exact k2
  · rw [Below.heap_alloc _ _ _ (by omega)]; exact k3
theorem four_bel (w : World) (o1 o2 o3 o4 : Obj) : Below w.heap.size w ((((w.alloc o1).alloc o2).alloc o3).alloc o4) := (((((Below.refl _ w).alloc (Nat.le_refl _) o1).alloc (by simp) o2).alloc (by simp; omega) o3).alloc (by simp; omega) o4)
theorem four_uses (w : World) (a b c : Nat) (ob : Obj) (ha : a ≤ 17592186043905) (hb : b ≤ 17592186043905) (hc : c ≤ 17592186043905) :
    ∀ W, W = ((((w.alloc (.cells (madeCells #[.int .i64 0] a) 3)).alloc (.cells (madeCells #[.int .i64 0] b) 3)).alloc (.cells (madeCells #[.int .i64 0] c) 3)).alloc ob).drew → RNo W w.heap.size w.heap.size (List.replicate a 0) ∧ RNo W w.heap.size (w.heap.size + 1) (List.replicate b 0) ∧ RNo W w.heap.size (w.heap.size + 1 + 1) (List.replicate c 0) ∧ W.heap[w.heap.size + 1 + 1 + 1]? = some ob ∧ Below w.heap.size w W := by
  intro W hW
  subst hW
  obtain ⟨q1, q2, q3, q4⟩ := four_heap w (.cells (madeCells #[.int .i64 0] a) 3) (.cells (madeCells #[.int .i64 0] b) 3) (.cells (madeCells #[.int .i64 0] c) 3) ob
  exact ⟨rno_of q1 (by omega) ha, rno_of q2 (by omega) hb, rno_of q3 (by omega) hc, q4, (four_bel w _ _ _ _).drew⟩
theorem uc_new {W : World} {p : Pg} {B ub gn gu gp : Nat} (hb : BkP W ub #[.slice (some ⟨gn, 0, none⟩) p.names.length p.names.length, .slice (some ⟨gu, 0, none⟩) p.curs.length p.curs.length, .slice (some ⟨gp, 0, none⟩) p.pool.length p.pool.length] 109) (r1 : RNo W B gn (List.replicate p.names.length 0)) (r2 : RNo W B gu (List.replicate p.curs.length 0)) (r3 : RNo W B gp (List.replicate p.pool.length 0))
    (ne : gn ≠ gu ∧ gn ≠ gp ∧ gu ≠ gp ∧ ub ≠ gn ∧ ub ≠ gu ∧ ub ≠ gp) (bb : B ≤ ub ∧ B ≤ gn ∧ B ≤ gu ∧ B ≤ gp) : UC W p B ub gn gu gp (List.replicate p.names.length false) (List.replicate p.curs.length false) (List.replicate p.pool.length false) 0 :=
  ⟨_, _, _, ⟨hb, r1, r2, r3, by simp, by simp, by simp, ne, bb⟩, rel_new _, rel_new _, rel_new _⟩
theorem box_all2P {w : World} {x : Nat} {a b : Value} {t : TypeId} (k : BkP w x #[a, b] t) : w.cell? ⟨x, 0, none⟩ = some a ∧ w.cell? ⟨x, 1, none⟩ = some b := by
  unfold BkP at k
  refine ⟨?_, ?_⟩ <;> simp [World.cell?, k]
theorem retN121 {a : Int} (h : a = 121) : Ending.returned (.int .i64 121) = .returned (.int .i64 a) := by rw [h]
theorem retN0 {a : Int} (h : a = 0) : Ending.returned (.int .i64 0) = .returned (.int .i64 a) := by rw [h]
theorem BkP.belowP {W W' : World} {B b : Nat} {cs : Array Value} {t : TypeId} (h : BkP W b cs t) (g : Below B W W') (hb : b < B) : BkP W' b cs t := (g.block b hb).trans h
set_option maxRecDepth 100000 in
set_option maxHeartbeats 40000000 in
theorem canonR_any {w : World} {p : Pg} (h : PV w p) : Calls Tryz.prog 31 #[p.agg] w fun e w' => e = .returned (.int .i64 (if canP p then 0 else 121)) ∧ Below w.heap.size w w' := by
  have KL := Lib.hid (listsR_any (h.later (allocBP w p.box)))
  have B0 := Lib.hid (allocBP w p.box)
  have TB := Lib.hid (p := BkP (w.alloc p.box) w.heap.size p.arr 27) (heapN _ _)
  have HP := Lib.hid h
  have DRF := Lib.hid (fun (W : World) (g : Below w.heap.size w W) => (h.later g).days.2.2.2.2)
  have DGF := Lib.hid (fun (W : World) (g : Below w.heap.size w W) => (h.later g).days.2.2.2.1)
  have CL := Lib.hid (p := ∀ s ∈ p.days, s.code.length ≤ 5864062014634) (fun s hs => (h.days.2.2.2.1 s hs).2.2.2.1)
  have n3 := h.days.2.2.1
  have LN := Lib.hid (p := p.names.length ≤ 17592186043904 ∧ p.curs.length ≤ 17592186043904 ∧ p.pool.length ≤ 17592186043904) ⟨by have := h.names.2.2.1; omega, by have := h.curs.2.2.1; omega, h.pool.2.2.1⟩
  clear h
  by_cases e : lstP p ∧ numP p = true
  · have EL := Lib.hid (p := (decide (lstP p) && numP p) = true) (by rw [decide_eq_true e.1, e.2]; rfl)
    have HOR := Lib.hid (numP_hor e.2)
    rw [EL.out] at KL
    have L0 := Lib.hid (p := p.names.length ≤ 17592186043905) (by have := HP.out.names.2.2.1; omega)
    have L1 := Lib.hid (p := p.curs.length ≤ 17592186043905) (by have := HP.out.curs.2.2.1; omega)
    have L2 := Lib.hid (p := p.pool.length ≤ 17592186043905) (by have := HP.out.pool.2.2.1; omega)
    have M0 := make_intsN p.names.length L0.out
    have M1 := make_intsN p.curs.length L1.out
    have M2 := make_intsN p.pool.length L2.out
    have CY := Lib.hid (p := dayP p → useP p → canP p) (fun z1 z2 => ⟨e.2, e.1, z1, z2⟩)
    have CD := Lib.hid (p := ¬ dayP p → (if canP p then (0 : Int) else 121) = 121) (fun z => if_neg (fun q => z q.2.2.1))
    have CU := Lib.hid (p := ¬ useP p → (if canP p then (0 : Int) else 121) = 121) (fun z => if_neg (fun q => z q.2.2.2))
    have CC := Lib.hid (p := canP p → (if canP p then (0 : Int) else 121) = 0) (fun z => if_pos z)
    have DEF := Lib.hid (p := (dayP p ↔ (∀ i, i < p.days.length → dayI p.days p.hor i) ∧ totN p.days p.days.length ≤ 262144) ∧ (useP p ↔ (∀ i, i < p.days.length → codeP p (p.days.getD i default).code) ∧ ((mkAll 3 p.days (List.replicate p.names.length false)).all id && (mkAll 28 p.days (List.replicate p.curs.length false)).all id && (mkAll 1 p.days (List.replicate p.pool.length false)).all id) = true)) ⟨Iff.rfl, Iff.rfl⟩
    generalize (if canP p then (0 : Int) else 121) = RES at *
    unfold Pg.agg at KL
    unfold Pg.agg
    unfold Pg.box at B0 TB KL
    unfold Pg.arr at TB
    clear e EL
    obtain ⟨na, nc, names, ua, uc, curs, pa, pc, pool, hor, cells, slots, stack, da, dc, days⟩ := p
    simp only at KL B0 TB HOR L0 L1 L2 M0 M1 M2 CY CD CU DEF DRF DGF CL n3 LN
    go_enter Tryz.func31, Tryz.ntmps31
    go_upto_region 4 with (go_at_call 61; refine KL.out.mono ?_; rintro e w1 ⟨rfl, h1⟩; have B1 := Lib.hid (B0.out.trans (h1.mono B0.out.size)); have WL := Lib.hid (p := w.heap.size < w1.heap.size) (by have := h1.size; simp at this; omega); have T1 := Lib.hid (TB.out.laterP h1); obtain ⟨x0, x1, x2, x3, x4, x5, x6, x7⟩ := box_all8 (T1.out); clear h1)
    go_cut [4] (fun v wx => ∃ ub gn gu gp, v = .pointer (some ⟨ub, 0, none⟩) ∧ UC wx ⟨na, nc, names, ua, uc, curs, pa, pc, pool, hor, cells, slots, stack, da, dc, days⟩ w1.heap.size ub gn gu gp (List.replicate names.length false) (List.replicate curs.length false) (List.replicate pool.length false) 0 ∧ Below w1.heap.size w1 wx)
    case first =>
      have m0 := cell_keepA x0 (.cells (madeCells #[.int .i64 0] names.length) 3)
      have m1 := cell_keepA x1 (.cells (madeCells #[.int .i64 0] names.length) 3)
      have m2 := cell_keepA x2 (.cells (madeCells #[.int .i64 0] names.length) 3)
      have m3 := cell_keepA (cell_keepA x0 (.cells (madeCells #[.int .i64 0] names.length) 3)) (.cells (madeCells #[.int .i64 0] curs.length) 3)
      have m4 := cell_keepA (cell_keepA x1 (.cells (madeCells #[.int .i64 0] names.length) 3)) (.cells (madeCells #[.int .i64 0] curs.length) 3)
      have m5 := cell_keepA (cell_keepA x2 (.cells (madeCells #[.int .i64 0] names.length) 3)) (.cells (madeCells #[.int .i64 0] curs.length) 3)
      have m6 := cell_keepA (cell_keepA x0 (.cells (madeCells #[.int .i64 0] names.length) 3)) (.cells (madeCells #[.int .i64 0] pool.length) 3)
      have m7 := cell_keepA (cell_keepA x1 (.cells (madeCells #[.int .i64 0] names.length) 3)) (.cells (madeCells #[.int .i64 0] pool.length) 3)
      have m8 := cell_keepA (cell_keepA x2 (.cells (madeCells #[.int .i64 0] names.length) 3)) (.cells (madeCells #[.int .i64 0] pool.length) 3)
      have m9 := cell_keepA x0 (.cells (madeCells #[.int .i64 0] curs.length) 3)
      have m10 := cell_keepA x1 (.cells (madeCells #[.int .i64 0] curs.length) 3)
      have m11 := cell_keepA x2 (.cells (madeCells #[.int .i64 0] curs.length) 3)
      have m12 := cell_keepA (cell_keepA x0 (.cells (madeCells #[.int .i64 0] curs.length) 3)) (.cells (madeCells #[.int .i64 0] names.length) 3)
      have m13 := cell_keepA (cell_keepA x1 (.cells (madeCells #[.int .i64 0] curs.length) 3)) (.cells (madeCells #[.int .i64 0] names.length) 3)
      have m14 := cell_keepA (cell_keepA x2 (.cells (madeCells #[.int .i64 0] curs.length) 3)) (.cells (madeCells #[.int .i64 0] names.length) 3)
      have m15 := cell_keepA (cell_keepA x0 (.cells (madeCells #[.int .i64 0] curs.length) 3)) (.cells (madeCells #[.int .i64 0] pool.length) 3)
      have m16 := cell_keepA (cell_keepA x1 (.cells (madeCells #[.int .i64 0] curs.length) 3)) (.cells (madeCells #[.int .i64 0] pool.length) 3)
      have m17 := cell_keepA (cell_keepA x2 (.cells (madeCells #[.int .i64 0] curs.length) 3)) (.cells (madeCells #[.int .i64 0] pool.length) 3)
      have m18 := cell_keepA x0 (.cells (madeCells #[.int .i64 0] pool.length) 3)
      have m19 := cell_keepA x1 (.cells (madeCells #[.int .i64 0] pool.length) 3)
      have m20 := cell_keepA x2 (.cells (madeCells #[.int .i64 0] pool.length) 3)
      have m21 := cell_keepA (cell_keepA x0 (.cells (madeCells #[.int .i64 0] pool.length) 3)) (.cells (madeCells #[.int .i64 0] names.length) 3)
      have m22 := cell_keepA (cell_keepA x1 (.cells (madeCells #[.int .i64 0] pool.length) 3)) (.cells (madeCells #[.int .i64 0] names.length) 3)
      have m23 := cell_keepA (cell_keepA x2 (.cells (madeCells #[.int .i64 0] pool.length) 3)) (.cells (madeCells #[.int .i64 0] names.length) 3)
      have m24 := cell_keepA (cell_keepA x0 (.cells (madeCells #[.int .i64 0] pool.length) 3)) (.cells (madeCells #[.int .i64 0] curs.length) 3)
      have m25 := cell_keepA (cell_keepA x1 (.cells (madeCells #[.int .i64 0] pool.length) 3)) (.cells (madeCells #[.int .i64 0] curs.length) 3)
      have m26 := cell_keepA (cell_keepA x2 (.cells (madeCells #[.int .i64 0] pool.length) 3)) (.cells (madeCells #[.int .i64 0] curs.length) 3)
      clear x3 x4 x5 x6 x7
      go_wp2
      go_region
      all_goals
        go_wp2
        go_meet
        case rel => first
        | (have F := fun ob => four_uses w1 _ _ _ ob L0.out L1.out L2.out _ rfl
           exact ⟨w1.heap.size + 1 + 1 + 1, w1.heap.size, w1.heap.size + 1, w1.heap.size + 1 + 1, rfl, uc_new (F _).2.2.2.1 (F _).1 (F _).2.1 (F _).2.2.1 (by omega) (by omega), (F _).2.2.2.2⟩)
        | (have F := fun ob => four_uses w1 _ _ _ ob L0.out L2.out L1.out _ rfl
           exact ⟨w1.heap.size + 1 + 1 + 1, w1.heap.size, w1.heap.size + 1 + 1, w1.heap.size + 1, rfl, uc_new (F _).2.2.2.1 (F _).1 (F _).2.2.1 (F _).2.1 (by omega) (by omega), (F _).2.2.2.2⟩)
        | (have F := fun ob => four_uses w1 _ _ _ ob L1.out L0.out L2.out _ rfl
           exact ⟨w1.heap.size + 1 + 1 + 1, w1.heap.size + 1, w1.heap.size, w1.heap.size + 1 + 1, rfl, uc_new (F _).2.2.2.1 (F _).2.1 (F _).1 (F _).2.2.1 (by omega) (by omega), (F _).2.2.2.2⟩)
        | (have F := fun ob => four_uses w1 _ _ _ ob L1.out L2.out L0.out _ rfl
           exact ⟨w1.heap.size + 1 + 1 + 1, w1.heap.size + 1 + 1, w1.heap.size, w1.heap.size + 1, rfl, uc_new (F _).2.2.2.1 (F _).2.2.1 (F _).1 (F _).2.1 (by omega) (by omega), (F _).2.2.2.2⟩)
        | (have F := fun ob => four_uses w1 _ _ _ ob L2.out L0.out L1.out _ rfl
           exact ⟨w1.heap.size + 1 + 1 + 1, w1.heap.size + 1, w1.heap.size + 1 + 1, w1.heap.size, rfl, uc_new (F _).2.2.2.1 (F _).2.1 (F _).2.2.1 (F _).1 (by omega) (by omega), (F _).2.2.2.2⟩)
        | (have F := fun ob => four_uses w1 _ _ _ ob L2.out L1.out L0.out _ rfl
           exact ⟨w1.heap.size + 1 + 1 + 1, w1.heap.size + 1 + 1, w1.heap.size + 1, w1.heap.size, rfl, uc_new (F _).2.2.2.1 (F _).2.2.1 (F _).2.1 (F _).1 (by omega) (by omega), (F _).2.2.2.2⟩)
    case rest =>
      obtain ⟨ub, gn, gu, gp, rfl, hu, hb⟩ := hcut
      have U0 := Lib.hid hu
      have W0 := Lib.hid hb
      clear hu hb KL TB x0 x1 x2 x3 x4 x5 x6 x7 M0 M1 M2
      go_wp2
      go_loopw [5, 6] (fun b t wr => ∃ k : Nat, k ≤ days.length ∧ t = .int .i64 (k : Int) ∧ b = .int .i64 (totN days k : Int) ∧ RowKit.Hid (∀ i, i < k → codeP ⟨na, nc, names, ua, uc, curs, pa, pc, pool, hor, cells, slots, stack, da, dc, days⟩ (days.getD i default).code ∧ dayI days hor i) ∧ UC wr ⟨na, nc, names, ua, uc, curs, pa, pc, pool, hor, cells, slots, stack, da, dc, days⟩ w1.heap.size ub gn gu gp (mkAll 3 (days.take k) (List.replicate names.length false)) (mkAll 28 (days.take k) (List.replicate curs.length false)) (mkAll 1 (days.take k) (List.replicate pool.length false)) (totN days k) ∧ Below w1.heap.size w1 wr) (fun _ t _ => days.length - (intOf t).toNat)
      case atStart => exact ⟨0, by omega, rfl, rfl, (fun i hi => absurd hi (by omega)), U0.out, W0.out⟩
      case round =>
        clear U0 W0
        rename World => wr
        obtain ⟨k, hk, rfl, rfl, hE, hU, hB⟩ := hrel
        have UU := Lib.hid hU
        have BB := Lib.hid hB
        have pl := preD_le (fun i hi => (hE.out i hi).2) HOR.out.1
        have pk := HOR.out.2
        have tl := totN_le CL.out k
        have k61 : k ≤ 3661 := by have p1 := pl.1; have p2 := pl.2; omega
        have tl2 : totN days k ≤ 21468331035575074 := by omega
        have TT := Lib.hid (T1.out.belowP hB WL.out)
        obtain ⟨x0, x1, x2, x3, x4, x5, x6, x7⟩ := box_all8 (TT.out)
        by_cases hlt : k < days.length
        · have kc : (k : Int) < (days.length : Int) := by omega
          have ks : IntKind.i64.wrap ((k : Int) + 1) = (k : Int) + 1 := by simp [IntKind.wrap, IntKind.bits, IntKind.signed]; omega
          have GI := Lib.hid (DGF.out w1 B1.out _ (sg_mem (i := k) hlt)).2
          have F3 := Lib.hid (mkAll_next 3 (List.replicate names.length false) days k hlt)
          have F28 := Lib.hid (mkAll_next 28 (List.replicate curs.length false) days k hlt)
          have F1 := Lib.hid (mkAll_next 1 (List.replicate pool.length false) days k hlt)
          have TN := Lib.hid (totN_next hlt)
          have cl := CL.out _ (sg_mem (i := k) hlt)
          have kt := wrap_addP (totN days k) (days.getD k default).code.length (by omega)
          have NX := Lib.hid (p := codeP ⟨na, nc, names, ua, uc, curs, pa, pc, pool, hor, cells, slots, stack, da, dc, days⟩ (days.getD k default).code → dayI days hor k → ∀ i, i < k + 1 → codeP ⟨na, nc, names, ua, uc, curs, pa, pc, pool, hor, cells, slots, stack, da, dc, days⟩ (days.getD i default).code ∧ dayI days hor i) (fun e1 e2 i hi => by
            rcases (show i < k ∨ i = k by omega) with r | r
            · exact hE.out i r
            · rw [r]; exact ⟨e1, e2⟩)
          have CDk := Lib.hid (p := ¬ dayI days hor k → RES = 121) (fun z => CD.out (fun q => z ((DEF.out.1.1 q).1 k hlt)))
          have CUk := Lib.hid (p := ¬ codeP ⟨na, nc, names, ua, uc, curs, pa, pc, pool, hor, cells, slots, stack, da, dc, days⟩ (days.getD k default).code → RES = 121) (fun z => CU.out (fun q => z ((DEF.out.2.1 q).1 k hlt)))
          have DI := Lib.hid (p := dayI days hor k ↔ preD days k < (days.getD k default).day ∧ (days.getD k default).day ≤ hor) Iff.rfl
          have P0 := Lib.hid (p := k = 0 → preD days k = -1) (fun e => by rw [e]; rfl)
          obtain ⟨x, o, hda, _, hc⟩ := (DRF.out wr (B1.out.trans (hB.mono B1.out.size))).oneP (by omega)
          have c0 := hc k hlt 0 (by omega)
          have c1 := hc k hlt 1 (by omega)
          simp only [Sg.cs, Nat.add_zero, List.getD_cons_zero, List.getD_cons_succ] at c0 c1
          have CK := Lib.hid (p := ∀ W, Below w1.heap.size w1 W → ∀ j, k = j + 1 → W.cell? ⟨x, o + j * 2, none⟩ = some (.int .i64 (preD days k))) (fun W g j hj => by
            obtain ⟨x', o', hda', _, hc'⟩ := (DRF.out W (B1.out.trans (g.mono B1.out.size))).oneP (by omega)
            rw [hda] at hda'
            cases hda'
            have c := hc' j (by omega) 0 (by omega)
            simp only [Sg.cs, Nat.add_zero, List.getD_cons_zero] at c
            rw [hj]
            exact c)
          generalize days.getD k default = s at *
          generalize preD days k = pd at *
          generalize totN days k = td at *
          obtain ⟨sd, sa, sc, sl⟩ := s
          simp only at c0 c1 GI F3 F28 F1 TN cl kt NX CDk CUk DI
          have GL := Lib.hid (p := gn < wr.heap.size ∧ gu < wr.heap.size ∧ gp < wr.heap.size) (by obtain ⟨cn, cu, cp, hx, _⟩ := hU; exact ⟨(World.ownsRow.lt hx.rn gn rfl).2, (World.ownsRow.lt hx.ru gu rfl).2, (World.ownsRow.lt hx.rp gp rfl).2⟩)
          have U1 := Lib.hid (hU.later (allocBP wr (.cells #[.int .i64 sd, .slice sa sl.length sc] 39)))
          have B2 := Lib.hid (hB.alloc hB.size (.cells #[.int .i64 sd, .slice sa sl.length sc] 39))
          have T2 := Lib.hid (TT.out.laterP (allocBP wr (.cells #[.int .i64 sd, .slice sa sl.length sc] 39)))
          have KTk := Lib.hid (codeR_any w1 (wr.alloc (.cells #[.int .i64 sd, .slice sa sl.length sc] 39)) ⟨na, nc, names, ua, uc, curs, pa, pc, pool, hor, cells, slots, stack, da, dc, days⟩ ub gn gu gp _ _ _ td sa sl.length sc sl U1.out GI.out B2.out (by omega))
          unfold Pg.agg at KTk
          simp only at KTk
          obtain ⟨y0, y1, y2, y3, y4, y5, y6, y7⟩ := box_all8 (T2.out)
          have XB := Lib.hid (p := ∀ W, Fr (wr.alloc (.cells #[.int .i64 sd, .slice sa sl.length sc] 39)) W gn gu gp → BkP W wr.heap.size #[.int .i64 sd, .slice sa sl.length sc] 39) (fun W f => (f.blk wr.heap.size (by simp) (by have := GL.out; omega) (by have := GL.out; omega) (by have := GL.out; omega)).trans (heapN _ _))
          clear hc hE hU hB
          subst hda
          by_cases e1 : codeP ⟨na, nc, names, ua, uc, curs, pa, pc, pool, hor, cells, slots, stack, some ⟨x, o, none⟩, dc, days⟩ sl
          · have KTt := Lib.hid (p := Calls Tryz.prog 62 #[.agg #[.slice na names.length nc, .slice ua curs.length uc, .slice pa pool.length pc, .int .i64 hor, .int .i64 cells, .int .i64 slots, .int .i64 stack, .slice (some ⟨x, o, none⟩) days.length dc], .slice sa sl.length sc, .pointer (some ⟨ub, 0, none⟩)] (wr.alloc (.cells #[.int .i64 sd, .slice sa sl.length sc] 39)) fun e w' => e = .returned (.bool true) ∧ UC w' ⟨na, nc, names, ua, uc, curs, pa, pc, pool, hor, cells, slots, stack, some ⟨x, o, none⟩, dc, days⟩ w1.heap.size ub gn gu gp (sl.foldl (mkB 3) (mkAll 3 (days.take k) (List.replicate names.length false))) (sl.foldl (mkB 28) (mkAll 28 (days.take k) (List.replicate curs.length false))) (sl.foldl (mkB 1) (mkAll 1 (days.take k) (List.replicate pool.length false))) (td + sl.length) ∧ Below w1.heap.size w1 w' ∧ Fr (wr.alloc (.cells #[.int .i64 sd, .slice sa sl.length sc] 39)) w' gn gu gp) (by
              refine KTk.out.mono ?_
              rintro e w' ⟨⟨b, h1, h2, h3⟩, h4, h5⟩
              have hb := h2.2 e1
              subst hb
              exact ⟨h1, h3 rfl, h4, h5⟩)
            have NXe := Lib.hid (NX.out e1)
            clear e1 KTk NX CUk
            by_cases e2 : 0 ≤ sd ∧ sd ≤ hor
            · have KW := Lib.hid (p := ∀ W, Calls Tryz.prog 63 #[.int .i64 sd, .int .i64 hor] W fun e w' => e = .returned (.bool true) ∧ w' = W) (fun W => by have z := withinR_any sd hor W; rw [decide_eq_true e2.1, decide_eq_true e2.2] at z; exact z)
              by_cases k0 : k = 0
              · have kz1 : ¬ (0 : Int) < (k : Int) := by omega
                have kz2 : decide ((0 : Int) < (k : Int)) = false := decide_eq_false kz1
                have kz3 : ¬ 0 < k := by omega
                have NY := Lib.hid (NXe.out (DI.out.2 ⟨by rw [P0.out k0]; omega, e2.2⟩))
                clear e2 NXe CK CDk k0 P0 pl tl
                go_wp2_with (first
                  | (go_at_call 62; refine KTt.out.mono ?_; rintro e w3 ⟨rfl, hu, h3, h4⟩; have U3 := Lib.hid hu; have B3 := Lib.hid h3; have X3 := Lib.hid (XB.out w3 h4); have T3 := Lib.hid (T1.out.belowP h3 WL.out); obtain ⟨z0, z1⟩ := box_all2P X3.out; obtain ⟨t0, t1, t2, t3, t4, t5, t6, t7⟩ := box_all8 (T3.out); clear hu h3 h4)
                  | (go_at_call 63; refine (KW.out _).mono ?_; rintro e w4 ⟨rfl, h2⟩; subst h2))
                go_quiet (fail)
                go_wp2
                go_roundw
                case rel => exact ⟨k + 1, by omega, by go_num, by rw [TN.out]; simp, NY.out, by rw [F3.out, F28.out, F1.out, TN.out]; exact U3.out.later (bel_drB (Below.refl _ _) _), bel_drB B3.out _⟩
                case measure => simp [intOf]; omega
              · have kz1 : (0 : Int) < (k : Int) := by omega
                have kz2 : decide ((0 : Int) < (k : Int)) = true := decide_eq_true kz1
                have kz3 : 0 < k := by omega
                obtain ⟨j, hj⟩ : ∃ j, k = j + 1 := ⟨k - 1, by omega⟩
                have CJ := Lib.hid (fun W g => CK.out W g j hj)
                have kw : IntKind.i64.wrap ((k : Int) - 1) = (j : Int) := by simp [IntKind.wrap, IntKind.bits, IntKind.signed]; omega
                have kj : (j : Int) < (days.length : Int) := by omega
                clear CK hj k0 P0
                by_cases e3 : pd < sd
                · have b3 : decide (sd ≤ pd) = false := decide_eq_false (by omega)
                  have d3 : ¬ sd ≤ pd := by omega
                  have NY := Lib.hid (NXe.out (DI.out.2 ⟨e3, e2.2⟩))
                  clear e2 e3 NXe CDk pl tl
                  go_wp2_with (first
                    | (go_at_call 62; refine KTt.out.mono ?_; rintro e w3 ⟨rfl, hu, h3, h4⟩; have U3 := Lib.hid hu; have B3 := Lib.hid h3; have X3 := Lib.hid (XB.out w3 h4); have T3 := Lib.hid (T1.out.belowP h3 WL.out); obtain ⟨z0, z1⟩ := box_all2P X3.out; obtain ⟨t0, t1, t2, t3, t4, t5, t6, t7⟩ := box_all8 (T3.out); clear hu h3 h4)
                    | (go_at_call 63; refine (KW.out _).mono ?_; rintro e w4 ⟨rfl, h2⟩; subst h2; have cj := CJ.out _ B3.out))
                  go_quiet (fail)
                  go_wp2
                  go_roundw
                  case rel => exact ⟨k + 1, by omega, by go_num, by rw [TN.out]; simp, NY.out, by rw [F3.out, F28.out, F1.out, TN.out]; exact U3.out.later (bel_drB (Below.refl _ _) _), bel_drB B3.out _⟩
                  case measure => simp [intOf]; omega
                · have b3 : decide (sd ≤ pd) = true := decide_eq_true (by omega)
                  have d3 : sd ≤ pd := by omega
                  have RR := Lib.hid (CDk.out (fun q => e3 (DI.out.1 q).1))
                  clear e2 e3 NXe CDk pl tl
                  go_wp2_with (first
                    | (go_at_call 62; refine KTt.out.mono ?_; rintro e w3 ⟨rfl, hu, h3, h4⟩; have U3 := Lib.hid hu; have B3 := Lib.hid h3; have X3 := Lib.hid (XB.out w3 h4); have T3 := Lib.hid (T1.out.belowP h3 WL.out); obtain ⟨z0, z1⟩ := box_all2P X3.out; obtain ⟨t0, t1, t2, t3, t4, t5, t6, t7⟩ := box_all8 (T3.out); clear hu h3 h4)
                    | (go_at_call 63; refine (KW.out _).mono ?_; rintro e w4 ⟨rfl, h2⟩; subst h2; have cj := CJ.out _ B3.out))
                  go_quiet (fail)
                  go_wp2
                  go_ret
                  exact ⟨retN121 RR.out, B1.out.trans ((bel_drB B3.out _).mono B1.out.size)⟩
            · have KW := Lib.hid (p := ∀ W, Calls Tryz.prog 63 #[.int .i64 sd, .int .i64 hor] W fun e w' => e = .returned (.bool false) ∧ w' = W) (fun W => by
                have z := withinR_any sd hor W
                have hb : (decide (0 ≤ sd) && decide (sd ≤ hor)) = false := by
                  cases hh : (decide (0 ≤ sd) && decide (sd ≤ hor)) with
                  | false => rfl
                  | true => exact absurd (by simpa using hh) e2
                rw [hb] at z
                exact z)
              have RR := Lib.hid (CDk.out (fun q => e2 (by have := DI.out.1 q; have p1 := pl.1; omega)))
              clear e2 NXe CK CDk P0 pl tl
              go_wp2_with (first
                | (go_at_call 62; refine KTt.out.mono ?_; rintro e w3 ⟨rfl, hu, h3, h4⟩; have U3 := Lib.hid hu; have B3 := Lib.hid h3; have X3 := Lib.hid (XB.out w3 h4); have T3 := Lib.hid (T1.out.belowP h3 WL.out); obtain ⟨z0, z1⟩ := box_all2P X3.out; obtain ⟨t0, t1, t2, t3, t4, t5, t6, t7⟩ := box_all8 (T3.out); clear hu h3 h4)
                | (go_at_call 63; refine (KW.out _).mono ?_; rintro e w4 ⟨rfl, h2⟩; subst h2))
              go_quiet (fail)
              go_wp2
              go_ret
              exact ⟨retN121 RR.out, B1.out.trans ((bel_drB B3.out _).mono B1.out.size)⟩
          · have KTf := Lib.hid (p := Calls Tryz.prog 62 #[.agg #[.slice na names.length nc, .slice ua curs.length uc, .slice pa pool.length pc, .int .i64 hor, .int .i64 cells, .int .i64 slots, .int .i64 stack, .slice (some ⟨x, o, none⟩) days.length dc], .slice sa sl.length sc, .pointer (some ⟨ub, 0, none⟩)] (wr.alloc (.cells #[.int .i64 sd, .slice sa sl.length sc] 39)) fun e w' => e = .returned (.bool false) ∧ Below w1.heap.size w1 w' ∧ Fr (wr.alloc (.cells #[.int .i64 sd, .slice sa sl.length sc] 39)) w' gn gu gp) (by
              refine KTk.out.mono ?_
              rintro e w' ⟨⟨b, h1, h2, h3⟩, h4, h5⟩
              have hb : b = false := by cases b with | false => rfl | true => exact absurd (h2.1 rfl) e1
              subst hb
              exact ⟨h1, h4, h5⟩)
            have RR := Lib.hid (CUk.out e1)
            have KW := Lib.hid (fun W => withinR_any sd hor W)
            generalize (decide (0 ≤ sd) && decide (sd ≤ hor)) = bw at *
            clear e1 KTk NX CUk CK CDk P0 pl tl
            go_wp2_with (first
              | (go_at_call 62; refine KTf.out.mono ?_; rintro e w3 ⟨rfl, h3, h4⟩; have B3 := Lib.hid h3; have X3 := Lib.hid (XB.out w3 h4); have T3 := Lib.hid (T1.out.belowP h3 WL.out); obtain ⟨z0, z1⟩ := box_all2P X3.out; obtain ⟨t0, t1, t2, t3, t4, t5, t6, t7⟩ := box_all8 (T3.out); clear h3 h4)
              | (go_at_call 63; refine (KW.out _).mono ?_; rintro e w4 ⟨rfl, h2⟩; subst h2))
            go_quiet (fail)
            go_wp2
            go_ret
            exact ⟨retN121 RR.out, B1.out.trans ((bel_drB B3.out _).mono B1.out.size)⟩
        · obtain rfl : k = days.length := by omega
          have AL := Lib.hid hE.out
          obtain ⟨cn, cu, cp, hx, Rn, Ru, Rp⟩ := hU
          rw [List.take_length] at Rn Ru Rp
          have C0 := Lib.hid (noneR_any hx.rn Rn (by rw [hx.ln]; exact LN.out.1))
          have C1 := Lib.hid (noneR_any hx.ru Ru (by rw [hx.lu]; exact LN.out.2.1))
          have C2 := Lib.hid (noneR_any hx.rp Rp (by rw [hx.lp]; exact LN.out.2.2))
          rw [hx.ln] at C0
          rw [hx.lu] at C1
          rw [hx.lp] at C2
          obtain ⟨f0, f1, f2⟩ := box_all3U hx.box
          have DU := DEF.out.2
          have DD := DEF.out.1
          have kc : ¬ (days.length : Int) < (days.length : Int) := by omega
          simp only at C0 C1 C2 f0 f1 f2 DU DD
          have YES := Lib.hid (p := ((mkAll 3 days (List.replicate names.length false)).all id && (mkAll 28 days (List.replicate curs.length false)).all id && (mkAll 1 days (List.replicate pool.length false)).all id) = true → totN days days.length ≤ 262144 → RES = 0) (fun z1 z2 => CC.out (CY.out (DD.2 ⟨fun i hi => (AL.out i hi).2, z2⟩) (DU.2 ⟨fun i hi => (AL.out i hi).1, z1⟩)))
          have NO1 := Lib.hid (p := ((mkAll 3 days (List.replicate names.length false)).all id && (mkAll 28 days (List.replicate curs.length false)).all id && (mkAll 1 days (List.replicate pool.length false)).all id) = false → RES = 121) (fun z => CU.out (fun q => by have := (DU.1 q).2; rw [z] at this; cases this))
          have NO2 := Lib.hid (p := ¬ totN days days.length ≤ 262144 → RES = 121) (fun z => CD.out (fun q => z (DD.1 q).2))
          clear hx Rn Ru Rp DU DD CY CD CU CC DEF hE hB AL pl tl
          generalize (mkAll 3 days (List.replicate names.length false)).all id = q0 at *
          generalize (mkAll 28 days (List.replicate curs.length false)).all id = q1 at *
          generalize (mkAll 1 days (List.replicate pool.length false)).all id = q2 at *
          generalize totN days days.length = td at *
          have Q0 : True := trivial
          have Q1 : True := trivial
          by_cases e3 : td ≤ 262144
          · have b3 : decide ((262144 : Int) < (td : Int)) = false := decide_eq_false (by omega)
            have d3 : ¬ (262144 : Int) < (td : Int) := by omega
            have YE := Lib.hid (fun z => YES.out z e3)
            clear e3 YES NO2
            cases q0 <;> cases q1 <;> cases q2
            all_goals
              go_wp2_with (first
                | (go_at_call 64; have qq := Q0; refine C0.out.mono ?_; rintro e w3 ⟨rfl, h2⟩; subst h2; clear Q0)
                | (go_at_call 64; have qq := Q1; refine C1.out.mono ?_; rintro e w4 ⟨rfl, h2⟩; subst h2; clear Q1)
                | (go_at_call 64; refine C2.out.mono ?_; rintro e w5 ⟨rfl, h2⟩; subst h2))
              go_ret
              first
              | exact ⟨retN121 (NO1.out rfl), B1.out.trans (BB.out.mono B1.out.size)⟩
              | exact ⟨retN0 (YE.out rfl), B1.out.trans (BB.out.mono B1.out.size)⟩
          · have b3 : decide ((262144 : Int) < (td : Int)) = true := decide_eq_true (by omega)
            have d3 : (262144 : Int) < (td : Int) := by omega
            have RR := Lib.hid (NO2.out e3)
            clear e3 YES NO1 NO2
            cases q0 <;> cases q1 <;> cases q2
            all_goals
              go_wp2_with (first
                | (go_at_call 64; have qq := Q0; refine C0.out.mono ?_; rintro e w3 ⟨rfl, h2⟩; subst h2; clear Q0)
                | (go_at_call 64; have qq := Q1; refine C1.out.mono ?_; rintro e w4 ⟨rfl, h2⟩; subst h2; clear Q1)
                | (go_at_call 64; refine C2.out.mono ?_; rintro e w5 ⟨rfl, h2⟩; subst h2))
              go_ret
              exact ⟨retN121 RR.out, B1.out.trans (BB.out.mono B1.out.size)⟩
  · have EL := Lib.hid (p := (decide (lstP p) && numP p) = false) (by
      cases hh : (decide (lstP p) && numP p) with
      | false => rfl
      | true => exact absurd (by simpa using hh) e)
    have RR := Lib.hid (p := (if canP p then (0 : Int) else 121) = 121) (if_neg (fun q => e ⟨q.2.1, q.1⟩))
    generalize (if canP p then (0 : Int) else 121) = RES at *
    rw [EL.out] at KL
    unfold Pg.agg at KL
    unfold Pg.agg
    unfold Pg.box at B0 TB KL
    unfold Pg.arr at TB
    clear e EL
    obtain ⟨na, nc, names, ua, uc, curs, pa, pc, pool, hor, cells, slots, stack, da, dc, days⟩ := p
    simp only at KL B0 TB
    obtain ⟨x0, x1, x2, x3, x4, x5, x6, x7⟩ := box_all8 (TB.out)
    go_enter Tryz.func31, Tryz.ntmps31
    go_wp2_with (go_at_call 61; refine KL.out.mono ?_; rintro e w1 ⟨rfl, h1⟩; have B1 := Lib.hid (B0.out.trans (h1.mono B0.out.size)); clear h1)
    go_ret
    exact ⟨retN121 RR.out, B1.out⟩
end Go.Proofs.YtccjeipkljdhdaaGreatDoor
