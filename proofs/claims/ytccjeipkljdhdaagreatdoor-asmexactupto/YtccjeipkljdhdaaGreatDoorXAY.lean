import Derived.Test.YtccjeipkljdhdaaGreatDoorXAX
namespace Go.Proofs.YtccjeipkljdhdaaGreatDoor
open Go.RowKit
set_option linter.unusedVariables false
set_option linter.unusedSimpArgs false
theorem infoPB : (Tryz.prog.info? 4).map (fun i => (i.zero, i.size, i.bytes)) = some (some (.bool false), 1, 1) := by kernel_rfl
theorem make_bools (n : Nat) (hn : n ≤ 17592186043905) (W : World) : (Instr.makeSlice 123 (.int .i64 (n : Int)) (.int .i64 (n : Int))).run Tryz.prog W = .ok (.slice (some ⟨W.heap.size, 0, none⟩) n n) (W.alloc (.cells (madeCells #[.bool false] n) 4)) := by
  obtain ⟨i0, hi, hz0, hz1, hz2⟩ := info_parts infoPB
  have := run_make (P := Tryz.prog) W 123 4 i0 _ Tryz.underlying123 hi hz0 .i64 .i64 n n (by omega) (by omega) (by rw [hz2]; omega) (by omega)
  rw [hz1] at this
  simpa [Value.cells] using this
theorem made_bools (a : Nat) : (madeCells #[.bool false] a).toList = bsV (List.replicate a false) := by
  apply List.ext_getElem?
  intro k
  by_cases hk : k < a
  · unfold madeCells bsV
    simp [hk, List.getElem?_replicate, Nat.mod_one]
  · rw [List.getElem?_eq_none (by simp [madeCells]; omega), List.getElem?_eq_none (by simp [bsV]; omega)]
theorem rbo_of {W : World} {B g a : Nat} (h : W.heap[g]? = some (.cells (madeCells #[.bool false] a) 4)) (hB : B ≤ g) (ha : a ≤ 17592186043905) : RBo W B g (List.replicate a false) := by
  unfold RBo
  rw [List.length_replicate]
  refine ⟨by simp [bsV], .inr ⟨g, a, madeCells #[.bool false] a, rfl, hB, h, Nat.le_refl _, by unfold maxLen; omega, by simp [madeCells], ?_⟩⟩
  rw [made_bools, List.take_of_length_le (by simp [bsV])]
theorem five_heap (w : World) (o0 o1 o2 o3 o4 : Obj) : (((((w.alloc o0).alloc o1).alloc o2).alloc o3).alloc o4).heap[w.heap.size + 1]? = some o1 ∧ (((((w.alloc o0).alloc o1).alloc o2).alloc o3).alloc o4).heap[w.heap.size + 1 + 1]? = some o2 ∧ (((((w.alloc o0).alloc o1).alloc o2).alloc o3).alloc o4).heap[w.heap.size + 1 + 1 + 1]? = some o3 ∧ (((((w.alloc o0).alloc o1).alloc o2).alloc o3).alloc o4).heap[w.heap.size + 1 + 1 + 1 + 1]? = some o4 := by
  have e1 : (w.alloc o0).heap.size = w.heap.size + 1 := by simp
  have e2 : ((w.alloc o0).alloc o1).heap.size = w.heap.size + 1 + 1 := by simp
  have e3 : (((w.alloc o0).alloc o1).alloc o2).heap.size = w.heap.size + 1 + 1 + 1 := by simp
  have e4 : ((((w.alloc o0).alloc o1).alloc o2).alloc o3).heap.size = w.heap.size + 1 + 1 + 1 + 1 := by simp
  have k1 := heapN (w.alloc o0) o1
  have k2 := heapN ((w.alloc o0).alloc o1) o2
  have k3 := heapN (((w.alloc o0).alloc o1).alloc o2) o3
  have k4 := heapN ((((w.alloc o0).alloc o1).alloc o2).alloc o3) o4
  rw [e1] at k1
  rw [e2] at k2
  rw [e3] at k3
  rw [e4] at k4
  refine ⟨?_, ?_, ?_, k4⟩
  · rw [Below.heap_alloc _ _ _ (by omega), Below.heap_alloc _ _ _ (by omega), Below.heap_alloc _ _ _ (by omega)]; exact k1
  · rw [Below.heap_alloc _ _ _ (by omega), Below.heap_alloc _ _ _ (by omega)]; exact k2
  · rw [Below.heap_alloc _ _ _ (by omega)]; exact k3
/-- What usesOf leaves. -/
structure UoE (w : World) (p : Pg) (e : Ending) (w' : World) : Prop where
  say : ∃ gn gu gp, e = .returned (.agg #[.slice (some ⟨gn, 0, none⟩) p.names.length p.names.length, .slice (some ⟨gu, 0, none⟩) p.curs.length p.curs.length, .slice (some ⟨gp, 0, none⟩) p.pool.length p.pool.length, .int .i64 p.cells, .int .i64 p.slots]) ∧ RBo w' w.heap.size gn (List.replicate p.names.length false) ∧ RBo w' w.heap.size gu (List.replicate p.curs.length false) ∧ RBo w' w.heap.size gp (List.replicate p.pool.length false) ∧ gn ≠ gu ∧ gn ≠ gp ∧ gu ≠ gp ∧ w.heap.size ≤ gn ∧ w.heap.size ≤ gu ∧ w.heap.size ≤ gp
  bel : Below w.heap.size w w'
theorem five_bel (w : World) (o0 o1 o2 o3 o4 : Obj) : Below w.heap.size w (((((w.alloc o0).alloc o1).alloc o2).alloc o3).alloc o4) := ((((((Below.refl _ w).alloc (Nat.le_refl _) o0).alloc (by simp) o1).alloc (by simp; omega) o2).alloc (by simp; omega) o3).alloc (by simp; omega) o4)
theorem five_uses (w : World) (o0 o1 : Obj) (a b c : Nat) (ha : a ≤ 17592186043905) (hb : b ≤ 17592186043905) (hc : c ≤ 17592186043905) :
    RBo (((((w.alloc o0).alloc o1).alloc (.cells (madeCells #[.bool false] a) 4)).alloc (.cells (madeCells #[.bool false] b) 4)).alloc (.cells (madeCells #[.bool false] c) 4)).drew w.heap.size (w.heap.size + 1 + 1) (List.replicate a false) ∧ RBo (((((w.alloc o0).alloc o1).alloc (.cells (madeCells #[.bool false] a) 4)).alloc (.cells (madeCells #[.bool false] b) 4)).alloc (.cells (madeCells #[.bool false] c) 4)).drew w.heap.size (w.heap.size + 1 + 1 + 1) (List.replicate b false) ∧ RBo (((((w.alloc o0).alloc o1).alloc (.cells (madeCells #[.bool false] a) 4)).alloc (.cells (madeCells #[.bool false] b) 4)).alloc (.cells (madeCells #[.bool false] c) 4)).drew w.heap.size (w.heap.size + 1 + 1 + 1 + 1) (List.replicate c false) ∧ Below w.heap.size w (((((w.alloc o0).alloc o1).alloc (.cells (madeCells #[.bool false] a) 4)).alloc (.cells (madeCells #[.bool false] b) 4)).alloc (.cells (madeCells #[.bool false] c) 4)).drew := by
  obtain ⟨q1, q2, q3, q4⟩ := five_heap w o0 o1 (.cells (madeCells #[.bool false] a) 4) (.cells (madeCells #[.bool false] b) 4) (.cells (madeCells #[.bool false] c) 4)
  exact ⟨rbo_of q2 (by omega) ha, rbo_of q3 (by omega) hb, rbo_of q4 (by omega) hc, (five_bel w _ _ _ _ _).drew⟩
set_option maxRecDepth 100000 in
set_option maxHeartbeats 8000000 in
theorem usesOf_any {w : World} {p : Pg} (h : PV w p) : Calls Tryz.prog 80 #[p.agg] w fun e w' => UoE w p e w' := by
  have L0 := Lib.hid (p := p.names.length ≤ 17592186043905) (by have := h.names.2.2.1; omega)
  have L1 := Lib.hid (p := p.curs.length ≤ 17592186043905) (by have := h.curs.2.2.1; omega)
  have L2 := Lib.hid (p := p.pool.length ≤ 17592186043905) (by have := h.pool.2.2.1; omega)
  have M0 := make_bools p.names.length L0.out
  have M1 := make_bools p.curs.length L1.out
  have M2 := make_bools p.pool.length L2.out
  unfold Pg.agg
  clear h
  obtain ⟨na, nc, names, ua, uc, curs, pa, pc, pool, hor, cells, slots, stack, da, dc, days⟩ := p
  simp only at M0 M1 M2 L0 L1 L2
  go_enter Tryz.func80, Tryz.ntmps80
  go_wp2
  go_region
  all_goals
    go_wp2
    first
      | (refine bodyPost_ret (v := .agg #[.slice (some ⟨w.heap.size + 1 + 1, 0, none⟩) names.length names.length, .slice (some ⟨w.heap.size + 1 + 1 + 1, 0, none⟩) curs.length curs.length, .slice (some ⟨w.heap.size + 1 + 1 + 1 + 1, 0, none⟩) pool.length pool.length, .int .i64 cells, .int .i64 slots]) ?r rfl ?s
         case r => simp [results, Tryz.results80, go_sem]
         case s =>
           have F := fun o0 o1 => five_uses w o0 o1 _ _ _ L0.out L1.out L2.out
           exact ⟨⟨_, _, _, rfl, (F _ _).1, (F _ _).2.1, (F _ _).2.2.1, by omega, by omega, by omega, by omega, by omega, by omega⟩, (F _ _).2.2.2⟩)
      | (refine bodyPost_ret (v := .agg #[.slice (some ⟨w.heap.size + 1 + 1, 0, none⟩) names.length names.length, .slice (some ⟨w.heap.size + 1 + 1 + 1 + 1, 0, none⟩) curs.length curs.length, .slice (some ⟨w.heap.size + 1 + 1 + 1, 0, none⟩) pool.length pool.length, .int .i64 cells, .int .i64 slots]) ?r rfl ?s
         case r => simp [results, Tryz.results80, go_sem]
         case s =>
           have F := fun o0 o1 => five_uses w o0 o1 _ _ _ L0.out L2.out L1.out
           exact ⟨⟨_, _, _, rfl, (F _ _).1, (F _ _).2.2.1, (F _ _).2.1, by omega, by omega, by omega, by omega, by omega, by omega⟩, (F _ _).2.2.2⟩)
      | (refine bodyPost_ret (v := .agg #[.slice (some ⟨w.heap.size + 1 + 1 + 1, 0, none⟩) names.length names.length, .slice (some ⟨w.heap.size + 1 + 1, 0, none⟩) curs.length curs.length, .slice (some ⟨w.heap.size + 1 + 1 + 1 + 1, 0, none⟩) pool.length pool.length, .int .i64 cells, .int .i64 slots]) ?r rfl ?s
         case r => simp [results, Tryz.results80, go_sem]
         case s =>
           have F := fun o0 o1 => five_uses w o0 o1 _ _ _ L1.out L0.out L2.out
           exact ⟨⟨_, _, _, rfl, (F _ _).2.1, (F _ _).1, (F _ _).2.2.1, by omega, by omega, by omega, by omega, by omega, by omega⟩, (F _ _).2.2.2⟩)
      | (refine bodyPost_ret (v := .agg #[.slice (some ⟨w.heap.size + 1 + 1 + 1, 0, none⟩) names.length names.length, .slice (some ⟨w.heap.size + 1 + 1 + 1 + 1, 0, none⟩) curs.length curs.length, .slice (some ⟨w.heap.size + 1 + 1, 0, none⟩) pool.length pool.length, .int .i64 cells, .int .i64 slots]) ?r rfl ?s
         case r => simp [results, Tryz.results80, go_sem]
         case s =>
           have F := fun o0 o1 => five_uses w o0 o1 _ _ _ L2.out L0.out L1.out
           exact ⟨⟨_, _, _, rfl, (F _ _).2.1, (F _ _).2.2.1, (F _ _).1, by omega, by omega, by omega, by omega, by omega, by omega⟩, (F _ _).2.2.2⟩)
      | (refine bodyPost_ret (v := .agg #[.slice (some ⟨w.heap.size + 1 + 1 + 1 + 1, 0, none⟩) names.length names.length, .slice (some ⟨w.heap.size + 1 + 1, 0, none⟩) curs.length curs.length, .slice (some ⟨w.heap.size + 1 + 1 + 1, 0, none⟩) pool.length pool.length, .int .i64 cells, .int .i64 slots]) ?r rfl ?s
         case r => simp [results, Tryz.results80, go_sem]
         case s =>
           have F := fun o0 o1 => five_uses w o0 o1 _ _ _ L1.out L2.out L0.out
           exact ⟨⟨_, _, _, rfl, (F _ _).2.2.1, (F _ _).1, (F _ _).2.1, by omega, by omega, by omega, by omega, by omega, by omega⟩, (F _ _).2.2.2⟩)
      | (refine bodyPost_ret (v := .agg #[.slice (some ⟨w.heap.size + 1 + 1 + 1 + 1, 0, none⟩) names.length names.length, .slice (some ⟨w.heap.size + 1 + 1 + 1, 0, none⟩) curs.length curs.length, .slice (some ⟨w.heap.size + 1 + 1, 0, none⟩) pool.length pool.length, .int .i64 cells, .int .i64 slots]) ?r rfl ?s
         case r => simp [results, Tryz.results80, go_sem]
         case s =>
           have F := fun o0 o1 => five_uses w o0 o1 _ _ _ L2.out L1.out L0.out
           exact ⟨⟨_, _, _, rfl, (F _ _).2.2.1, (F _ _).2.1, (F _ _).1, by omega, by omega, by omega, by omega, by omega, by omega⟩, (F _ _).2.2.2⟩)
end Go.Proofs.YtccjeipkljdhdaaGreatDoor

namespace Go.Proofs.YtccjeipkljdhdaaGreatDoor
open Go.RowKit
set_option linter.unusedVariables false
set_option linter.unusedSimpArgs false
set_option maxRecDepth 100000 in
set_option maxHeartbeats 4000000 in
theorem allU_any {w : World} {p : Pg} {B ub gn gu gp : Nat} {bn bu bp : List Bool} (h : US w p B ub gn gu gp bn bu bp) (h0 : bn.length ≤ 17592186043904) (h1 : bu.length ≤ 17592186043904) (h2 : bp.length ≤ 17592186043904) :
    Calls Tryz.prog 82 #[.pointer (some ⟨ub, 0, none⟩)] w fun e w' => e = .returned (.bool (bn.all id && bu.all id && bp.all id)) ∧ Below w.heap.size w w' := by
  have K0 := Lib.hid (fun W (b : Below w.heap.size w W) => containsB_any (h.later b).rn h0)
  have K1 := Lib.hid (fun W (b : Below w.heap.size w W) => containsB_any (h.later b).ru h1)
  have K2 := Lib.hid (fun W (b : Below w.heap.size w W) => containsB_any (h.later b).rp h2)
  obtain ⟨u0, u1, u2, u3, u4⟩ := box_all5P h.box
  clear h h0 h1 h2 u3 u4
  generalize bn.all id = b0 at *
  generalize bu.all id = b1 at *
  generalize bp.all id = b2 at *
  generalize bn.length = n0 at *
  generalize bu.length = n1 at *
  generalize bp.length = n2 at *
  have C0 := Lib.hid (K0.out w (Below.refl _ _))
  have C1 := Lib.hid (K1.out w (Below.refl _ _))
  have C2 := Lib.hid (K2.out w (Below.refl _ _))
  clear K0 K1 K2
  have Q0 : True := trivial
  have Q1 : True := trivial
  cases b0 <;> cases b1 <;> cases b2
  all_goals
    go_enter Tryz.func82, Tryz.ntmps82
    go_wp2_with (first
      | (go_at_call 107; have qq := Q0; refine C0.out.mono ?_; rintro e w1 ⟨rfl, h1⟩; subst h1; clear Q0)
      | (go_at_call 107; have qq := Q1; refine C1.out.mono ?_; rintro e w1 ⟨rfl, h1⟩; subst h1; clear Q1)
      | (go_at_call 107; refine C2.out.mono ?_; rintro e w1 ⟨rfl, h1⟩; subst h1))
    go_ret
    exact ⟨rfl, Below.refl _ _⟩
/-- All instructions' marks. -/
def mkAll (op : Int) (l : List Sg) (bs : List Bool) : List Bool := l.foldl (fun b s => s.code.foldl (mkB op) b) bs
theorem mkAll_next (op : Int) (bs : List Bool) (l : List Sg) (k : Nat) (h : k < l.length) : mkAll op (l.take (k + 1)) bs = (l.getD k default).code.foldl (mkB op) (mkAll op (l.take k) bs) := by
  unfold mkAll
  rw [List.take_succ_eq_append_getElem h, List.foldl_append]
  simp [List.getD, h]
def useP (p : Pg) : Prop := (∀ i, i < p.days.length → codeP p (p.days.getD i default).code) ∧ ((mkAll 3 p.days (List.replicate p.names.length false)).all id && (mkAll 28 p.days (List.replicate p.curs.length false)).all id && (mkAll 1 p.days (List.replicate p.pool.length false)).all id) = true
noncomputable instance (p : Pg) : Decidable (useP p) := Classical.propDecidable _
theorem RBo.mono {W : World} {B B' g : Nat} {bs : List Bool} (h : RBo W B g bs) (hb : B' ≤ B) : RBo W B' g bs := by
  refine ⟨h.1, ?_⟩
  rcases h.2 with q | ⟨g, cap, cur, q1, q2, q3⟩
  · exact .inl q
  · exact .inr ⟨g, cap, cur, q1, Nat.le_trans hb q2, q3⟩
theorem us_new {w w1 : World} {p : Pg} {B gn gu gp : Nat} (r1 : RBo w1 B gn (List.replicate p.names.length false)) (r2 : RBo w1 B gu (List.replicate p.curs.length false)) (r3 : RBo w1 B gp (List.replicate p.pool.length false)) (n1 : gn ≠ gu) (n2 : gn ≠ gp) (n4 : gu ≠ gp) (hB : w.heap.size ≤ B) (l1 : B ≤ gn) (l2 : B ≤ gu) (l4 : B ≤ gp) :
    US (w1.alloc (.cells #[.slice (some ⟨gn, 0, none⟩) p.names.length p.names.length, .slice (some ⟨gu, 0, none⟩) p.curs.length p.curs.length, .slice (some ⟨gp, 0, none⟩) p.pool.length p.pool.length, .int .i64 p.cells, .int .i64 p.slots] 125)) p w.heap.size w1.heap.size gn gu gp (List.replicate p.names.length false) (List.replicate p.curs.length false) (List.replicate p.pool.length false) := by
  have g1 := (World.ownsRow.lt r1 gn rfl).2
  have g2 := (World.ownsRow.lt r2 gu rfl).2
  have g3 := (World.ownsRow.lt r3 gp rfl).2
  refine ⟨?_, (r1.mono hB).later (allocBP w1 _), (r2.mono hB).later (allocBP w1 _), (r3.mono hB).later (allocBP w1 _), by simp, by simp, by simp, ⟨n1, n2, n4, by omega, by omega, by omega⟩, ⟨by omega, by omega, by omega, by omega⟩⟩
  simp only [List.length_replicate]
  exact heapN _ _
set_option maxRecDepth 100000 in
set_option maxHeartbeats 8000000 in
theorem codeFits_any {w : World} {p : Pg} (h : PV w p) (hR : Rws w) : Calls Tryz.prog 47 #[p.agg] w fun e w' => e = .returned (.bool (decide (useP p))) ∧ Below w.heap.size w w' := by
  have B0 := Lib.hid (allocBP w p.box)
  have TB := Lib.hid (p := BkP (w.alloc p.box) w.heap.size p.arr 27) (heapN _ _)
  have KO := Lib.hid (usesOf_any (h.later (allocBP w p.box)))
  have KT := Lib.hid (fun W ub gn gu gp bn bu bp a n c l (hU : US W p w.heap.size ub gn gu gp bn bu bp) (hI : IR w a n c l) (hB : Below w.heap.size w W) => takeCode_any w W p ub gn gu gp bn bu bp a n c l hU hI hR hB)
  have DR := Lib.hid h.days.2.2.2.2
  have DG := Lib.hid h.days.2.2.2.1
  have n3 := h.days.2.2.1
  have LN := Lib.hid (p := p.names.length ≤ 17592186043904 ∧ p.curs.length ≤ 17592186043904 ∧ p.pool.length ≤ 17592186043904) ⟨by have := h.names.2.2.1; omega, by have := h.curs.2.2.1; omega, h.pool.2.2.1⟩
  have UF := Lib.hid (p := ∀ i, i < p.days.length → ¬ codeP p (p.days.getD i default).code → decide (useP p) = false) (fun i hi hn => decide_eq_false (fun z => hn (z.1 i hi)))
  have UT := Lib.hid (p := (∀ i, i < p.days.length → codeP p (p.days.getD i default).code) → decide (useP p) = ((mkAll 3 p.days (List.replicate p.names.length false)).all id && (mkAll 28 p.days (List.replicate p.curs.length false)).all id && (mkAll 1 p.days (List.replicate p.pool.length false)).all id)) (fun z => by
    cases hb : ((mkAll 3 p.days (List.replicate p.names.length false)).all id && (mkAll 28 p.days (List.replicate p.curs.length false)).all id && (mkAll 1 p.days (List.replicate p.pool.length false)).all id) with
    | true => exact decide_eq_true ⟨z, hb⟩
    | false => exact decide_eq_false (fun q => by rw [q.2] at hb; cases hb))
  unfold Pg.agg at KO
  unfold Pg.agg
  unfold Pg.box at B0 TB KO
  unfold Pg.arr at TB
  clear h hR
  obtain ⟨na, nc, names, ua, uc, curs, pa, pc, pool, hor, cells, slots, stack, da, dc, days⟩ := p
  simp only at B0 TB KO KT DR DG n3 LN UF UT
  go_enter Tryz.func47, Tryz.ntmps47
  go_wp2_with (go_at_call 80; refine KO.out.mono ?_; rintro e w1 ⟨⟨gn, gu, gp, rfl, r1, r2, r3, n1, n2, n4, l1, l2, l4⟩, hb⟩; have B1 := Lib.hid (B0.out.trans (hb.mono B0.out.size)); have T1 := TB.out.laterP (hb.mono (Nat.le_refl _)); have T2 := T1.laterP (allocBP w1 (.cells #[.slice (some ⟨gn, 0, none⟩) names.length names.length, .slice (some ⟨gu, 0, none⟩) curs.length curs.length, .slice (some ⟨gp, 0, none⟩) pool.length pool.length, .int .i64 cells, .int .i64 slots] 125)); obtain ⟨_, _, _, _, _, _, _, x7⟩ := box_all8 T2; have US0 := Lib.hid (us_new (w := w) (p := ⟨na, nc, names, ua, uc, curs, pa, pc, pool, hor, cells, slots, stack, da, dc, days⟩) r1 r2 r3 n1 n2 n4 (by simp) l1 l2 l4); have BW := Lib.hid (B1.out.alloc B1.out.size (.cells #[.slice (some ⟨gn, 0, none⟩) names.length names.length, .slice (some ⟨gu, 0, none⟩) curs.length curs.length, .slice (some ⟨gp, 0, none⟩) pool.length pool.length, .int .i64 cells, .int .i64 slots] 125)); clear r1 r2 r3 hb T1 T2)
  clear KO TB B0 x7
  go_loopw [11] (fun t wr => ∃ k : Nat, k ≤ days.length ∧ t = .int .i64 (k : Int) ∧ RowKit.Hid (∀ i, i < k → codeP ⟨na, nc, names, ua, uc, curs, pa, pc, pool, hor, cells, slots, stack, da, dc, days⟩ (days.getD i default).code) ∧ US wr ⟨na, nc, names, ua, uc, curs, pa, pc, pool, hor, cells, slots, stack, da, dc, days⟩ w.heap.size w1.heap.size gn gu gp (mkAll 3 (days.take k) (List.replicate names.length false)) (mkAll 28 (days.take k) (List.replicate curs.length false)) (mkAll 1 (days.take k) (List.replicate pool.length false)) ∧ Below w.heap.size w wr) (fun t _ => days.length - (intOf t).toNat)
  case atStart => exact ⟨0, by omega, rfl, (fun i hi => absurd hi (by omega)), US0.out, BW.out⟩
  case round =>
    clear US0 BW
    rename World => wr
    obtain ⟨k, hk, rfl, hE, hU, hB⟩ := hrel
    have UU := Lib.hid hU
    have BB := Lib.hid hB
    by_cases hlt : k < days.length
    · have kc : (k : Int) < (days.length : Int) := by omega
      have ks : IntKind.i64.wrap ((k : Int) + 1) = (k : Int) + 1 := by simp [IntKind.wrap, IntKind.bits, IntKind.signed]; omega
      have DW := Lib.hid (DR.out.later hB)
      have GI := Lib.hid (DG.out _ (sg_mem (i := k) hlt)).2
      have F3 := Lib.hid (mkAll_next 3 (List.replicate names.length false) days k hlt)
      have F28 := Lib.hid (mkAll_next 28 (List.replicate curs.length false) days k hlt)
      have F1 := Lib.hid (mkAll_next 1 (List.replicate pool.length false) days k hlt)
      have UFk := Lib.hid (UF.out k hlt)
      have NX := Lib.hid (p := codeP ⟨na, nc, names, ua, uc, curs, pa, pc, pool, hor, cells, slots, stack, da, dc, days⟩ (days.getD k default).code → ∀ i, i < k + 1 → codeP ⟨na, nc, names, ua, uc, curs, pa, pc, pool, hor, cells, slots, stack, da, dc, days⟩ (days.getD i default).code) (fun e i hi => by
        rcases (show i < k ∨ i = k by omega) with r | r
        · exact hE.out i r
        · rw [r]; exact e)
      obtain ⟨x, o, hda, _, hc⟩ := DW.out.oneP (by omega)
      have c0 := hc k hlt 0 (by omega)
      have c1 := hc k hlt 1 (by omega)
      simp only [Sg.cs, Nat.add_zero, List.getD_cons_zero, List.getD_cons_succ] at c0 c1
      generalize days.getD k default = s at *
      obtain ⟨sd, sa, sc, sl⟩ := s
      simp only at c0 c1 GI F3 F28 F1 UFk NX
      have U1 := Lib.hid (hU.later (allocBP wr (.cells #[.int .i64 sd, .slice sa sl.length sc] 39)))
      have B1 := Lib.hid (hB.alloc hB.size (.cells #[.int .i64 sd, .slice sa sl.length sc] 39))
      have KTk := Lib.hid (KT.out (wr.alloc (.cells #[.int .i64 sd, .slice sa sl.length sc] 39)) w1.heap.size gn gu gp _ _ _ sa sl.length sc sl U1.out GI.out B1.out)
      clear hc hE hU hB DW
      subst hda
      by_cases e1 : codeP ⟨na, nc, names, ua, uc, curs, pa, pc, pool, hor, cells, slots, stack, some ⟨x, o, none⟩, dc, days⟩ sl
      · have KTt := Lib.hid (p := Calls Tryz.prog 81 #[.pointer (some ⟨w1.heap.size, 0, none⟩), .slice sa sl.length sc] (wr.alloc (.cells #[.int .i64 sd, .slice sa sl.length sc] 39)) fun e w' => e = .returned (.bool true) ∧ US w' ⟨na, nc, names, ua, uc, curs, pa, pc, pool, hor, cells, slots, stack, some ⟨x, o, none⟩, dc, days⟩ w.heap.size w1.heap.size gn gu gp (sl.foldl (mkB 3) (mkAll 3 (days.take k) (List.replicate names.length false))) (sl.foldl (mkB 28) (mkAll 28 (days.take k) (List.replicate curs.length false))) (sl.foldl (mkB 1) (mkAll 1 (days.take k) (List.replicate pool.length false))) ∧ Below w.heap.size w w') (by
          refine KTk.out.mono ?_
          rintro e w' ⟨⟨b, h1, h2, h3⟩, h4⟩
          have hb := h2.2 e1
          subst hb
          exact ⟨h1, h3 rfl, h4⟩)
        have OK := Lib.hid (NX.out e1)
        clear e1 KTk
        go_wp2_with (go_at_call 81; refine KTt.out.mono ?_; rintro e w3 ⟨rfl, h2, h3⟩; have U3 := Lib.hid h2; have B3 := Lib.hid h3; clear h2 h3)
        go_roundw
        case rel => exact ⟨k + 1, by omega, by go_num, OK.out, by rw [F3.out, F28.out, F1.out]; exact U3.out, B3.out⟩
        case measure => simp [intOf]; omega
      · have KTf := Lib.hid (p := Calls Tryz.prog 81 #[.pointer (some ⟨w1.heap.size, 0, none⟩), .slice sa sl.length sc] (wr.alloc (.cells #[.int .i64 sd, .slice sa sl.length sc] 39)) fun e w' => e = .returned (.bool false) ∧ Below w.heap.size w w') (by
          refine KTk.out.mono ?_
          rintro e w' ⟨⟨b, h1, h2, h3⟩, h4⟩
          have hb : b = false := by cases b with | false => rfl | true => exact absurd (h2.1 rfl) e1
          subst hb
          exact ⟨h1, h4⟩)
        have NO := Lib.hid (UFk.out e1)
        clear e1 KTk
        go_wp2_with (go_at_call 81; refine KTf.out.mono ?_; rintro e w3 ⟨rfl, h3⟩; have B3 := Lib.hid h3; clear h3)
        go_ret
        exact ⟨retBP NO.out.symm, B3.out⟩
    · obtain rfl : k = days.length := by omega
      have RR := Lib.hid (UT.out hE.out)
      have UF2 := hU
      rw [List.take_length] at UF2
      have KA := Lib.hid (allU_any UF2 (by rw [UF2.ln]; exact LN.out.1) (by rw [UF2.lu]; exact LN.out.2.1) (by rw [UF2.lp]; exact LN.out.2.2))
      clear hE hU hB UF2
      go_wp2_with (go_at_call 82; refine KA.out.mono ?_; rintro e w4 ⟨rfl, h2⟩; have B4 := Lib.hid (BB.out.trans (h2.mono BB.out.size)); clear h2)
      go_ret
      exact ⟨retBP RR.out.symm, B4.out⟩
end Go.Proofs.YtccjeipkljdhdaaGreatDoor

namespace Go.Proofs.YtccjeipkljdhdaaGreatDoor
open Go.RowKit
set_option linter.unusedVariables false
set_option linter.unusedSimpArgs false
def canP (p : Pg) : Prop := numP p = true ∧ lstP p ∧ dayP p ∧ useP p
noncomputable instance (p : Pg) : Decidable (canP p) := Classical.propDecidable _
theorem numP_hor {p : Pg} (h : numP p = true) : 0 ≤ p.hor ∧ p.hor ≤ 3660 := by
  unfold numP wB at h
  simp only [Bool.and_eq_true, decide_eq_true_eq] at h
  exact h.1.1.1
set_option maxRecDepth 100000 in
set_option maxHeartbeats 8000000 in
theorem canonical_any {w : World} {p : Pg} (h : PV w p) (hR : Rws w) : Calls Tryz.prog 22 #[p.agg] w fun e w' => e = .returned (.bool (decide (canP p))) ∧ Below w.heap.size w w' := by
  have K0 := Lib.hid (fun W (b : Below w.heap.size w W) => numbersFit_any (w := W) (p := p))
  have K1 := Lib.hid (fun W (b : Below w.heap.size w W) => listsFit_any (h.later b))
  have K3 := Lib.hid (fun W (b : Below w.heap.size w W) => codeFits_any (h.later b) (hR.below b))
  have HP := Lib.hid h
  have B0 := Lib.hid (allocBP w p.box)
  have TB := Lib.hid (p := BkP (w.alloc p.box) w.heap.size p.arr 27) (heapN _ _)
  unfold Pg.agg at K0 K1 K3
  unfold Pg.agg
  unfold Pg.box at B0 TB
  unfold Pg.arr at TB
  clear h hR
  by_cases e0 : numP p = true
  · by_cases e1 : lstP p
    · have K2 := Lib.hid (fun W (b : Below w.heap.size w W) => daysFit_any (HP.out.later b) (numP_hor e0).1 (numP_hor e0).2)
      unfold Pg.agg at K2
      by_cases e2 : dayP p
      · by_cases e3 : useP p
        · have R := Lib.hid (p := decide (canP p) = true) (decide_eq_true ⟨e0, e1, e2, e3⟩)
          rw [e0] at K0
          simp only [decide_eq_true e1] at K1
          simp only [decide_eq_true e2] at K2
          simp only [decide_eq_true e3] at K3
          obtain ⟨na, nc, names, ua, uc, curs, pa, pc, pool, hor, cells, slots, stack, da, dc, days⟩ := p
          simp only at K0 K1 K2 K3 R B0 TB
          clear e0 e1 e2 e3
          go_enter Tryz.func22, Tryz.ntmps22
          have T0 := TB
          go_wp2_with (first
            | (go_at_call 44; refine (K0.out _ B0.out).mono ?_; rintro e w1 ⟨rfl, h1⟩; have B1 := Lib.hid (B0.out.trans (h1.mono B0.out.size)); have T1 := Lib.hid (T0.out.laterP h1); obtain ⟨x00, x01, x02, x03, x04, x05, x06, x07⟩ := box_all8 (T1.out); clear h1)
            | (go_at_call 45; refine (K1.out _ B1.out).mono ?_; rintro e w2 ⟨rfl, h1⟩; have B2 := Lib.hid (B1.out.trans (h1.mono B1.out.size)); have T2 := Lib.hid (T1.out.laterP h1); obtain ⟨x10, x11, x12, x13, x14, x15, x16, x17⟩ := box_all8 (T2.out); clear h1)
            | (go_at_call 46; refine (K2.out _ B2.out).mono ?_; rintro e w3 ⟨rfl, h1⟩; have B3 := Lib.hid (B2.out.trans (h1.mono B2.out.size)); have T3 := Lib.hid (T2.out.laterP h1); obtain ⟨x20, x21, x22, x23, x24, x25, x26, x27⟩ := box_all8 (T3.out); clear h1)
            | (go_at_call 47; refine (K3.out _ B3.out).mono ?_; rintro e w4 ⟨rfl, h1⟩; have B4 := Lib.hid (B3.out.trans (h1.mono B3.out.size)); have T4 := Lib.hid (T3.out.laterP h1); obtain ⟨x30, x31, x32, x33, x34, x35, x36, x37⟩ := box_all8 (T4.out); clear h1))
          go_ret
          exact ⟨retBP R.out.symm, B4.out⟩
        · have R := Lib.hid (p := decide (canP p) = false) (decide_eq_false (fun z => e3 z.2.2.2))
          rw [e0] at K0
          simp only [decide_eq_true e1] at K1
          simp only [decide_eq_true e2] at K2
          simp only [decide_eq_false e3] at K3
          obtain ⟨na, nc, names, ua, uc, curs, pa, pc, pool, hor, cells, slots, stack, da, dc, days⟩ := p
          simp only at K0 K1 K2 K3 R B0 TB
          clear e0 e1 e2 e3
          go_enter Tryz.func22, Tryz.ntmps22
          have T0 := TB
          go_wp2_with (first
            | (go_at_call 44; refine (K0.out _ B0.out).mono ?_; rintro e w1 ⟨rfl, h1⟩; have B1 := Lib.hid (B0.out.trans (h1.mono B0.out.size)); have T1 := Lib.hid (T0.out.laterP h1); obtain ⟨x00, x01, x02, x03, x04, x05, x06, x07⟩ := box_all8 (T1.out); clear h1)
            | (go_at_call 45; refine (K1.out _ B1.out).mono ?_; rintro e w2 ⟨rfl, h1⟩; have B2 := Lib.hid (B1.out.trans (h1.mono B1.out.size)); have T2 := Lib.hid (T1.out.laterP h1); obtain ⟨x10, x11, x12, x13, x14, x15, x16, x17⟩ := box_all8 (T2.out); clear h1)
            | (go_at_call 46; refine (K2.out _ B2.out).mono ?_; rintro e w3 ⟨rfl, h1⟩; have B3 := Lib.hid (B2.out.trans (h1.mono B2.out.size)); have T3 := Lib.hid (T2.out.laterP h1); obtain ⟨x20, x21, x22, x23, x24, x25, x26, x27⟩ := box_all8 (T3.out); clear h1)
            | (go_at_call 47; refine (K3.out _ B3.out).mono ?_; rintro e w4 ⟨rfl, h1⟩; have B4 := Lib.hid (B3.out.trans (h1.mono B3.out.size)); have T4 := Lib.hid (T3.out.laterP h1); obtain ⟨x30, x31, x32, x33, x34, x35, x36, x37⟩ := box_all8 (T4.out); clear h1))
          go_ret
          exact ⟨retBP R.out.symm, B4.out⟩
      · have R := Lib.hid (p := decide (canP p) = false) (decide_eq_false (fun z => e2 z.2.2.1))
        rw [e0] at K0
        simp only [decide_eq_true e1] at K1
        simp only [decide_eq_false e2] at K2
        obtain ⟨na, nc, names, ua, uc, curs, pa, pc, pool, hor, cells, slots, stack, da, dc, days⟩ := p
        simp only at K0 K1 K2 R B0 TB
        clear e0 e1 e2
        go_enter Tryz.func22, Tryz.ntmps22
        have T0 := TB
        go_wp2_with (first
          | (go_at_call 44; refine (K0.out _ B0.out).mono ?_; rintro e w1 ⟨rfl, h1⟩; have B1 := Lib.hid (B0.out.trans (h1.mono B0.out.size)); have T1 := Lib.hid (T0.out.laterP h1); obtain ⟨x00, x01, x02, x03, x04, x05, x06, x07⟩ := box_all8 (T1.out); clear h1)
          | (go_at_call 45; refine (K1.out _ B1.out).mono ?_; rintro e w2 ⟨rfl, h1⟩; have B2 := Lib.hid (B1.out.trans (h1.mono B1.out.size)); have T2 := Lib.hid (T1.out.laterP h1); obtain ⟨x10, x11, x12, x13, x14, x15, x16, x17⟩ := box_all8 (T2.out); clear h1)
          | (go_at_call 46; refine (K2.out _ B2.out).mono ?_; rintro e w3 ⟨rfl, h1⟩; have B3 := Lib.hid (B2.out.trans (h1.mono B2.out.size)); have T3 := Lib.hid (T2.out.laterP h1); obtain ⟨x20, x21, x22, x23, x24, x25, x26, x27⟩ := box_all8 (T3.out); clear h1))
        go_ret
        exact ⟨retBP R.out.symm, B3.out⟩
    · have R := Lib.hid (p := decide (canP p) = false) (decide_eq_false (fun z => e1 z.2.1))
      rw [e0] at K0
      simp only [decide_eq_false e1] at K1
      obtain ⟨na, nc, names, ua, uc, curs, pa, pc, pool, hor, cells, slots, stack, da, dc, days⟩ := p
      simp only at K0 K1 R B0 TB
      clear e0 e1
      go_enter Tryz.func22, Tryz.ntmps22
      have T0 := TB
      go_wp2_with (first
        | (go_at_call 44; refine (K0.out _ B0.out).mono ?_; rintro e w1 ⟨rfl, h1⟩; have B1 := Lib.hid (B0.out.trans (h1.mono B0.out.size)); have T1 := Lib.hid (T0.out.laterP h1); obtain ⟨x00, x01, x02, x03, x04, x05, x06, x07⟩ := box_all8 (T1.out); clear h1)
        | (go_at_call 45; refine (K1.out _ B1.out).mono ?_; rintro e w2 ⟨rfl, h1⟩; have B2 := Lib.hid (B1.out.trans (h1.mono B1.out.size)); have T2 := Lib.hid (T1.out.laterP h1); obtain ⟨x10, x11, x12, x13, x14, x15, x16, x17⟩ := box_all8 (T2.out); clear h1))
      go_ret
      exact ⟨retBP R.out.symm, B2.out⟩
  · have R := Lib.hid (p := decide (canP p) = false) (decide_eq_false (fun z => e0 z.1))
    rw [Bool.eq_false_iff.2 e0] at K0
    obtain ⟨na, nc, names, ua, uc, curs, pa, pc, pool, hor, cells, slots, stack, da, dc, days⟩ := p
    simp only at K0 R B0 TB
    clear e0
    go_enter Tryz.func22, Tryz.ntmps22
    have T0 := TB
    go_wp2_with (first
      | (go_at_call 44; refine (K0.out _ B0.out).mono ?_; rintro e w1 ⟨rfl, h1⟩; have B1 := Lib.hid (B0.out.trans (h1.mono B0.out.size)); have T1 := Lib.hid (T0.out.laterP h1); obtain ⟨x00, x01, x02, x03, x04, x05, x06, x07⟩ := box_all8 (T1.out); clear h1))
    go_ret
    exact ⟨retBP R.out.symm, B1.out⟩
set_option maxRecDepth 100000 in
theorem canon_any {w : World} {p : Pg} (h : PV w p) (hR : Rws w) : Calls Tryz.prog 10 #[p.agg] w fun e w' => e = .returned (.int .i64 (if canP p then 0 else 121)) ∧ Below w.heap.size w w' := by
  have K := Lib.hid (canonical_any (h.later (allocBP w p.box)) (hR.below (allocBP w p.box)))
  have B0 := Lib.hid (allocBP w p.box)
  clear h hR
  by_cases e : canP p
  · have R := Lib.hid (p := (if canP p then (0 : Int) else 121) = 0) (if_pos e)
    rw [decide_eq_true e] at K
    rw [R.out]
    clear R e
    unfold Pg.agg at K
    unfold Pg.agg
    unfold Pg.box at B0 K
    obtain ⟨na, nc, names, ua, uc, curs, pa, pc, pool, hor, cells, slots, stack, da, dc, days⟩ := p
    go_enter Tryz.func10, Tryz.ntmps10
    go_wp2_with (go_at_call 22; refine K.out.mono ?_; rintro e w1 ⟨rfl, h1⟩; have B1 := Lib.hid (B0.out.trans (h1.mono B0.out.size)); clear h1)
    go_ret
    exact ⟨rfl, B1.out⟩
  · have R := Lib.hid (p := (if canP p then (0 : Int) else 121) = 121) (if_neg e)
    rw [decide_eq_false e] at K
    rw [R.out]
    clear R e
    unfold Pg.agg at K
    unfold Pg.agg
    unfold Pg.box at B0 K
    obtain ⟨na, nc, names, ua, uc, curs, pa, pc, pool, hor, cells, slots, stack, da, dc, days⟩ := p
    go_enter Tryz.func10, Tryz.ntmps10
    go_wp2_with (go_at_call 22; refine K.out.mono ?_; rintro e w1 ⟨rfl, h1⟩; have B1 := Lib.hid (B0.out.trans (h1.mono B0.out.size)); clear h1)
    go_ret
    exact ⟨rfl, B1.out⟩
end Go.Proofs.YtccjeipkljdhdaaGreatDoor
