/-
  WALKS: usesOf; all.
-/
import Derived.Test.YteedkcmjhdabeaaDoorWCan9
namespace Go.Proofs.YteedkcmjhdabeaaDoor
open Go.RowKit
set_option linter.unusedVariables false
set_option linter.unusedSimpArgs false
theorem infoPB : (Tryd.prog.info? 4).map (fun i => (i.zero, i.size, i.bytes)) = some (some (.bool false), 1, 1) := by kernel_rfl
theorem make_bools (n : Nat) (hn : n ≤ 17592186043905) (W : World) : (Instr.makeSlice 41 (.int .i64 (n : Int)) (.int .i64 (n : Int))).run Tryd.prog W = .ok (.slice (some ⟨W.heap.size, 0, none⟩) n n) (W.alloc (.cells (madeCells #[.bool false] n) 4)) := by
  obtain ⟨i0, hi, hz0, hz1, hz2⟩ := info_parts infoPB
  have := run_make (P := Tryd.prog) W 41 4 i0 _ Tryd.underlying41 hi hz0 .i64 .i64 n n (by omega) (by omega) (by rw [hz2]; omega) (by omega)
  rw [hz1] at this
  simpa [Value.cells] using this
theorem made_bools (a : Nat) : (madeCells #[.bool false] a).toList = bsV (List.replicate a false) := by
  apply List.ext_getElem?
  intro k
  by_cases hk : k < a
  · unfold madeCells bsV
    simp [hk, List.getElem?_replicate, Nat.mod_one]
  · rw [List.getElem?_eq_none (by simp [madeCells]; omega), List.getElem?_eq_none (by simp [bsV]; omega)]
theorem rbo_of {W : World} {B g a : Nat} (h : W.heap[g]? = some (.cells (madeCells #[.bool false] a) 4)) (hB : B ≤ g) (ha : a ≤ 17592186043905) : RBo W B g (List.replicate a false) := by
  unfold RBo
  rw [List.length_replicate]
  refine ⟨by simp [bsV], .inr ⟨g, a, madeCells #[.bool false] a, rfl, hB, h, Nat.le_refl _, by unfold maxLen; omega, by simp [madeCells], ?_⟩⟩
  rw [made_bools, List.take_of_length_le (by simp [bsV])]
theorem five_heap (w : World) (o0 o1 o2 o3 o4 : Obj) : (((((w.alloc o0).alloc o1).alloc o2).alloc o3).alloc o4).heap[w.heap.size + 1]? = some o1 ∧ (((((w.alloc o0).alloc o1).alloc o2).alloc o3).alloc o4).heap[w.heap.size + 1 + 1]? = some o2 ∧ (((((w.alloc o0).alloc o1).alloc o2).alloc o3).alloc o4).heap[w.heap.size + 1 + 1 + 1]? = some o3 ∧ (((((w.alloc o0).alloc o1).alloc o2).alloc o3).alloc o4).heap[w.heap.size + 1 + 1 + 1 + 1]? = some o4 := by
  have e1 : (w.alloc o0).heap.size = w.heap.size + 1 := by simp
  have e2 : ((w.alloc o0).alloc o1).heap.size = w.heap.size + 1 + 1 := by simp
  have e3 : (((w.alloc o0).alloc o1).alloc o2).heap.size = w.heap.size + 1 + 1 + 1 := by simp
  have e4 : ((((w.alloc o0).alloc o1).alloc o2).alloc o3).heap.size = w.heap.size + 1 + 1 + 1 + 1 := by simp
  have k1 := heapN (w.alloc o0) o1
  have k2 := heapN ((w.alloc o0).alloc o1) o2
  have k3 := heapN (((w.alloc o0).alloc o1).alloc o2) o3
  have k4 := heapN ((((w.alloc o0).alloc o1).alloc o2).alloc o3) o4
  rw [e1] at k1
  rw [e2] at k2
  rw [e3] at k3
  rw [e4] at k4
  refine ⟨?_, ?_, ?_, k4⟩
  · rw [Below.heap_alloc _ _ _ (by omega), Below.heap_alloc _ _ _ (by omega), Below.heap_alloc _ _ _ (by omega)]; exact k1
  · rw [Below.heap_alloc _ _ _ (by omega), Below.heap_alloc _ _ _ (by omega)]; exact k2
  · rw [Below.heap_alloc _ _ _ (by omega)]; exact k3
/-- What usesOf leaves. -/
structure UoE (w : World) (p : Pg) (e : Ending) (w' : World) : Prop where
  say : ∃ gn gu gp, e = .returned (.agg #[.slice (some ⟨gn, 0, none⟩) p.names.length p.names.length, .slice (some ⟨gu, 0, none⟩) p.curs.length p.curs.length, .slice (some ⟨gp, 0, none⟩) p.pool.length p.pool.length, .int .i64 p.cells, .int .i64 p.slots]) ∧ RBo w' w.heap.size gn (List.replicate p.names.length false) ∧ RBo w' w.heap.size gu (List.replicate p.curs.length false) ∧ RBo w' w.heap.size gp (List.replicate p.pool.length false) ∧ gn ≠ gu ∧ gn ≠ gp ∧ gu ≠ gp ∧ w.heap.size ≤ gn ∧ w.heap.size ≤ gu ∧ w.heap.size ≤ gp
  bel : Below w.heap.size w w'
theorem five_bel (w : World) (o0 o1 o2 o3 o4 : Obj) : Below w.heap.size w (((((w.alloc o0).alloc o1).alloc o2).alloc o3).alloc o4) := ((((((Below.refl _ w).alloc (Nat.le_refl _) o0).alloc (by simp) o1).alloc (by simp; omega) o2).alloc (by simp; omega) o3).alloc (by simp; omega) o4)
theorem five_uses (w : World) (o0 o1 : Obj) (a b c : Nat) (ha : a ≤ 17592186043905) (hb : b ≤ 17592186043905) (hc : c ≤ 17592186043905) :
    RBo (((((w.alloc o0).alloc o1).alloc (.cells (madeCells #[.bool false] a) 4)).alloc (.cells (madeCells #[.bool false] b) 4)).alloc (.cells (madeCells #[.bool false] c) 4)).drew w.heap.size (w.heap.size + 1 + 1) (List.replicate a false) ∧ RBo (((((w.alloc o0).alloc o1).alloc (.cells (madeCells #[.bool false] a) 4)).alloc (.cells (madeCells #[.bool false] b) 4)).alloc (.cells (madeCells #[.bool false] c) 4)).drew w.heap.size (w.heap.size + 1 + 1 + 1) (List.replicate b false) ∧ RBo (((((w.alloc o0).alloc o1).alloc (.cells (madeCells #[.bool false] a) 4)).alloc (.cells (madeCells #[.bool false] b) 4)).alloc (.cells (madeCells #[.bool false] c) 4)).drew w.heap.size (w.heap.size + 1 + 1 + 1 + 1) (List.replicate c false) ∧ Below w.heap.size w (((((w.alloc o0).alloc o1).alloc (.cells (madeCells #[.bool false] a) 4)).alloc (.cells (madeCells #[.bool false] b) 4)).alloc (.cells (madeCells #[.bool false] c) 4)).drew := by
  obtain ⟨q1, q2, q3, q4⟩ := five_heap w o0 o1 (.cells (madeCells #[.bool false] a) 4) (.cells (madeCells #[.bool false] b) 4) (.cells (madeCells #[.bool false] c) 4)
  exact ⟨rbo_of q2 (by omega) ha, rbo_of q3 (by omega) hb, rbo_of q4 (by omega) hc, (five_bel w _ _ _ _ _).drew⟩
set_option maxRecDepth 100000 in
set_option maxHeartbeats 8000000 in
theorem usesOf_any {w : World} {p : Pg} (h : PV w p) : Calls Tryd.prog 41 #[p.agg] w fun e w' => UoE w p e w' := by
  have L0 := Lib.hid (p := p.names.length ≤ 17592186043905) (by have := h.names.2.2.1; omega)
  have L1 := Lib.hid (p := p.curs.length ≤ 17592186043905) (by have := h.curs.2.2.1; omega)
  have L2 := Lib.hid (p := p.pool.length ≤ 17592186043905) (by have := h.pool.2.2.1; omega)
  have M0 := make_bools p.names.length L0.out
  have M1 := make_bools p.curs.length L1.out
  have M2 := make_bools p.pool.length L2.out
  unfold Pg.agg
  clear h
  obtain ⟨na, nc, names, ua, uc, curs, pa, pc, pool, hor, cells, slots, stack, da, dc, days⟩ := p
  simp only at M0 M1 M2 L0 L1 L2
  go_enter Tryd.func41, Tryd.ntmps41
  go_wp2
  go_region
  all_goals
    go_wp2
    first
      | (refine bodyPost_ret (v := .agg #[.slice (some ⟨w.heap.size + 1 + 1, 0, none⟩) names.length names.length, .slice (some ⟨w.heap.size + 1 + 1 + 1, 0, none⟩) curs.length curs.length, .slice (some ⟨w.heap.size + 1 + 1 + 1 + 1, 0, none⟩) pool.length pool.length, .int .i64 cells, .int .i64 slots]) ?r rfl ?s
         case r => simp [results, Tryd.results41, go_sem]
         case s =>
           have F := fun o0 o1 => five_uses w o0 o1 _ _ _ L0.out L1.out L2.out
           exact ⟨⟨_, _, _, rfl, (F _ _).1, (F _ _).2.1, (F _ _).2.2.1, by omega, by omega, by omega, by omega, by omega, by omega⟩, (F _ _).2.2.2⟩)
      | (refine bodyPost_ret (v := .agg #[.slice (some ⟨w.heap.size + 1 + 1, 0, none⟩) names.length names.length, .slice (some ⟨w.heap.size + 1 + 1 + 1 + 1, 0, none⟩) curs.length curs.length, .slice (some ⟨w.heap.size + 1 + 1 + 1, 0, none⟩) pool.length pool.length, .int .i64 cells, .int .i64 slots]) ?r rfl ?s
         case r => simp [results, Tryd.results41, go_sem]
         case s =>
           have F := fun o0 o1 => five_uses w o0 o1 _ _ _ L0.out L2.out L1.out
           exact ⟨⟨_, _, _, rfl, (F _ _).1, (F _ _).2.2.1, (F _ _).2.1, by omega, by omega, by omega, by omega, by omega, by omega⟩, (F _ _).2.2.2⟩)
      | (refine bodyPost_ret (v := .agg #[.slice (some ⟨w.heap.size + 1 + 1 + 1, 0, none⟩) names.length names.length, .slice (some ⟨w.heap.size + 1 + 1, 0, none⟩) curs.length curs.length, .slice (some ⟨w.heap.size + 1 + 1 + 1 + 1, 0, none⟩) pool.length pool.length, .int .i64 cells, .int .i64 slots]) ?r rfl ?s
         case r => simp [results, Tryd.results41, go_sem]
         case s =>
           have F := fun o0 o1 => five_uses w o0 o1 _ _ _ L1.out L0.out L2.out
           exact ⟨⟨_, _, _, rfl, (F _ _).2.1, (F _ _).1, (F _ _).2.2.1, by omega, by omega, by omega, by omega, by omega, by omega⟩, (F _ _).2.2.2⟩)
      | (refine bodyPost_ret (v := .agg #[.slice (some ⟨w.heap.size + 1 + 1 + 1, 0, none⟩) names.length names.length, .slice (some ⟨w.heap.size + 1 + 1 + 1 + 1, 0, none⟩) curs.length curs.length, .slice (some ⟨w.heap.size + 1 + 1, 0, none⟩) pool.length pool.length, .int .i64 cells, .int .i64 slots]) ?r rfl ?s
         case r => simp [results, Tryd.results41, go_sem]
         case s =>
           have F := fun o0 o1 => five_uses w o0 o1 _ _ _ L2.out L0.out L1.out
           exact ⟨⟨_, _, _, rfl, (F _ _).2.1, (F _ _).2.2.1, (F _ _).1, by omega, by omega, by omega, by omega, by omega, by omega⟩, (F _ _).2.2.2⟩)
      | (refine bodyPost_ret (v := .agg #[.slice (some ⟨w.heap.size + 1 + 1 + 1 + 1, 0, none⟩) names.length names.length, .slice (some ⟨w.heap.size + 1 + 1, 0, none⟩) curs.length curs.length, .slice (some ⟨w.heap.size + 1 + 1 + 1, 0, none⟩) pool.length pool.length, .int .i64 cells, .int .i64 slots]) ?r rfl ?s
         case r => simp [results, Tryd.results41, go_sem]
         case s =>
           have F := fun o0 o1 => five_uses w o0 o1 _ _ _ L1.out L2.out L0.out
           exact ⟨⟨_, _, _, rfl, (F _ _).2.2.1, (F _ _).1, (F _ _).2.1, by omega, by omega, by omega, by omega, by omega, by omega⟩, (F _ _).2.2.2⟩)
      | (refine bodyPost_ret (v := .agg #[.slice (some ⟨w.heap.size + 1 + 1 + 1 + 1, 0, none⟩) names.length names.length, .slice (some ⟨w.heap.size + 1 + 1 + 1, 0, none⟩) curs.length curs.length, .slice (some ⟨w.heap.size + 1 + 1, 0, none⟩) pool.length pool.length, .int .i64 cells, .int .i64 slots]) ?r rfl ?s
         case r => simp [results, Tryd.results41, go_sem]
         case s =>
           have F := fun o0 o1 => five_uses w o0 o1 _ _ _ L2.out L1.out L0.out
           exact ⟨⟨_, _, _, rfl, (F _ _).2.2.1, (F _ _).2.1, (F _ _).1, by omega, by omega, by omega, by omega, by omega, by omega⟩, (F _ _).2.2.2⟩)
end Go.Proofs.YteedkcmjhdabeaaDoor
