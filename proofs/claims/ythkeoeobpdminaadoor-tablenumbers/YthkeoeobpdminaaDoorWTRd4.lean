/-
  WALKS: cellOf, newRow of one cell.
-/
import Derived.Test.YthkeoeobpdminaaDoorWTRd3
namespace Go.Proofs.YthkeoeobpdminaaDoor
open Go.RowKit
set_option linter.unusedVariables false
set_option linter.unusedSimpArgs false

theorem box_all2 {w : World} {x : Nat} {u v : Value} {t : TypeId} (h : w.heap[x]? = some (.cells #[u, v] t)) : w.cell? ⟨x, 0, none⟩ = some u ∧ w.cell? ⟨x, 1, none⟩ = some v ∧ w.frozen? ⟨x, 0, none⟩ = false ∧ w.frozen? ⟨x, 1, none⟩ = false := by
  refine ⟨?_, ?_, ?_, ?_⟩ <;> simp [World.cell?, World.frozen?, h]
theorem box_set2 {w : World} {x : Nat} {a b u v : Value} {t : TypeId} (h : w.heap[x]? = some (.cells #[a, b] t)) : ((w.setCell ⟨x, 0, none⟩ u).setCell ⟨x, 1, none⟩ v).heap[x]? = some (.cells #[u, v] t) :=
  Joins.block_setCell (Joins.block_setCell h _) _
/-- What cellOf answers. -/
def celE (s : ByteArray) (v E : Int) : Ending :=
  if (s.toList == [45]) = true then .returned (.tuple #[.agg #[.bool false, .int .i64 0], .bool true])
  else if E = 0 then .returned (.tuple #[.agg #[.bool true, .int .i64 v], .bool true]) else .returned (.tuple #[.agg #[.bool false, .int .i64 0], .bool false])
set_option maxHeartbeats 1000000 in
theorem cellOf_any (s : ByteArray) (v E : Int) (w : World) (hp : ∀ W, Below w.heap.size w W → Calls Tryd.prog 18 #[.string s, .int .i64 0] W fun e w' => e = .returned (.tuple #[.int .i64 v, .int .i64 E]) ∧ Below W.heap.size W w') :
    Calls Tryd.prog 59 #[.string s] w fun e w' => e = celE s v E ∧ Below w.heap.size w w' := by
  have A := Lib.hid ((Below.refl w.heap.size w).alloc (Nat.le_refl _) (.cells #[.bool false, .int .i64 0] 35))
  have KP := Lib.hid (hp _ A.out)
  have CE := Lib.hid (p := ∀ w1, Below (w.alloc (.cells #[.bool false, .int .i64 0] 35)).heap.size (w.alloc (.cells #[.bool false, .int .i64 0] 35)) w1 → w1.heap[w.heap.size]? = some (.cells #[.bool false, .int .i64 0] 35)) (fun w1 b => (b.block _ (by simp)).trans (World.alloc_heap_new w _))
  clear hp
  by_cases hs : (s.toList == [45]) = true
  · have e : celE s v E = .returned (.tuple #[.agg #[.bool false, .int .i64 0], .bool true]) := by unfold celE; rw [if_pos hs]
    rw [e]
    clear e
    go_enter Tryd.func59, Tryd.ntmps59
    go_wp2
    obtain ⟨r0, r1, _, _⟩ := box_all2 (World.alloc_heap_new w (.cells #[.bool false, .int .i64 0] 35))
    exact bodyPost_ret (v := .tuple #[.agg #[.bool false, .int .i64 0], .bool true]) (by simp [results, Tryd.results59, go_sem, r0, r1]) rfl ⟨rfl, A.out⟩
  · have hs2 : (s.toList == [45]) = false := by simpa using hs
    by_cases hE : E = 0
    · have e : celE s v E = .returned (.tuple #[.agg #[.bool true, .int .i64 v], .bool true]) := by unfold celE; rw [if_neg hs, if_pos hE]
      rw [e]
      subst hE
      clear e hs
      go_enter Tryd.func59, Tryd.ntmps59
      go_wp2_with (go_at_call 18; refine KP.out.mono ?_; rintro e w1 ⟨rfl, h1⟩; have B1 := Lib.hid (A.out.trans (h1.mono A.out.size)); have hb := Lib.hid (CE.out _ h1); obtain ⟨c0, c1, f0, f1⟩ := box_all2 (CE.out _ h1); clear h1)
      obtain ⟨r0, r1, _, _⟩ := box_all2 (box_set2 (u := .bool true) (v := .int .i64 v) hb.out)
      exact bodyPost_ret (v := .tuple #[.agg #[.bool true, .int .i64 v], .bool true]) (by simp [results, Tryd.results59, go_sem, r0, r1]) rfl ⟨rfl, (B1.out.setCell (p := ⟨w.heap.size, 0, none⟩) (Nat.le_refl _) _).setCell (p := ⟨w.heap.size, 1, none⟩) (Nat.le_refl _) _⟩
    · have e : celE s v E = .returned (.tuple #[.agg #[.bool false, .int .i64 0], .bool false]) := by unfold celE; rw [if_neg hs, if_neg hE]
      rw [e]
      have hE2 : (E == 0) = false := by rw [beq_eq_false_iff_ne]; exact hE
      clear e hs
      go_enter Tryd.func59, Tryd.ntmps59
      go_wp2_with (go_at_call 18; refine KP.out.mono ?_; rintro e w1 ⟨rfl, h1⟩; have B1 := Lib.hid (A.out.trans (h1.mono A.out.size)); have hb := Lib.hid (CE.out _ h1); obtain ⟨c0, c1, f0, f1⟩ := box_all2 (CE.out _ h1); clear h1)
      obtain ⟨r0, r1, _, _⟩ := box_all2 (box_set2 (u := .bool false) (v := .int .i64 0) hb.out)
      exact bodyPost_ret (v := .tuple #[.agg #[.bool false, .int .i64 0], .bool false]) (by simp [results, Tryd.results59, go_sem, r0, r1]) rfl ⟨rfl, (B1.out.setCell (p := ⟨w.heap.size, 0, none⟩) (Nat.le_refl _) _).setCell (p := ⟨w.heap.size, 1, none⟩) (Nat.le_refl _) _⟩

theorem infoC1 : (Tryd.prog.info? 35).map (fun i => (i.zero, i.size, i.bytes)) = some (some (.agg #[.bool false, .int .i64 0]), 2, 16) := by kernel_rfl
theorem make_c1 (W : World) : (Instr.makeSlice 37 (.int .i64 1) (.int .i64 1)).run Tryd.prog W = .ok (.slice (some ⟨W.heap.size, 0, none⟩) 1 1) (W.alloc (.cells #[.bool false, .int .i64 0] 35)) := by
  obtain ⟨i0, hi, hz0, hz1, hz2⟩ := info_parts infoC1
  have := run_make (P := Tryd.prog) W 37 35 i0 _ Tryd.underlying37 hi hz0 .i64 .i64 1 1 (by omega) (by omega) (by rw [hz2]; omega) (by omega)
  rw [hz1] at this
  have e : madeCells (Value.agg #[.bool false, .int .i64 0]).cells (Int.toNat 1 * 2) = #[.bool false, .int .i64 0] := by kernel_rfl
  rw [e] at this
  exact this
theorem copy_c1 (W : World) (y c : Nat) (h : Bool) (v : Int) (h0 : W.cell? ⟨y, 0, none⟩ = some (.bool h)) (h1 : W.cell? ⟨y, 1, none⟩ = some (.int .i64 v)) (ty : TypeId) :
    (Builtin.copy_ #[37, 37] ty #[.slice (some ⟨W.heap.size, 0, none⟩) 1 1, .slice (some ⟨y, 0, none⟩) 1 c]).run Tryd.prog (W.alloc (.cells #[.bool false, .int .i64 0] 35)) = .ok (.int .i64 1) (W.alloc (.cells #[.bool h, .int .i64 v] 35)) := by
  obtain ⟨i0, hi, hz0, hz1, hz2⟩ := info_parts infoC1
  have hl := run_loadCells_list (P := Tryd.prog) (W.alloc (.cells #[.bool false, .int .i64 0] 35)) ⟨y, 0, none⟩ [.bool h, .int .i64 v] (fun j u hj => by
    rw [Lib.add_plain, Nat.zero_add]
    match j, hj with
    | 0, hj => simp at hj; subst hj; exact Lib.cell?_alloc_marked _ h0
    | 1, hj => simp at hj; subst hj; exact Lib.cell?_alloc_marked _ h1)
  have hst := run_storeCells_at Tryd.prog W.heap.size 0 35 [.bool h, .int .i64 v] 0 _ (W.alloc (.cells #[.bool false, .int .i64 0] 35)) (World.alloc_heap_new W _) (by simp) (by simp [Value.oneCell'])
  have hu := Tryd.underlying37
  simp only [List.length_cons, List.length_nil, Nat.zero_add, Nat.reduceAdd] at hl
  simp [Builtin.copy_, run_underlying hu, Builtin.lenOf, Builtin.firstCells, sizeOf, typeInfo, hi, hz1, hl, hst, setRow_new]
  rfl
set_option maxHeartbeats 1000000 in
theorem newRow_1 (y c : Nat) (h : Bool) (v : Int) (w : World) (h0 : w.cell? ⟨y, 0, none⟩ = some (.bool h)) (h1 : w.cell? ⟨y, 1, none⟩ = some (.int .i64 v)) :
    Calls Tryd.prog 60 #[.slice (some ⟨y, 0, none⟩) 1 c, .int .i64 1] w fun e w' => e = .returned (.slice (some ⟨w.heap.size, 0, none⟩) 1 1) ∧ w' = w.alloc (.cells #[.bool h, .int .i64 v] 35) := by
  have hmk := make_c1
  have hcp := copy_c1 w y c h v h0 h1
  clear h0 h1
  go_enter Tryd.func60, Tryd.ntmps60
  go_wp2
  go_ret
  exact ⟨rfl, rfl⟩
end Go.Proofs.YthkeoeobpdminaaDoor
