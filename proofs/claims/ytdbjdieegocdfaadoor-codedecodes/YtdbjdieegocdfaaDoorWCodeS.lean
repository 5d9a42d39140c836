/-
  COPIES OF LISTS OF INSTRUCTIONS: make, copy, a row that fills its block.
-/
import Derived.Test.YtdbjdieegocdfaaDoorWCodeR
import Derived.Laws.MakeOwn
import Derived.Laws.CopyOwn
namespace Go.Proofs.YtdbjdieegocdfaaDoor
open Go.RowKit
set_option linter.unusedVariables false
set_option linter.unusedSimpArgs false

def zIn : In := ⟨0, 0, 0⟩
theorem ics_set : ∀ (gs : List In) (i : Nat) (f : In), i < gs.length → (((ics gs).set (i * 3) (.int .i64 f.o)).set (i * 3 + 1) (.int .i64 f.a)).set (i * 3 + 2) (.int .i64 f.b) = ics (gs.set i f)
  | [], i, f, h => by simp at h
  | g :: gs, 0, f, h => rfl
  | g :: gs, i + 1, f, h => by
    have ih := ics_set gs i f (by simpa using h)
    show (((g.cells ++ ics gs).set ((i + 1) * 3) _).set ((i + 1) * 3 + 1) _).set ((i + 1) * 3 + 2) _ = g.cells ++ ics (gs.set i f)
    have e : g.cells.length = 3 := rfl
    rw [List.set_append_right _ _ (by omega), List.set_append_right _ _ (by omega), List.set_append_right _ _ (by omega), e, show (i + 1) * 3 - 3 = i * 3 by omega, show (i + 1) * 3 + 1 - 3 = i * 3 + 1 by omega, show (i + 1) * 3 + 2 - 3 = i * 3 + 2 by omega, ih]
theorem made_ics (N : Nat) : (madeCells #[.int .i64 0, .int .i64 0, .int .i64 0] (N * 3)).toList = ics (List.replicate N zIn) := by
  apply List.ext_getElem?
  intro k
  by_cases hk : k < N * 3
  · have e : k = (k / 3) * 3 + k % 3 := by omega
    have h3 : k % 3 < 3 := Nat.mod_lt _ (by omega)
    rw [e, ics_at _ (k / 3) (by simp; omega) (k % 3) h3, ← e]
    have hr : (List.replicate N zIn).getD (k / 3) default = zIn := by simp [List.getD, List.getElem?_replicate, show k / 3 < N by omega]
    rw [hr]
    unfold madeCells
    simp only [Array.toList_map, Array.toList_range, List.getElem?_map, List.getElem?_range hk, Option.map_some]
    rcases (show k % 3 = 0 ∨ k % 3 = 1 ∨ k % 3 = 2 by omega) with h | h | h <;> rw [show (#[Value.int .i64 0, .int .i64 0, .int .i64 0] : Array Value).size = 3 from rfl, h] <;> rfl
  · rw [List.getElem?_eq_none (by simp [madeCells]; omega), List.getElem?_eq_none (by rw [ics_len]; simp; omega)]

theorem make_ins (n : Nat) (hn : n ≤ 5864062015000) (W : World) : (Instr.makeSlice 22 (.int .i64 (n : Int)) (.int .i64 (n : Int))).run Tryd.prog W = .ok (.slice (some ⟨W.heap.size, 0, none⟩) n n) (W.alloc (.cells (madeCells #[.int .i64 0, .int .i64 0, .int .i64 0] (n * 3)) 24)) := by
  obtain ⟨i0, hi, hz0, hz1, hz2⟩ := info_parts infoI
  have := run_make (P := Tryd.prog) W 22 24 i0 _ Tryd.underlying22 hi hz0 .i64 .i64 n n (by omega) (by omega) (by rw [hz2]; omega) (by omega)
  rw [hz1] at this
  simpa [Value.cells] using this

/-- A row of instructions that fills its block. -/
def RfI (w : World) (g : Nat) (gs : List In) : Prop := w.ownsRow g 24 3 (.slice (some ⟨g, 0, none⟩) gs.length gs.length) gs.length (ics gs)
theorem rfI_of {w : World} {g : Nat} {gs : List In} {cur : Array Value} (h : w.heap[g]? = some (.cells cur 24 (0, 0))) (hc : cur.toList = ics gs) (hl : gs.length ≤ 5864062015000) : RfI w g gs := by
  have hs : cur.size = gs.length * 3 := by rw [← ics_len, ← hc]; simp
  exact ⟨ics_len gs, .inr ⟨g, _, cur, rfl, Nat.le_refl _, h, Nat.le_refl _, by unfold maxLen; omega, hs, by rw [hc, List.take_of_length_le (by rw [ics_len]; omega)]⟩⟩
theorem RfI.lt {w : World} {g : Nat} {gs : List In} (h : RfI w g gs) : g < w.heap.size := (World.ownsRow.lt h g rfl).2
theorem RfI.nc {w : World} {g : Nat} {gs : List In} (h : RfI w g gs) (i : Nat) (hi : i < gs.length) : NC w g (i * 3) (gs.getD i default) := by
  refine ⟨?_, ?_, ?_⟩
  · rw [World.ownsRow.cellAt h (i * 3) (by omega)]; exact ics_at gs i hi 0 (by omega)
  · rw [World.ownsRow.cellAt h (i * 3 + 1) (by omega)]; exact ics_at gs i hi 1 (by omega)
  · rw [World.ownsRow.cellAt h (i * 3 + 2) (by omega)]; exact ics_at gs i hi 2 (by omega)
theorem RfI.set {w : World} {g : Nat} {gs : List In} (h : RfI w g gs) (i : Nat) (hi : i < gs.length) (f : In) :
    RfI (((w.setCell ⟨g, i * 3, none⟩ (.int .i64 f.o)).setCell ⟨g, i * 3 + 1, none⟩ (.int .i64 f.a)).setCell ⟨g, i * 3 + 2, none⟩ (.int .i64 f.b)) g (gs.set i f) := by
  have := (((World.ownsRow.stored h (i * 3) (.int .i64 f.o)).1.stored (i * 3 + 1) (.int .i64 f.a)).1.stored (i * 3 + 2) (.int .i64 f.b)).1
  rw [ics_set gs i f hi] at this
  unfold RfI
  rw [List.length_set]
  exact this

/-- copy(f, l). -/
theorem copy_ins (a : Option Addr) (n cap : Nat) (fs : List In) (w : World) (h : LI w a n fs) :
    ∃ W2, (∀ ty, (Builtin.copy_ #[22, 22] ty #[.slice (some ⟨w.heap.size, 0, none⟩) (n + 3) (n + 3), .slice a n cap]).run Tryd.prog (w.alloc (.cells (madeCells #[.int .i64 0, .int .i64 0, .int .i64 0] ((n + 3) * 3)) 24)) = .ok (goInt n) W2) ∧ Below w.heap.size w W2 ∧ RfI W2 w.heap.size (fs ++ [zIn, zIn, zIn]) := by
  obtain ⟨i0, hi, hz0, hz1, hz2⟩ := info_parts infoI
  obtain ⟨h1, h2, h3⟩ := h
  have hu : Tryd.prog.underlying 22 = some (.slice 24) := Tryd.underlying22
  have hmin : Nat.min n (n + 3) = n := Nat.min_eq_left (by omega)
  have hg : (w.alloc (.cells (madeCells #[.int .i64 0, .int .i64 0, .int .i64 0] ((n + 3) * 3)) 24)).heap[w.heap.size]? = some (.cells (madeCells #[.int .i64 0, .int .i64 0, .int .i64 0] ((n + 3) * 3)) 24 (0, 0)) := by
    show (w.heap.push _)[w.heap.size]? = _
    simp
  have rep : ics (List.replicate (n + 3) zIn) = ics (List.replicate n zIn) ++ ics [zIn, zIn, zIn] := by rw [← ics_app, show [zIn, zIn, zIn] = List.replicate 3 zIn from rfl, List.replicate_append_replicate]
  rcases h3 with h3 | ⟨b, o, rfl, hb, hc⟩
  · subst h3
    have hz : fs = [] := List.length_eq_zero_iff.1 h1
    subst hz
    refine ⟨_, fun ty => ?_, (Below.refl _ _).alloc (Nat.le_refl _) _, rfI_of hg (made_ics 3) (by decide)⟩
    cases a <;> simp [Builtin.copy_, run_underlying hu, Builtin.lenOf, Builtin.firstCells, sizeOf, typeInfo, hi, hz1, storeCells, loadCells, loadCellsFrom]
  · have hlen : (ics fs).length = n * 3 := by rw [ics_len, h1]
    have hl := run_loadCells_list (P := Tryd.prog) (w.alloc (.cells (madeCells #[.int .i64 0, .int .i64 0, .int .i64 0] ((n + 3) * 3)) 24)) ⟨b, o, none⟩ (ics fs) (by
      intro j v hj
      have hjn : j < n * 3 := by
        refine Nat.lt_of_not_le fun hc => ?_
        rw [List.getElem?_eq_none (by omega)] at hj
        cases hj
      rw [Go.Addr.add_lit, (((Below.refl w.heap.size w).alloc (Nat.le_refl _) _).cell (p := ⟨b, o + j, none⟩) hb)]
      have e : j = (j / 3) * 3 + j % 3 := by omega
      rw [← hj]
      obtain ⟨p0, p1, p2⟩ := hc (j / 3) (by omega)
      have hat := ics_at fs (j / 3) (by omega) (j % 3) (Nat.mod_lt _ (by omega))
      rw [← e] at hat
      rw [hat]
      rcases (show j % 3 = 0 ∨ j % 3 = 1 ∨ j % 3 = 2 by omega) with q | q | q
      · rw [q, show o + j = o + j / 3 * 3 by omega]; exact p0
      · rw [q, show o + j = o + j / 3 * 3 + 1 by omega]; exact p1
      · rw [q, show o + j = o + j / 3 * 3 + 2 by omega]; exact p2)
    have one : ∀ v ∈ ics fs, v.oneCell' = true := by
      intro v hv
      unfold ics at hv
      obtain ⟨f, _, hv⟩ := List.mem_flatMap.1 hv
      simp [In.cells] at hv
      rcases hv with rfl | rfl | rfl <;> rfl
    have hst := run_storeCells_at Tryd.prog w.heap.size 0 24 (ics fs) 0 _ _ hg (by rw [hlen, size_madeCells]; omega) one
    rw [hlen] at hl
    refine ⟨((w.alloc (.cells (madeCells #[.int .i64 0, .int .i64 0, .int .i64 0] ((n + 3) * 3)) 24)).setRow w.heap.size ((madeCells #[.int .i64 0, .int .i64 0, .int .i64 0] ((n + 3) * 3)).toList.take (0 + 0) ++ ics fs ++ (madeCells #[.int .i64 0, .int .i64 0, .int .i64 0] ((n + 3) * 3)).toList.drop (0 + 0 + (ics fs).length)).toArray), fun ty => ?_, ?_, ?_⟩
    rotate_left
    · exact below_setRow ((Below.refl _ _).alloc (Nat.le_refl _) _) (Nat.le_refl _) _
    · refine rfI_of (setRow_heap _ _ _ _ _ _ hg) ?_ (by simp; omega)
      rw [made_ics, rep, hlen, ics_app]
      simp only [Nat.add_zero, List.take_zero, List.nil_append, Nat.zero_add]
      rw [List.drop_left' (by rw [ics_len]; simp)]
    · simp [Builtin.copy_, run_underlying hu, Builtin.lenOf, Builtin.firstCells, sizeOf, typeInfo, hi, hz1, hmin, hl, hst]

end Go.Proofs.YtdbjdieegocdfaaDoor
