/-
  WALK: hand: bytes in new memory, with marks in the room behind them.
-/
import Derived.Test.YtdbjdieegocdfaaDoorWOctStay
import Derived.Laws.MakeOwn
import Derived.Laws.CopyOwn
namespace Go.Proofs.YtdbjdieegocdfaaDoor
open Go.RowKit
set_option linter.unusedVariables false
set_option linter.unusedSimpArgs false

theorem make_bytes (n : Nat) (hn : n ≤ 281474976710656) (W : World) : (Instr.makeSlice 25 (.int .i64 (n : Int)) (.int .i64 (n : Int))).run Tryd.prog W = .ok (.slice (some ⟨W.heap.size, 0, none⟩) n n) (W.alloc (.cells (bcs (List.replicate n 0)).toArray 5)) := by
  obtain ⟨i0, hi, hz0, hz1, hz2⟩ := info_parts info8
  have := run_make (P := Tryd.prog) W 25 5 i0 _ Tryd.underlying25 hi hz0 .i64 .i64 n n (by omega) (by omega) (by rw [hz2]; omega) (by omega)
  rw [hz1] at this
  have e : madeCells (Value.cells (.int .u8 0)) n = (bcs (List.replicate n 0)).toArray := by
    apply Array.ext'
    have := toList_madeCells_one (.int .u8 0) n
    simpa [bcs, Value.cells] using this
  simpa [e] using this
theorem made_own (W : World) (n : Nat) (hn : n ≤ 281474976710656) (B : Nat) (hB : B ≤ W.heap.size) (xs : List Int) (hx : xs.length = n) : Own (W.alloc (.cells (bcs xs).toArray 5)) B (.slice (some ⟨W.heap.size, 0, none⟩) n n) n xs := by
  refine ⟨by rw [bcs_len]; omega, .inr ⟨W.heap.size, n, (bcs xs).toArray, rfl, hB, ?_, Nat.le_refl _, by unfold maxLen; omega, by simp [bcs, hx], ?_⟩⟩
  · show (W.heap.push _)[W.heap.size]? = _
    simp
  · rw [Nat.mul_one, ← hx, ← bcs_len xs]; simp
theorem own_set {w : World} {B g n cap : Nat} {xs : List Int} (h : Own w B (.slice (some ⟨g, 0, none⟩) n cap) n xs) (j : Nat) (u : Int) : Own (w.setCell ⟨g, j, none⟩ (.int .u8 u)) B (.slice (some ⟨g, 0, none⟩) n cap) n (xs.set j u) := by
  have := World.ownsRow.stored h j (.int .u8 u)
  have e : (bcs xs).set j (.int .u8 u) = bcs (xs.set j u) := by simp [bcs]
  rw [e] at this
  exact this.1
theorem getD_setB (xs : List Int) (i j : Nat) (d : Int) (hj : j < xs.length) : (xs.set j d).getD i 0 = if j = i then d else xs.getD i 0 := by
  simp only [List.getD, List.getElem?_set]
  split
  · rename_i e; subst e; simp [hj]
  · rfl
theorem own_cell {w : World} {B g n cap : Nat} {xs : List Int} (h : Own w B (.slice (some ⟨g, 0, none⟩) n cap) n xs) (j : Nat) (hj : j < n) : w.cell? ⟨g, j, none⟩ = some (.int .u8 (xs.getD j 0)) ∧ w.frozen? ⟨g, j, none⟩ = false := by
  have hl : xs.length = n := by have := h.1; rw [bcs_len] at this; omega
  refine ⟨?_, World.ownsRow.frozenAt h j⟩
  rw [World.ownsRow.cellAt h j (by omega)]
  have : j < xs.length := by omega
  simp [bcs, List.getD, this]
theorem take_eq_of {xs ys : List Int} {n : Nat} (hx : xs.length = n) (hy : n ≤ ys.length) (h : ∀ j, j < n → ys.getD j 0 = xs.getD j 0) : ys.take n = xs := by
  apply list_eq_of (by simp; omega)
  intro i hi
  rw [List.length_take] at hi
  rw [← h i (by omega)]
  simp [List.getD, show i < n by omega]
/-- The marks behind n bytes. -/
def Marked (n : Nat) (ys : List Int) : Prop := ∀ j, j < 90 → ys.getD (n + j) 0 = 100 + j

/-- A copy of bytes into an own row that has room for them. -/
theorem copy_bytes (w : World) (B g n m cap : Nat) (ys : List Int) (a : Option Addr) (c : Nat) (xs : List Int) (hown : Own w B (.slice (some ⟨g, 0, none⟩) m cap) m ys) (hbl : BL w a n xs) (h0 : a = none → n = 0) (hm : n ≤ m) :
    ∃ w', (Builtin.copy_ #[25, 25] 3 #[.slice (some ⟨g, 0, none⟩) m cap, .slice a n c]).run Tryd.prog w = .ok (.int .i64 (n : Int)) w' ∧ Own w' B (.slice (some ⟨g, 0, none⟩) m cap) m (xs ++ ys.drop n) ∧ w.grownBy w' (some g) := by
  have hy : ys.length = m := by have := hown.1; rw [bcs_len] at this; omega
  by_cases hn : n = 0
  · subst hn
    have : xs = [] := List.length_eq_zero_iff.1 hbl.1
    subst this
    exact ⟨w, run_copy_none (P := Tryd.prog) w 25 25 3 5 _ _ m cap 0 c Tryd.underlying25 (by kernel_rfl) (by show min 0 m = 0; omega), by simpa using hown, gr_refl _ _⟩
  · rcases hbl.2.2.2 with q | ⟨b, o, rfl, hb, hc⟩
    · exact absurd q hn
    · rcases hown.2 with ⟨e, _⟩ | ⟨g', cap', cur, e, hB, hg, hnc, hcm, hcs, ht⟩
      · cases e
      · simp only [Value.slice.injEq, Option.some.injEq, Addr.mk.injEq, and_true, true_and] at e
        obtain ⟨rfl, rfl⟩ := e
        have hlx : (bcs xs).length = n := by rw [bcs_len]; exact hbl.1
        have hr := run_copy_row (P := Tryd.prog) w 25 25 3 5 g 0 m cap ⟨b, o, none⟩ n c cur 5 (bcs xs) Tryd.underlying25 (by kernel_rfl) hg (by rw [hlx]; show n = min n m; omega) (fun j v hj => by
          have hjm : j < n := by have := (List.getElem?_eq_some_iff.1 hj).1; omega
          rw [Go.Addr.add_lit, hc j hjm]
          have : j < xs.length := by have := hbl.1; omega
          simp [bcs, this] at hj
          simp [List.getD, this, hj]) (by rw [hlx]; omega) (by intro u hu; obtain ⟨z, _, rfl⟩ := List.mem_map.1 hu; rfl)
        rw [hlx] at hr
        refine ⟨_, hr, ⟨by rw [bcs_len]; simp; have := hbl.1; omega, .inr ⟨g, cap, _, rfl, hB, setRow_heap w g cur _ 5 _ hg, hnc, hcm, ?_, ?_⟩⟩, ⟨rfl, rfl, rfl, by simp, fun k _ hk => setRow_other w g k _ (fun e => hk (by simp [e]))⟩⟩
        · simp [hlx]; omega
        · simp only [List.take_zero, List.nil_append, Nat.zero_add, Nat.mul_one]
          rw [Nat.mul_one] at ht
          rw [bcs_app]
          have e1 : cur.toList.drop n = (cur.toList.take m).drop n ++ cur.toList.drop m := by
            conv => lhs; rw [← List.take_append_drop m cur.toList]
            rw [List.drop_append_of_le_length (by simp; omega)]
          have e2 : bcs (ys.drop n) = (bcs ys).drop n := by simp [bcs]
          rw [e2, e1, ht, ← List.append_assoc]
          have e3 : (bcs xs ++ (bcs ys).drop n).length = m := by simp [hlx, bcs_len, hy]; omega
          rw [← e3]
          exact List.take_left

end Go.Proofs.YtdbjdieegocdfaaDoor
