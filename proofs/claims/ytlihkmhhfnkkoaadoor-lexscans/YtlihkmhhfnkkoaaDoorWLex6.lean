/-
  WALKS: strings.Clone, digitToken, dateToken.
-/
import Derived.Test.YtlihkmhhfnkkoaaDoorWLex5
import Derived.Lib.BufferWrite
import Derived.Lib.UnsafeStr
import Derived.Laws.CopyRow
import Derived.Laws.MakeOwn
import Derived.Lib.SmallJoins
import Derived.RangeFuncRecord
namespace Go.Proofs.YtlihkmhhfnkkoaaDoor
open Go.RowKit Lx
set_option linter.unusedVariables false
set_option linter.unusedSimpArgs false

theorem info8L : (Tryd.prog.info? 5).map (fun i => (i.zero, i.size, i.bytes)) = some (some (.int .u8 0), 1, 1) := by kernel_rfl
theorem parts8 : ∃ i, Tryd.prog.info? 5 = some i ∧ i.zero = some (.int .u8 0) ∧ i.size = 1 ∧ i.bytes = 1 := by
  have h := info8L
  cases hq : Tryd.prog.info? 5 with
  | none => rw [hq] at h; cases h
  | some i =>
    rw [hq] at h
    simp only [Option.map_some, Option.some.injEq, Prod.mk.injEq] at h
    exact ⟨i, rfl, h.1, h.2.1, h.2.2⟩
theorem make_bytes (n : Nat) (hn : n ≤ 65536) (W : World) : (Instr.makeSlice 59 (.int .i64 (n : Int)) (.int .i64 (n : Int))).run Tryd.prog W = .ok (.slice (some ⟨W.heap.size, 0, none⟩) n n) (W.alloc (.cells (madeCells #[.int .u8 0] n) 5)) := by
  obtain ⟨i0, hi, hz0, hz1, hz2⟩ := parts8
  have := run_make (P := Tryd.prog) W 59 5 i0 _ Tryd.underlying59 hi hz0 .i64 .i64 n n (by omega) (by omega) (by rw [hz2]; omega) (by omega)
  rw [hz1] at this
  simpa [Value.cells] using this
theorem setRow_newL (w : World) (cs ds : Array Value) (e : TypeId) : (w.alloc (.cells cs e)).setRow w.heap.size ds = w.alloc (.cells ds e) := by
  have hm : ∀ (a : Array Obj) (x : Obj) (f : Obj → Obj), (a.push x).modify a.size f = a.push (f x) := by
    intro a x f
    apply Array.ext
    · simp
    · intro i h1 h2
      simp only [Array.getElem_modify, Array.getElem_push]
      by_cases h : a.size = i
      · subst h; simp
      · have hi : i < a.size := by simp at h1; omega
        simp [h, hi]
  show ({ w.alloc (.cells cs e) with heap := (w.heap.push (.cells cs e)).modify w.heap.size _ } : World) = _
  rw [hm]
  rfl
def rowB (s : ByteArray) : Array Value := (Lib.byteCells (lst s)).toArray
theorem copy_new (s : ByteArray) (n : Nat) (hn : n = s.size) (W : World) (ty : TypeId) : (Builtin.copy_ #[59, 9] ty #[.slice (some ⟨W.heap.size, 0, none⟩) n n, .string s]).run Tryd.prog (W.alloc (.cells (madeCells #[.int .u8 0] n) 5)) = .ok (.int .i64 (s.size : Int)) (W.alloc (.cells (rowB s) 5)) := by
  subst hn
  have hz : (madeCells #[Value.int .u8 0] s.size).size = s.size := size_madeCells _ _
  have := Lib.run_copy_row_string (P := Tryd.prog) (W.alloc (.cells (madeCells #[.int .u8 0] s.size) 5)) 59 9 ty 5 W.heap.size 0 s.size s.size s _ _ Tryd.underlying59 (by kernel_rfl) (World.alloc_heap_new W _) (Nat.le_refl _) (by rw [hz]; omega)
  rw [this, setRow_newL]
  have e : (List.take 0 (madeCells #[Value.int .u8 0] s.size).toList ++ Lib.byteCells s.data.toList ++ List.drop (0 + s.size) (madeCells #[Value.int .u8 0] s.size).toList).toArray = rowB s := by
    rw [List.drop_eq_nil_of_le (by rw [Array.length_toList, hz]; omega)]
    simp [rowB, lst]
  rw [e]
  rfl
theorem rowB_size (s : ByteArray) : (rowB s).size = s.size := by
  unfold rowB
  rw [List.size_toArray, Lib.byteCells_length, lst_len]
theorem str_new (s : ByteArray) (h1 : 1 ≤ s.size) (hs : s.size ≤ 65536) (W : World) (ty : TypeId) : (Builtin.unsafeString_ #[60, 3] ty #[.pointer (some ⟨W.heap.size, 0, none⟩), .int .i64 (s.size : Int)]).run Tryd.prog (W.alloc (.cells (rowB s) 5)) = .ok (.string s) ((W.alloc (.cells (rowB s) 5)).freeze ⟨W.heap.size, 0, none⟩ s.size) := by
  have hl := lst_len s
  have := Lib.run_unsafeString_row (P := Tryd.prog) (W.alloc (.cells (rowB s) 5)) 60 3 ty 5 Tryd.underlying60 (by kernel_rfl) W.heap.size s.size (by unfold World.shape?; rw [World.alloc_heap_new]; simp [rowB_size]) (lst s) (by intro e; rw [e] at hl; simp at hl; omega) (by omega) (by omega) (fun j x hj => by
    have hb : (rowB s)[j]? = some (.int .u8 x.toNat) := by
      unfold rowB Lib.byteCells
      simp [hj]
    rw [show ((⟨W.heap.size, 0, none⟩ : Addr).add j) = ⟨W.heap.size, j, none⟩ by unfold Addr.add; rw [Nat.zero_add]; split <;> simp_all]
    rw [World.cell?_alloc_at _ _ _ _ rfl]
    exact hb)
  rw [hl] at this
  rw [this, show (⟨(lst s).toArray⟩ : ByteArray) = s from bs_lst s]
theorem freeze_belowL (w : World) (o : Obj) (n : Nat) : Below w.heap.size w ((w.alloc o).freeze ⟨w.heap.size, 0, none⟩ n) :=
  Lib.below_freeze ((Below.refl _ w).alloc (Nat.le_refl _) _) (p := ⟨w.heap.size, 0, none⟩) (Nat.le_refl _) n
theorem clone_any (s : ByteArray) (h1 : 1 ≤ s.size) (hs : s.size ≤ 65536) (w : World) : Calls Tryd.prog 18 #[.string s] w fun e w' => e = .returned (.string s) ∧ Below w.heap.size w w' := by
  have K := Lib.hid (p := ∀ W, Calls Tryd.prog 29 #[.string s] W fun e w' => e = .returned (.string s) ∧ Below W.heap.size W w') (fun W => by
    have hmk := make_bytes s.size hs
    have hcp := copy_new s s.size rfl
    have hus := str_new s h1 hs
    have n0 : ¬ (s.size : Int) = 0 := by omega
    have n1 : (0 : Int) < s.size := by omega
    have n2 : 0 < s.size := by omega
    have B := Lib.hid (freeze_belowL W (.cells (rowB s) 5) s.size)
    go_enter Tryd.func29, Tryd.ntmps29
    go_wp2
    go_ret
    exact ⟨rfl, B.out⟩)
  go_enter Tryd.func18, Tryd.ntmps18
  go_wp2_with (go_at_call 29; refine (K.out _).mono ?_; rintro e w1 ⟨rfl, h1⟩; have B := Lib.hid h1; clear h1)
  go_ret
  exact ⟨rfl, B.out⟩
end Go.Proofs.YtlihkmhhfnkkoaaDoor
