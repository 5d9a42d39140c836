/-
  A constant's bytes, and the first byte appended to them.
-/
import Derived.Test.YthkeoeobpdminaaDoorWTWord
import Derived.Lib.SlBytesConst
namespace Go.Proofs.YthkeoeobpdminaaDoor
open Go.RowKit
set_option linter.unusedVariables false
set_option linter.unusedSimpArgs false

abbrev dayC : Array Value := #[.int .u8 100, .int .u8 97, .int .u8 121]
/-- Bytes of the call's own: a row that it made, or the constant's marked row. -/
def ownD (w : World) (B : Nat) (v : Value) (n : Nat) (xs : List Value) : Prop :=
  w.ownsRow B 5 1 v n xs ∨ ∃ g, v = .slice (some ⟨g, 0, none⟩) 3 3 ∧ B ≤ g ∧ w.heap[g]? = some (.cells dayC 5 (3, 4)) ∧ n = 3 ∧ xs = Lib.byteCells [100, 97, 121]
theorem ownD.lt {w : World} {B n : Nat} {v : Value} {xs : List Value} (h : ownD w B v n xs) : ∀ k, v.ownBlock = some k → B ≤ k := by
  rcases h with h | ⟨g, rfl, hB, _⟩
  · exact fun k e => (h.lt k e).1
  · intro k e
    simp [Value.ownBlock] at e
    omega
theorem own_dayD (w : World) : ownD (w.alloc (.cells dayC 5 (3, 4))) w.heap.size (.slice (some ⟨w.heap.size, 0, none⟩) 3 3) 3 (Lib.byteCells [100, 97, 121]) :=
  .inr ⟨w.heap.size, rfl, Nat.le_refl _, World.alloc_heap_new w _, rfl, rfl⟩
theorem wp_byteD {ops : Array Oper} {rest : List Oper} {o : Oper} {a : Act} {Q : Exit → Act → World → Prop} (w : World) (c : Int) (hgd : o.guard = none) (s x : Operand)
    (ho : o.op = .call { callee := .builtin .append, args := #[s, x], argTypes := #[53, 53] }) (base : Nat) (v : Value) (n : Nat) (xs : List Value) (hs : a.eval s = v)
    (hx : a.eval x = .slice (some ⟨w.heap.size, 0, none⟩) 1 1) (hown : ownD w base v n xs) (hl : n ≤ 4398046511000) (hb : base ≤ w.heap.size)
    (h : ∀ v' w', w'.ownsRow base 5 1 v' (n + 1) (xs ++ [.int .u8 c]) → (w.alloc (.cells #[.int .u8 c] 5)).grownBy w' v.ownBlock → wpList Tryd.prog ops Q rest (a.put o.dst v') w') :
    wpList Tryd.prog ops Q (o :: rest) a (w.alloc (.cells #[.int .u8 c] 5)) := by
  rcases hown with hown | ⟨g, rfl, hB, hg, rfl, rfl⟩
  · exact wp_byte w c hgd s x ho base v n xs hs hx hown hl hb h
  · obtain ⟨i0, hi, hz0, hz1, hz2⟩ := info_parts info8
    have hlt : g < w.heap.size := (Array.getElem?_eq_some_iff.1 hg).1
    have hg2 : (w.alloc (.cells #[.int .u8 c] 5)).heap[g]? = some (.cells dayC 5 (3, 4)) := (Below.heap_alloc _ _ _ hlt).trans hg
    have hr := run_append_grow (P := Tryd.prog) (w.alloc (.cells #[.int .u8 c] 5)) 53 o.type 5 i0 (.int .u8 0) Tryd.underlying53 hi hz0 ⟨g, 0, none⟩ 3 3 (Lib.byteCells [100, 97, 121]) (by rw [hz1]; rfl)
      (fun j u hj => by
        rw [Lib.add_plain, Nat.zero_add]
        have e : (w.alloc (.cells #[.int .u8 c] 5)).cell? ⟨g, j, none⟩ = dayC[j]? := by simp [World.cell?, hg2]
        rw [e]
        match j, hj with
        | 0, hj => exact hj
        | 1, hj => exact hj
        | 2, hj => exact hj
        | j + 3, hj => simp [Lib.byteCells] at hj)
      ⟨w.heap.size, 0, none⟩ 1 1 [.int .u8 c] (by rw [hz1]; rfl)
      (fun j u hj => by
        match j, hj with
        | 0, hj => simp at hj; subst hj; simp [Addr.add])
      (by omega) (by omega) (by rw [hz2]; exact growslice_fits (by omega) (by omega))
    refine wpList_plain hgd fun K hK => ?_
    unfold Oper.wp execOp
    simp only [ho, resolve, invoke, builtin, Sem.run_bind, Sem.run_pure, Result.andThen_ok, List.map_toArray, List.map_cons, List.map_nil, hs, hx, hr]
    refine hK _ _ (h _ _ ⟨rfl, .inr ⟨_, _, _, rfl, ?_, heap_alloc_new _ _, grownCap_ge _ _ _ _, grownCap_le_maxLen _ _ _ _ (by unfold maxLen; omega), ?_, ?_⟩⟩ ⟨rfl, rfl, rfl, by simp, fun k hk _ => Below.heap_alloc _ _ _ hk⟩)
    · simp; omega
    · have hge := grownCap_ge (w.alloc (.cells #[.int .u8 c] 5)) (3 + 1) 3 5
      have hz1 : (Value.int IntKind.u8 0).cells.size = 1 := rfl
      simp only [Array.size_append, List.size_toArray, size_zeroCells, hz1]
      simp only [Lib.byteCells, List.length_map, List.length_cons, List.length_nil]
      omega
    · simp only [Array.toList_append, List.append_assoc]
      rw [← List.append_assoc]
      exact List.take_left' rfl
end Go.Proofs.YthkeoeobpdminaaDoor
