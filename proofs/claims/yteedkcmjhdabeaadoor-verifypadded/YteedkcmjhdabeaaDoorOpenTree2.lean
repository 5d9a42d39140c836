/-
  OPENING TREES THAT CAME IN (own work): from the reading down to the relations.
-/
import Derived.Test.YteedkcmjhdabeaaDoorOpenTree
namespace Go.Proofs.YteedkcmjhdabeaaDoor
open Go.ChangeShapes Go.WideShapes Go.ChangeAt Go.RowKit Go.Deep
set_option linter.unusedVariables false
set_option linter.unusedSimpArgs false

theorem tw_all {H : Type} {P : Program} {e : TypeId} {l : List (DataW H)} {d : DataW H} (h : d ∈ l) : ∀ n ∈ d.weights P e, n ∈ DataW.weightsAll P e l := by
  induction l with
  | nil => cases h
  | cons x r ih =>
    intro n hn
    simp only [DataW.weightsAll, List.mem_append]
    cases List.mem_cons.1 h with
    | inl e => subst e; exact .inl hn
    | inr e => exact .inr (ih e n hn)
theorem taddr_of {w : World} {x : Addr} {v : Value} (h : w.cell? x = some v) : ∃ b o, x = ⟨b, o, none⟩ ∧ b < w.heap.size := by
  obtain ⟨b, o, s⟩ := x
  have hs : s = none := World.cell?_spot h
  subst hs
  refine ⟨b, o, rfl, ?_⟩
  by_cases hlt : b < w.heap.size
  · exact hlt
  · exfalso
    have hn : w.heap[b]? = none := by simp; omega
    simp [World.cell?, hn] at h
section
variable {H : Type} {enc : TypeId × Value → H} {P : Program} {W : World} {base : Nat} {sp : Nat → Bool} {held : Bool}

/-- What is read of a type, with the bounds of its parts. -/
def Rd (enc : TypeId × Value → H) (P : Program) (W : World) (base : Nat) (sp : Nat → Bool) (held : Bool) (fuel : Nat) (t : TypeId) (cs : List Value) : Prop :=
  ∃ x, DataW.trod enc P W base sp held fuel t cs = some x ∧ ∀ n ∈ x.1.weights P t, n ≤ reachBytes

theorem rd_struct {t : TypeId} {fs : Array Field} {fuel : Nat} {cs : List Value} (ht : P.underlying t = some (.struct fs)) (h : Rd enc P W base sp held fuel t cs) :
    ∃ n, fuel = n + 1 ∧ cs.length = P.cellsOf t ∧ ∀ (i : Nat) (f : Field), fs[i]? = some f → Rd enc P W base sp held n f.type ((cs.drop f.offset).take (P.cellsOf f.type)) := by
  obtain ⟨x, hx, hz⟩ := h
  obtain ⟨xs, n, hn, hd, hl, hlen, hfld⟩ := DataW.trod_struct ht hx
  refine ⟨n, hn, hl, fun i f hf => ?_⟩
  have hi : i < fs.size := by
    rcases Nat.lt_or_ge i fs.size with h | h
    · exact h
    · simp [h] at hf
  have hk := hfld i f hf
  have hy : xs[i]? = some (xs[i]'(by omega)) := by simp [show i < xs.length by omega]
  rw [hy] at hk
  refine ⟨_, hk, fun m hm => hz m ?_⟩
  have hd1 : x.1 = .agg (xs.map (·.1)) := by have := congrArg Prod.fst hd; simpa using this
  rw [hd1]
  simp only [DataW.weights, ht]
  refine DataW.weights_mem_each (j := i) (t := f.type) ?_ ?_ m hm
  · simp [hf]
  · simp [hy]
theorem rd_slice {T e : TypeId} {fuel : Nat} {cs : List Value} (hT : P.underlying T = some (.slice e)) (h : Rd enc P W base sp held fuel T cs) :
    cs = [.slice none 0 0] ∨ ∃ y len cap n, cs = [.slice (some y) len cap] ∧ fuel = n + 1 ∧ len ≤ cap ∧ cap ≤ maxLen ∧ len * P.bytesOf e ≤ reachBytes ∧
      ∀ i, i < len → ∃ cs', W.cells? base (y.add (i * P.cellsOf e)) (P.cellsOf e) = some cs' ∧ Rd enc P W base sp held n e cs' := by
  obtain ⟨x, hx, hz⟩ := h
  rcases DataW.trod_slice hT hx with ⟨h0, _⟩ | ⟨a, len, cap, elems, rest, n, hn, rfl, hx1, hb, hl, hm, hlen, hel, hsp, hns⟩
  · exact .inl h0
  · right
    have hd1 : x.1 = .slice (elems.map (·.1)) (rest.map (·.1)) := by rw [hx1]
    refine ⟨a, len, cap, n, rfl, hn, hl, hm, ?_, fun i hi => ?_⟩
    · have := hz ((elems.length + rest.length) * P.bytesOf e) (by rw [hd1]; simp [DataW.weights, hT])
      rw [hlen] at this
      exact Nat.le_trans (Nat.mul_le_mul_right _ (by omega)) this
    · have hk := hel i hi
      have hy : elems[i]? = some (elems[i]'(by omega)) := by simp [show i < elems.length by omega]
      rw [hy] at hk
      obtain ⟨cs', h1, h2⟩ := Option.bind_eq_some_iff.1 hk
      refine ⟨cs', h1, _, h2, fun m hm => hz m ?_⟩
      rw [hd1]
      simp only [DataW.weights, hT, List.mem_cons, List.mem_append]
      exact .inr (.inl (tw_all (d := (elems[i]'(by omega)).1) (List.mem_map.2 ⟨_, List.getElem_mem _, rfl⟩) _ hm))
theorem rd_int {t : TypeId} {fuel : Nat} {cs : List Value} (ht : P.underlying t = some (.int .i64)) (h : Rd enc P W base sp held fuel t cs) : ∃ n, cs = [.int .i64 n] ∧ i64 n := by
  obtain ⟨x, hx, hz⟩ := h
  obtain ⟨n, r, _, w⟩ := DataW.trod_int ht hx
  exact ⟨n, r, w⟩
theorem rd_string {t : TypeId} {fuel : Nat} {cs : List Value} (ht : P.underlying t = some .string) (h : Rd enc P W base sp held fuel t cs) : ∃ s : ByteArray, cs = [.string s] ∧ s.size ≤ 140737488351232 := by
  obtain ⟨x, hx, hz⟩ := h
  obtain ⟨f, r, q, _⟩ := DataW.trod_string ht hx
  refine ⟨f, r, ?_⟩
  have := hz f.data.toList.length (by rw [q]; simp [DataW.weights])
  have e2 : f.size = f.data.toList.length := (Array.length_toList).symm
  unfold reachBytes at this
  omega
/-- A row, element by element. -/
theorem rd_row {e k : Nat} {y : Addr} {len n : Nat} (hk : P.cellsOf e = k) (hk0 : 0 < k)
    (h : ∀ i, i < len → ∃ cs', W.cells? base (y.add (i * P.cellsOf e)) (P.cellsOf e) = some cs' ∧ Rd enc P W base sp held n e cs') :
    ∃ V : Nat → List Value, Row W (some y) len k V ∧ ∀ i, i < len → (V i).length = k ∧ Rd enc P W base sp held n e (V i) := by
  obtain ⟨V, hV⟩ := choose_lt (α := List Value) (n := len) (p := fun i cs' => W.cells? base (y.add (i * P.cellsOf e)) (P.cellsOf e) = some cs' ∧ Rd enc P W base sp held n e cs') h
  rw [hk] at hV
  have hc : ∀ i, i < len → (V i).length = k ∧ ∀ j, j < k → W.cell? (y.add (i * k + j)) = some ((V i).getD j default) := fun i hi => by
    obtain ⟨_, hl, h3⟩ := World.cells?_some (hV i hi).1
    refine ⟨hl, fun j hj => ?_⟩
    have := h3 j hj
    rw [Deep.add_add] at this
    rw [this]
    simp [List.getD, show j < (V i).length by omega]
  refine ⟨V, ?_, fun i hi => ⟨(hc i hi).1, (hV i hi).2⟩⟩
  by_cases h0 : len = 0
  · exact .inl h0
  · have h00 := (hc 0 (by omega)).2 0 hk0
    have e0 : y.add (0 * k + 0) = y := by simp [Addr.add]
    rw [e0] at h00
    obtain ⟨b, o, rfl, hlt⟩ := taddr_of h00
    refine .inr ⟨b, o, rfl, hlt, fun i hi j hj => ?_⟩
    have := (hc i hi).2 j hj
    rw [Go.Addr.add_lit] at this
    rw [Nat.add_assoc]
    exact this
end
end Go.Proofs.YteedkcmjhdabeaaDoor
