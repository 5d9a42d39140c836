/-
  LISTS OF FLOWS IN MEMORY; an append of one.
-/
import Derived.Test.YtjlnbhmiahegmaaWFlow1
import Derived.Laws.AppendOwn
import Derived.Laws.AppendOwnNone
import Derived.Laws.OwnMore
import Derived.Maps.AppendAt
namespace Go.Proofs.Ytjlnbhmiahegmaa
open Go.RowKit
set_option linter.unusedVariables false
set_option linter.unusedSimpArgs false

/-- A list of flows, where the world holds it. -/
def FC (w : World) (b o : Nat) (f : Fl) : Prop := w.cell? ⟨b, o, none⟩ = some (.int .i64 f.d) ∧ w.cell? ⟨b, o + 1, none⟩ = some (.string f.c) ∧ w.cell? ⟨b, o + 2, none⟩ = some (.int .i64 f.a)
def FL (w : World) (a : Option Addr) (n : Nat) (fs : List Fl) : Prop :=
  fs.length = n ∧ n ≤ 4398046511000 ∧ (n = 0 ∨ ∃ b o, a = some ⟨b, o, none⟩ ∧ b < w.heap.size ∧ ∀ i, i < n → FC w b (o + i * 3) (fs.getD i default))
theorem FC.later {w w' : World} {B b o : Nat} {f : Fl} (h : FC w b o f) (hb : Below B w w') (hB : b < B) : FC w' b o f :=
  ⟨(hb.cell (p := ⟨b, o, none⟩) hB).trans h.1, (hb.cell (p := ⟨b, o + 1, none⟩) hB).trans h.2.1, (hb.cell (p := ⟨b, o + 2, none⟩) hB).trans h.2.2⟩
theorem FL.later {w w' : World} {a n fs} (h : FL w a n fs) (b : Below w.heap.size w w') : FL w' a n fs := by
  obtain ⟨h1, h2, h3⟩ := h
  refine ⟨h1, h2, ?_⟩
  rcases h3 with h3 | ⟨x, o, rfl, hx, hc⟩
  · exact .inl h3
  · exact .inr ⟨x, o, rfl, Nat.lt_of_lt_of_le hx b.size, fun i hi => (hc i hi).later b hx⟩

/-- The cells of a list of flows. -/
def fcs (fs : List Fl) : List Value := fs.flatMap Fl.cells
theorem fcs_len (fs : List Fl) : (fcs fs).length = fs.length * 3 := by
  induction fs with
  | nil => rfl
  | cons f fs ih => simp [fcs, Fl.cells] at ih ⊢; omega
theorem fcs_snoc (fs : List Fl) (f : Fl) : fcs (fs ++ [f]) = fcs fs ++ f.cells := by simp [fcs]
theorem fcs_at (fs : List Fl) : ∀ i, i < fs.length → ∀ j, j < 3 → (fcs fs)[i * 3 + j]? = (fs.getD i default).cells[j]? := by
  induction fs with
  | nil => intro i hi; simp at hi
  | cons f fs ih =>
    intro i hi j hj
    have e : fcs (f :: fs) = f.cells ++ fcs fs := rfl
    rw [e]
    match i with
    | 0 => rw [Nat.zero_mul, Nat.zero_add, List.getElem?_append_left (by simp [Fl.cells]; omega)]; rfl
    | i + 1 =>
      rw [List.getElem?_append_right (by simp [Fl.cells]; omega)]
      rw [show (i + 1) * 3 + j - f.cells.length = i * 3 + j by simp [Fl.cells]; omega, ih i (by simpa using hi) j hj]
      rfl

theorem infoF : (Try.prog.info? 51).map (fun i => (i.zero, i.size, i.bytes)) = some (some (.agg #[.int .i64 0, .string ⟨#[]⟩, .int .i64 0]), 3, 32) := by kernel_rfl

/-- A row that the call itself has gathered is a list in memory. -/
theorem fl_of_own {w : World} {B : Nat} {v : Value} {fs : List Fl} (h : w.ownsRow B 51 3 v fs.length (fcs fs)) (hl : fs.length ≤ 4398046511000) : ∃ a cap, v = .slice a fs.length cap ∧ FL w a fs.length fs := by
  obtain ⟨h1, h2⟩ := h
  rcases h2 with ⟨rfl, h2⟩ | ⟨g, cap, cur, rfl, hB, hg, hn, hm, hs, ht⟩
  · exact ⟨none, 0, by rw [h2], rfl, hl, .inl h2⟩
  · refine ⟨_, cap, rfl, rfl, hl, .inr ⟨g, 0, rfl, (Array.getElem?_eq_some_iff.1 hg).1, fun i hi => ?_⟩⟩
    have key : ∀ j, j < 3 → w.cell? ⟨g, i * 3 + j, none⟩ = (fs.getD i default).cells[j]? := fun j hj => by
      have e : w.cell? ⟨g, i * 3 + j, none⟩ = cur[i * 3 + j]? := by simp [World.cell?, hg]
      rw [e, ← fcs_at fs i hi j hj, ← ht, List.getElem?_take_of_lt (by omega)]
      simp
    rw [Nat.zero_add]
    exact ⟨key 0 (by omega), key 1 (by omega), key 2 (by omega)⟩

theorem own_snocF {w : World} {B : Nat} {v : Value} {fs : List Fl} {f : Fl} (h : w.ownsRow B 51 3 v (fs.length + 1) (fcs fs ++ f.cells)) : w.ownsRow B 51 3 v (fs ++ [f]).length (fcs (fs ++ [f])) := by
  rw [fcs_snoc]; simpa using h

theorem own_sliceF {w : World} {B : Nat} {v : Value} {fs : List Fl} {f : Fl} (h : w.ownsRow B 51 3 v (fs ++ [f]).length (fcs (fs ++ [f]))) : ∃ g cap, v = .slice (some ⟨g, 0, none⟩) (fs ++ [f]).length cap := by
  obtain ⟨h1, h2⟩ := h
  rcases h2 with ⟨rfl, h2⟩ | ⟨g, cap, cur, rfl, _⟩
  · simp at h2
  · exact ⟨g, cap, rfl⟩

/-- 'out = append(out, f)' of a list of flows that the call itself gathers. -/
theorem wp_flow {ops : Array Oper} {rest : List Oper} {o : Oper} {a : Act} {Q : Exit → Act → World → Prop} (w : World) (d m : Int) (c : ByteArray) (hgd : o.guard = none) (s x : Operand)
    (ho : o.op = .call { callee := .builtin .append, args := #[s, x], argTypes := #[42, 42] }) (base : Nat) (v : Value) (fs : List Fl) (hs : a.eval s = v)
    (hx : a.eval x = .slice (some ⟨w.heap.size, 0, none⟩) 1 1) (hown : w.ownsRow base 51 3 v fs.length (fcs fs)) (hl : fs.length ≤ 4398046511000) (hb : base ≤ w.heap.size)
    (h : ∀ v' w', w'.ownsRow base 51 3 v' (fs ++ [Fl.mk d c m]).length (fcs (fs ++ [Fl.mk d c m])) → (w.alloc (.cells #[.int .i64 d, .string c, .int .i64 m] 51)).grownBy w' v.ownBlock → wpList Try.prog ops Q rest (a.put o.dst v') w') :
    wpList Try.prog ops Q (o :: rest) a (w.alloc (.cells #[.int .i64 d, .string c, .int .i64 m] 51)) := by
  obtain ⟨i0, hi, hz0, hz1, hz2⟩ := info_parts infoF
  refine wpList_append_own _ hgd s x 42 ho base 51 i0 (.agg #[.int .i64 0, .string ⟨#[]⟩, .int .i64 0]) 3 32 Try.underlying42 hi hz0 hz1 hz2 rfl (by decide) v _ _ hs (hown.alloc _) ⟨w.heap.size, 0, none⟩ 1 1 (Fl.cells (Fl.mk d c m)) hx rfl ?_ ?_ (by unfold maxLen; omega) (by omega) (by simp; omega) ?_
  · intro j u hj
    match j, hj with
    | 0, hj => simp [Fl.cells] at hj; subst hj; simp [Addr.add]
    | 1, hj => simp [Fl.cells] at hj; subst hj; simp [Addr.add]
    | 2, hj => simp [Fl.cells] at hj; subst hj; simp [Addr.add]
  · intro u hu
    simp [Fl.cells] at hu
    rcases hu with rfl | rfl | rfl <;> rfl
  · intro v' w' h1 h2 _
    exact h v' w' (own_snocF h1) h2
end Go.Proofs.Ytjlnbhmiahegmaa
