/-
  WALKS: the document's row, Name, Operands, Effect, within, Valid; the program's allows, Valid.
-/
import Derived.Test.YteedkcmjhdabeaaDoorWCode2
namespace Go.Proofs.YteedkcmjhdabeaaDoor
open Go.RowKit
set_option linter.unusedVariables false
set_option linter.unusedSimpArgs false

theorem box_all5 {w : World} {x : Nat} {a b c d e : Value} {t : TypeId} (h : w.heap[x]? = some (.cells #[a, b, c, d, e] t)) : w.cell? ⟨x, 0, none⟩ = some a ∧ w.cell? ⟨x, 1, none⟩ = some b ∧ w.cell? ⟨x, 2, none⟩ = some c ∧ w.cell? ⟨x, 3, none⟩ = some d ∧ w.cell? ⟨x, 4, none⟩ = some e := by
  refine ⟨?_, ?_, ?_, ?_, ?_⟩ <;> simp [World.cell?, h]
theorem box_set5 {w : World} {x : Nat} {a b c d e a' b' c' d' e' : Value} {t : TypeId} (h : w.heap[x]? = some (.cells #[a, b, c, d, e] t)) : (((((w.setCell ⟨x, 0, none⟩ a').setCell ⟨x, 1, none⟩ b').setCell ⟨x, 2, none⟩ c').setCell ⟨x, 3, none⟩ d').setCell ⟨x, 4, none⟩ e').heap[x]? = some (.cells #[a', b', c', d', e'] t) := by
  have h0 : (w.setCell ⟨x, 0, none⟩ a').heap[x]? = some (.cells #[a', b, c, d, e] t) := Joins.block_setCell (i := 0) h a'
  generalize w.setCell ⟨x, 0, none⟩ a' = w at h0 ⊢
  have h1 : (w.setCell ⟨x, 1, none⟩ b').heap[x]? = some (.cells #[a', b', c, d, e] t) := Joins.block_setCell (i := 1) h0 b'
  generalize w.setCell ⟨x, 1, none⟩ b' = w at h1 ⊢
  have h2 : (w.setCell ⟨x, 2, none⟩ c').heap[x]? = some (.cells #[a', b', c', d, e] t) := Joins.block_setCell (i := 2) h1 c'
  generalize w.setCell ⟨x, 2, none⟩ c' = w at h2 ⊢
  have h3 : (w.setCell ⟨x, 3, none⟩ d').heap[x]? = some (.cells #[a', b', c', d', e] t) := Joins.block_setCell (i := 3) h2 d'
  generalize w.setCell ⟨x, 3, none⟩ d' = w at h3 ⊢
  exact Joins.block_setCell (i := 4) h3 e'
theorem below5 {B : Nat} {w0 w : World} {g : Nat} (h : Below B w0 w) (hg : B ≤ g) (a0 a1 a2 a3 a4 : Value) :
    Below B w0 (((((w.setCell ⟨g, 0, none⟩ a0).setCell ⟨g, 1, none⟩ a1).setCell ⟨g, 2, none⟩ a2).setCell ⟨g, 3, none⟩ a3).setCell ⟨g, 4, none⟩ a4) :=
  (((((h.setCell (p := ⟨g, 0, none⟩) hg _).setCell (p := ⟨g, 1, none⟩) hg _).setCell (p := ⟨g, 2, none⟩) hg _).setCell (p := ⟨g, 3, none⟩) hg _).setCell (p := ⟨g, 4, none⟩) hg _)
theorem frz5 {w : World} {x : Nat} {a b c d e : Value} {t : TypeId} (h : w.heap[x]? = some (.cells #[a, b, c, d, e] t)) : w.frozen? ⟨x, 0, none⟩ = false ∧ w.frozen? ⟨x, 1, none⟩ = false ∧ w.frozen? ⟨x, 2, none⟩ = false ∧ w.frozen? ⟨x, 3, none⟩ = false ∧ w.frozen? ⟨x, 4, none⟩ = false := by
  refine ⟨?_, ?_, ?_, ?_, ?_⟩ <;> simp [World.frozen?, h]
abbrev refV (n : ByteArray) (a b t p : Int) : Value := .agg #[.string n, .int .i64 a, .int .i64 b, .int .i64 t, .int .i64 p]
/-- What the document's table says of a number. -/
structure RefE (op : Int) (n : ByteArray) (a b t p er : Int) : Prop where
  say : (∃ k : Nat, k < 29 ∧ op = (k : Int) ∧ n = nmA k ∧ a = (rfs k).a ∧ b = (rfs k).b ∧ t = (tkA k : Int) ∧ p = (ptA k : Int) ∧ er = 0) ∨ ((op < 0 ∨ 29 ≤ op) ∧ n = ⟨#[]⟩ ∧ a = 0 ∧ b = 0 ∧ t = 0 ∧ p = 0 ∧ er = 111)
theorem ref_ex (op : Int) : ∃ n a b t p er, RefE op n a b t p er := by
  by_cases h : op < 0 ∨ 29 ≤ op
  · exact ⟨_, _, _, _, _, _, ⟨.inr ⟨h, rfl, rfl, rfl, rfl, rfl, rfl⟩⟩⟩
  · exact ⟨_, _, _, _, _, _, ⟨.inl ⟨op.toNat, by omega, by omega, rfl, rfl, rfl, rfl, rfl, rfl⟩⟩⟩
/-- How many operands: those whose bound is none below 0. -/
def opsR (a b er : Int) : Int := if er ≠ 0 then 0 else (if 0 ≤ a then 1 else 0) + (if 0 ≤ b then 1 else 0)
def wi (v b : Int) : Bool := decide (if b < 0 then v = 0 else 0 ≤ v ∧ v ≤ b)
end Go.Proofs.YteedkcmjhdabeaaDoor
