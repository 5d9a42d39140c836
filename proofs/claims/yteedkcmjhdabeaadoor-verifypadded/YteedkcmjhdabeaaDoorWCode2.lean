/-
  WALKS: the document's table (Table, row), and what it says of a number; Find of both.
-/
import Derived.Test.YteedkcmjhdabeaaDoorWCode1
import Derived.Laws.AppendOwn
import Derived.Laws.AppendOwnNone
import Derived.Laws.OwnMore
import Derived.Maps.AppendAt
namespace Go.Proofs.YteedkcmjhdabeaaDoor
open Go.RowKit
set_option linter.unusedVariables false
set_option linter.unusedSimpArgs false

/-- A row of the document's table. -/
structure Rf where
  n : ByteArray
  a : Int
  b : Int
  t : Int
  p : Int
  deriving Inhabited
def Rf.cells (r : Rf) : List Value := [.string r.n, .int .i64 r.a, .int .i64 r.b, .int .i64 r.t, .int .i64 r.p]
def rfc (l : List Rf) : List Value := l.flatMap Rf.cells
theorem rfc_len (l : List Rf) : (rfc l).length = l.length * 5 := by
  induction l with
  | nil => rfl
  | cons f l ih => simp [rfc, Rf.cells] at ih ⊢; omega
theorem rfc_app (l m : List Rf) : rfc (l ++ m) = rfc l ++ rfc m := by simp [rfc]
theorem rfc_at (l : List Rf) : ∀ i, i < l.length → ∀ j, j < 5 → (rfc l)[i * 5 + j]? = (l.getD i default).cells[j]? := by
  induction l with
  | nil => intro i hi; simp at hi
  | cons f l ih =>
    intro i hi j hj
    have e : rfc (f :: l) = f.cells ++ rfc l := rfl
    rw [e]
    match i with
    | 0 => rw [Nat.zero_mul, Nat.zero_add, List.getElem?_append_left (by simp [Rf.cells]; omega)]; rfl
    | i + 1 =>
      rw [List.getElem?_append_right (by simp [Rf.cells]; omega)]
      rw [show (i + 1) * 5 + j - f.cells.length = i * 5 + j by simp [Rf.cells]; omega, ih i (by simpa using hi) j hj]
      rfl
def rp0 : List Rf := [⟨⟨#[101, 110, 100]⟩, (-1), (-1), 0, 0⟩, ⟨⟨#[99, 111, 110, 115, 116]⟩, 16383, (-1), 0, 1⟩, ⟨⟨#[98, 111, 111, 108]⟩, 1, (-1), 0, 1⟩, ⟨⟨#[111, 98, 115]⟩, 63, 3660, 0, 1⟩]
def rp1 : List Rf := [⟨⟨#[108, 111, 97, 100]⟩, 32767, (-1), 0, 1⟩, ⟨⟨#[115, 116, 111, 114, 101]⟩, 32767, (-1), 1, 0⟩]
def rp2 : List Rf := [⟨⟨#[107, 101, 101, 112]⟩, 16383, (-1), 1, 1⟩, ⟨⟨#[103, 101, 116]⟩, 16383, (-1), 0, 1⟩, ⟨⟨#[100, 114, 111, 112]⟩, (-1), (-1), 1, 0⟩]
def rp3 : List Rf := [⟨⟨#[97, 100, 100]⟩, (-1), (-1), 2, 1⟩, ⟨⟨#[115, 117, 98]⟩, (-1), (-1), 2, 1⟩, ⟨⟨#[109, 117, 108]⟩, (-1), (-1), 2, 1⟩, ⟨⟨#[110, 101, 103]⟩, (-1), (-1), 1, 1⟩]
def rp4 : List Rf := [⟨⟨#[100, 105, 118]⟩, (-1), (-1), 2, 1⟩, ⟨⟨#[109, 111, 100]⟩, (-1), (-1), 2, 1⟩, ⟨⟨#[97, 98, 115]⟩, (-1), (-1), 1, 1⟩, ⟨⟨#[109, 105, 110]⟩, (-1), (-1), 2, 1⟩, ⟨⟨#[109, 97, 120]⟩, (-1), (-1), 2, 1⟩]
def rp5 : List Rf := [⟨⟨#[114, 97, 116, 105, 111]⟩, 4, (-1), 3, 1⟩]
def rp6 : List Rf := [⟨⟨#[108, 116]⟩, (-1), (-1), 2, 1⟩, ⟨⟨#[108, 101]⟩, (-1), (-1), 2, 1⟩, ⟨⟨#[103, 116]⟩, (-1), (-1), 2, 1⟩, ⟨⟨#[103, 101]⟩, (-1), (-1), 2, 1⟩, ⟨⟨#[101, 113]⟩, (-1), (-1), 2, 1⟩, ⟨⟨#[110, 101]⟩, (-1), (-1), 2, 1⟩]
def rp7 : List Rf := [⟨⟨#[110, 111, 116]⟩, (-1), (-1), 1, 1⟩, ⟨⟨#[106, 117, 109, 112]⟩, 262143, (-1), 0, 0⟩, ⟨⟨#[122, 101, 114, 111]⟩, 262143, (-1), 1, 0⟩, ⟨⟨#[102, 108, 111, 119]⟩, 4095, (-1), 1, 0⟩]
/-- The k-th row. -/
def rfs (k : Nat) : Rf := ⟨nmA k, if 1 ≤ onA k then (baA k : Int) else -1, if 2 ≤ onA k then (bbA k : Int) else -1, (tkA k : Int), (ptA k : Int)⟩
def rtab : List Rf := rp0 ++ rp1 ++ rp2 ++ rp3 ++ rp4 ++ rp5 ++ rp6 ++ rp7
theorem rtab_at : ∀ k, k < 29 → rtab.getD k default = rfs k
  | 0, _ => rfl
  | 1, _ => rfl
  | 2, _ => rfl
  | 3, _ => rfl
  | 4, _ => rfl
  | 5, _ => rfl
  | 6, _ => rfl
  | 7, _ => rfl
  | 8, _ => rfl
  | 9, _ => rfl
  | 10, _ => rfl
  | 11, _ => rfl
  | 12, _ => rfl
  | 13, _ => rfl
  | 14, _ => rfl
  | 15, _ => rfl
  | 16, _ => rfl
  | 17, _ => rfl
  | 18, _ => rfl
  | 19, _ => rfl
  | 20, _ => rfl
  | 21, _ => rfl
  | 22, _ => rfl
  | 23, _ => rfl
  | 24, _ => rfl
  | 25, _ => rfl
  | 26, _ => rfl
  | 27, _ => rfl
  | 28, _ => rfl
  | n + 29, h => absurd h (by omega)
/-- The table that came, where the world holds it. -/
def RTb (w : World) (g : Nat) : Prop := g < w.heap.size ∧ ∀ k, k < 29 → w.cell? ⟨g, k * 5, none⟩ = some (.string (nmA k)) ∧ w.cell? ⟨g, k * 5 + 1, none⟩ = some (.int .i64 (rfs k).a) ∧ w.cell? ⟨g, k * 5 + 2, none⟩ = some (.int .i64 (rfs k).b) ∧ w.cell? ⟨g, k * 5 + 3, none⟩ = some (.int .i64 (tkA k : Int)) ∧ w.cell? ⟨g, k * 5 + 4, none⟩ = some (.int .i64 (ptA k : Int))
def TbE (w : World) (e : Ending) (w' : World) : Prop := ∃ g cap, e = .returned (.slice (some ⟨g, 0, none⟩) 29 cap) ∧ RTb w' g ∧ Below w.heap.size w w'
end Go.Proofs.YteedkcmjhdabeaaDoor
