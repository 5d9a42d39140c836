/-
  WALKS: lists that are compared (made by gen_wimg1.py).
-/
import Derived.Test.YteedkcmjhdabeaaDoorRows
import Derived.Test.YteedkcmjhdabeaaDoorOpenP
import Derived.WalkKit
import Derived.WalkSpells
import Derived.BigCall
import Derived.BigGuard
import Derived.BigQuiet
import Derived.Deep.QuietTactic
import Derived.Lib.Hide
import Derived.Lib.Strings
import Derived.Deep.RegionHeld3
namespace Go.Proofs.YteedkcmjhdabeaaDoor
open Go.RowKit
set_option linter.unusedVariables false
set_option linter.unusedSimpArgs false

theorem list_eqP {α : Type} {d : α} {xs ys : List α} (h : xs.length = ys.length) (e : ∀ i, i < xs.length → xs.getD i d = ys.getD i d) : xs = ys := by
  apply List.ext_getElem h
  intro i h1 h2
  have := e i h1
  simpa [List.getD, h1, h2] using this
theorem retBP {b c : Bool} (h : b = c) : Ending.returned (.bool b) = Ending.returned (.bool c) := by rw [h]
theorem toList_oneP {x y : ByteArray} (h : x.toList = y.toList) : x = y := by
  rw [Lib.toList_data, Lib.toList_data] at h
  obtain ⟨⟨x⟩⟩ := x; obtain ⟨⟨y⟩⟩ := y
  simp at h; rw [h]
theorem str_neP {x y : ByteArray} (h : x ≠ y) : (x.toList == y.toList) = false := by
  rw [beq_eq_false_iff_ne]
  exact fun e => h (toList_oneP e)
theorem Row.twoP {w : World} {a a' : Option Addr} {n k : Nat} {V V' : Nat → List Value} (h : Row w a n k V) (h' : Row w a' n k V') : 0 < n → ∃ x o y p, a = some ⟨x, o, none⟩ ∧ a' = some ⟨y, p, none⟩ ∧ ∀ i, i < n → ∀ j, j < k → w.cell? ⟨x, o + i * k + j, none⟩ = some ((V i).getD j default) ∧ w.cell? ⟨y, p + i * k + j, none⟩ = some ((V' i).getD j default) := by
  intro h0
  rcases h with h | ⟨x, o, e, _, hc⟩
  · omega
  rcases h' with h' | ⟨y, p, e', _, hc'⟩
  · omega
  exact ⟨x, o, y, p, e, e', fun i hi j hj => ⟨hc i hi j hj, hc' i hi j hj⟩⟩
end Go.Proofs.YteedkcmjhdabeaaDoor
