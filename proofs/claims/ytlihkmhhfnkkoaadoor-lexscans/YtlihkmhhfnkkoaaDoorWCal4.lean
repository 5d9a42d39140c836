/-
  WALKS: number, Day, Date, Weekday (the program's).
-/
import Derived.Test.YtlihkmhhfnkkoaaDoorWCal2
import Derived.Lib.Hide
namespace Go.Proofs.YtlihkmhhfnkkoaaDoor
open Go.RowKit
open Cal
set_option linter.unusedVariables false
set_option linter.unusedSimpArgs false

def dayV (y m d : Int) : Int := if exB y m d = true then num y m d else 0
def dayE (y m d : Int) : Int := if exB y m d = true then 0 else 21
theorem day_t {y m d : Int} (h : exB y m d = true) : dayV y m d = num y m d ∧ dayE y m d = 0 := by unfold dayV dayE; rw [if_pos h, if_pos h]; exact ⟨rfl, rfl⟩
theorem day_f {y m d : Int} (h : exB y m d = false) : dayV y m d = 0 ∧ dayE y m d = 21 := by unfold dayV dayE; rw [h]; exact ⟨rfl, rfl⟩

theorem boxOne {w w2 : World} {t : TypeId} {y m d : Int} (hb : Below (w.alloc (.cells #[.int .i64 y, .int .i64 m, .int .i64 d] t)).heap.size (w.alloc (.cells #[.int .i64 y, .int .i64 m, .int .i64 d] t)) w2) :
    w2.cell? ⟨w.heap.size, 0, none⟩ = some (.int .i64 y) ∧ w2.cell? ⟨w.heap.size, 1, none⟩ = some (.int .i64 m) ∧ w2.cell? ⟨w.heap.size, 2, none⟩ = some (.int .i64 d) := by
  obtain ⟨hc, _⟩ := bcell hb
  refine ⟨?_, ?_, ?_⟩ <;> (rw [hc _ _ (by simp)]; go_simp)

def wkV (n : Int) : Int := if 0 ≤ n ∧ n < 109573 then n % 7 else 0
def wkE (n : Int) : Int := if 0 ≤ n ∧ n < 109573 then 0 else 2
end Go.Proofs.YtlihkmhhfnkkoaaDoor
