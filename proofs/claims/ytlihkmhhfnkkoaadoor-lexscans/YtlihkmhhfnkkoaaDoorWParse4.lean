/-
  WALKS: Parse (the document's).
-/
import Derived.Test.YtlihkmhhfnkkoaaDoorWParse3
namespace Go.Proofs.YtlihkmhhfnkkoaaDoor
open Go.RowKit
open Cal
set_option linter.unusedVariables false
set_option linter.unusedSimpArgs false

/-- What both Parses answer. -/
abbrev prEnd (s : ByteArray) : Ending := .returned (.tuple #[.agg #[.int .i64 (prV s (dv (fA s))), .int .i64 (prV s (dv (fB s))), .int .i64 (prV s (dv (fC s)))], .int .i64 (if prB s = true then 0 else 21)])
theorem prEnd_yes {s : ByteArray} (h : prB s = true) : prEnd s = .returned (.tuple #[.agg #[.int .i64 (dv (fA s)), .int .i64 (dv (fB s)), .int .i64 (dv (fC s))], .int .i64 0]) := by
  unfold prEnd prV; rw [if_pos h, if_pos h, if_pos h, if_pos h]
theorem prEnd_no {s : ByteArray} (h : prB s = false) : prEnd s = .returned (.tuple #[.agg #[.int .i64 0, .int .i64 0, .int .i64 0], .int .i64 21]) := by
  unfold prEnd prV; rw [h]; rfl
theorem parse_any (s : ByteArray) (w : World) (hM : Mon w) (hs : s.size ≤ 9223372036854775807) :
    Calls Tryd.prog 24 #[.string s] w fun e w' => e = prEnd s ∧ Below w.heap.size w w' := by
  cases h : shB s with
  | false => rw [prEnd_no (by unfold prB; rw [h]; rfl)]; exact parse_unshaped s w hs h
  | true =>
    cases g : exB (dv (fA s)) (dv (fB s)) (dv (fC s)) with
    | false => rw [prEnd_no (by unfold prB; rw [h, g]; rfl)]; exact parse_no s w hM h g
    | true => rw [prEnd_yes (by unfold prB; rw [h, g]; rfl)]; exact parse_yes s w hM h g
end Go.Proofs.YtlihkmhhfnkkoaaDoor
