/-
  WALKS: does a date exist (the program's and the document's); leap years, months, years of the document.
-/
import Derived.Test.YtlihkmhhfnkkoaaDoorWCal1
namespace Go.Proofs.YtlihkmhhfnkkoaaDoor
open Go.RowKit
open Cal
set_option linter.unusedVariables false
set_option linter.unusedSimpArgs false

set_option maxHeartbeats 1000000 in
theorem exists_any (y m d : Int) (w : World) (hM : Mon w) :
    Calls Tryd.prog 41 #[.agg #[.int .i64 y, .int .i64 m, .int .i64 d]] w fun e w' => e = .returned (.bool (exB y m d)) ∧ Below w.heap.size w w' := by
  by_cases a1 : 1900 ≤ y
  · by_cases a2 : y ≤ 2199
    · by_cases a3 : 1 ≤ m
      · by_cases a4 : m ≤ 12
        · by_cases a5 : 1 ≤ d
          · by_cases a6 : d ≤ len y m
            · have e : exB y m d = true := ex_mk ⟨a1, a2, a3, a4, a5, a6⟩
              rw [e]
              go_enter Tryd.func41, Tryd.ntmps41
              go_wp2
              go_quiet ((go_at_call 48; exact Calls.quiet_of_same (monthLength_any _ _ _ (mon_drew (mon_alloc hM)) (by omega) (by omega) (by omega) (by omega))))
              go_wp2
              go_ret
              exact ⟨rfl, below_dr ((Below.refl _ _).alloc (Nat.le_refl _) _) _⟩
            · have e : exB y m d = false := by simp [exB, a6]
              rw [e]
              go_enter Tryd.func41, Tryd.ntmps41
              go_wp2
              go_quiet ((go_at_call 48; exact Calls.quiet_of_same (monthLength_any _ _ _ (mon_drew (mon_alloc hM)) (by omega) (by omega) (by omega) (by omega))))
              go_wp2
              go_ret
              exact ⟨ret_bool (by first | rfl | simp [a6]), below_dr ((Below.refl _ _).alloc (Nat.le_refl _) _) _⟩
          · have e : exB y m d = false := by simp [exB, a5]
            have f0 : decide (1 ≤ d) = false := by simpa using a5
            rw [e]
            go_enter Tryd.func41, Tryd.ntmps41
            go_wp2
            go_quiet ((fail))
            go_wp2
            go_ret
            exact ⟨rfl, below_dr ((Below.refl _ _).alloc (Nat.le_refl _) _) _⟩
        · have e : exB y m d = false := by simp [exB, a4]
          have f0 : decide (m ≤ 12) = false := by simpa using a4
          rw [e]
          go_enter Tryd.func41, Tryd.ntmps41
          go_wp2
          go_quiet ((fail))
          go_wp2
          go_ret
          exact ⟨rfl, below_dr ((Below.refl _ _).alloc (Nat.le_refl _) _) _⟩
      · have e : exB y m d = false := by simp [exB, a3]
        have f0 : decide (1 ≤ m) = false := by simpa using a3
        rw [e]
        go_enter Tryd.func41, Tryd.ntmps41
        go_wp2
        go_quiet ((fail))
        go_wp2
        go_ret
        exact ⟨rfl, below_dr ((Below.refl _ _).alloc (Nat.le_refl _) _) _⟩
    · have e : exB y m d = false := by simp [exB, a2]
      have f0 : decide (y ≤ 2199) = false := by simpa using a2
      rw [e]
      go_enter Tryd.func41, Tryd.ntmps41
      go_wp2
      go_quiet ((fail))
      go_wp2
      go_ret
      exact ⟨rfl, below_dr ((Below.refl _ _).alloc (Nat.le_refl _) _) _⟩
  · have e : exB y m d = false := by simp [exB, a1]
    have f0 : decide (1900 ≤ y) = false := by simpa using a1
    rw [e]
    go_enter Tryd.func41, Tryd.ntmps41
    go_wp2
    go_quiet ((fail))
    go_wp2
    go_ret
    exact ⟨rfl, below_dr ((Below.refl _ _).alloc (Nat.le_refl _) _) _⟩

/-- The document's length: 0 where there is no such month. -/
def lenR (y m : Int) : Int := if 1 ≤ m ∧ m ≤ 12 then len y m else 0

end Go.Proofs.YtlihkmhhfnkkoaaDoor
