/-
  WALKS: the document's length of a month, dated.
-/
import Derived.Test.YtlihkmhhfnkkoaaDoorWRefLex2
import Derived.Test.YtlihkmhhfnkkoaaDoorWLex3
namespace Go.Proofs.YtlihkmhhfnkkoaaDoor
open Go.RowKit Lx
set_option linter.unusedVariables false
set_option linter.unusedSimpArgs false

set_option maxHeartbeats 1000000 in
theorem rlength_any (y m : Int) (w : World) (hy : 0 ≤ y ∧ y ≤ 99999) :
    Calls Tryd.prog 32 #[.int .i64 y, .int .i64 m] w fun e w' => e = .returned (.int .i64 (Cal.len y m)) ∧ w' = w := by
  by_cases h2 : m = 2
  · subst h2
    by_cases h4 : y % 4 = 0
    · by_cases h100 : y % 100 = 0
      · by_cases h400 : y % 400 = 0
        · rw [show Cal.len y 2 = 29 by unfold Cal.len Cal.lp; rw [if_pos rfl, if_pos ⟨h4, .inr h400⟩]; rfl]
          have q4 : (y % 4 == 0) = true := by rw [beq_iff_eq]; exact h4
          have q100 : (y % 100 != 0) = false := by rw [h100]; rfl
          have q400 : (y % 400 == 0) = true := by rw [beq_iff_eq]; exact h400
          clear h4 h100 h400
          go_enter Tryd.func32, Tryd.ntmps32
          go_wp2
          go_ret
          exact ⟨rfl, rfl⟩
        · rw [show Cal.len y 2 = 28 by unfold Cal.len Cal.lp; rw [if_pos rfl, if_neg (by rintro ⟨_, q | q⟩; exact q h100; exact h400 q)]; rfl]
          have q4 : (y % 4 == 0) = true := by rw [beq_iff_eq]; exact h4
          have q100 : (y % 100 != 0) = false := by rw [h100]; rfl
          have q400 : (y % 400 == 0) = false := by rw [beq_eq_false_iff_ne]; exact h400
          clear h4 h100 h400
          go_enter Tryd.func32, Tryd.ntmps32
          go_wp2
          go_ret
          exact ⟨rfl, rfl⟩
      · rw [show Cal.len y 2 = 29 by unfold Cal.len Cal.lp; rw [if_pos rfl, if_pos ⟨h4, .inl h100⟩]; rfl]
        have q4 : (y % 4 == 0) = true := by rw [beq_iff_eq]; exact h4
        have q100 : (y % 100 != 0) = true := by rw [bne_iff_ne]; exact h100
        clear h4 h100
        go_enter Tryd.func32, Tryd.ntmps32
        go_wp2
        go_ret
        exact ⟨rfl, rfl⟩
    · rw [show Cal.len y 2 = 28 by unfold Cal.len Cal.lp; rw [if_pos rfl, if_neg (fun q => h4 q.1)]; rfl]
      have q4 : (y % 4 == 0) = false := by rw [beq_eq_false_iff_ne]; exact h4
      clear h4
      go_enter Tryd.func32, Tryd.ntmps32
      go_wp2
      go_ret
      exact ⟨rfl, rfl⟩
  · by_cases h30 : m = 4 ∨ m = 6 ∨ m = 9 ∨ m = 11
    · rw [show Cal.len y m = 30 by unfold Cal.len; rw [if_neg h2, if_pos h30]]
      rcases h30 with rfl | rfl | rfl | rfl
      all_goals
        go_enter Tryd.func32, Tryd.ntmps32
        go_wp2
        go_ret
        exact ⟨rfl, rfl⟩
    · rw [show Cal.len y m = 31 by unfold Cal.len; rw [if_neg h2, if_neg h30]]
      have a1 : ¬ m = 4 := fun q => h30 (.inl q)
      have a2 : ¬ m = 6 := fun q => h30 (.inr (.inl q))
      have a3 : ¬ m = 9 := fun q => h30 (.inr (.inr (.inl q)))
      have a4 : ¬ m = 11 := fun q => h30 (.inr (.inr (.inr q)))
      clear h30
      go_enter Tryd.func32, Tryd.ntmps32
      go_wp2
      go_ret
      exact ⟨rfl, rfl⟩
/-- The form, by its parts. -/
theorem fits_parts (a0 a1 a2 a3 a4 a5 a6 a7 a8 a9 : UInt8) (q : L) : fits form (a0 :: a1 :: a2 :: a3 :: a4 :: a5 :: a6 :: a7 :: a8 :: a9 :: q) =
    (decide (a4.toNat = 45) && (decide (a7.toNat = 45) && (fits [] q && (allD [a0, a1, a2, a3] && (allD [a5, a6] && allD [a8, a9]))))) := by
  simp only [form, fits, fitN, allD, List.all_cons, List.all_nil, Bool.and_true, if_true]
  rw [if_neg (by decide : ¬ (45 : Nat) = 48), if_neg (by decide : ¬ (45 : Nat) = 48)]
  simp only [Bool.and_assoc, Bool.and_comm, Bool.and_left_comm]
end Go.Proofs.YtlihkmhhfnkkoaaDoor
