/-
  WALKS: does a date exist (the program's and the document's); leap years, months, years of the document.
-/
import Derived.Test.YtpeglcnenagkbaaDoorWCal1
namespace Go.Proofs.YtpeglcnenagkbaaDoor
open Go.RowKit
open Cal
set_option linter.unusedVariables false
set_option linter.unusedSimpArgs false

set_option maxHeartbeats 1000000 in
theorem exists_any (y m d : Int) (w : World) (hM : Mon w) :
    Calls Tryd.prog 37 #[.agg #[.int .i64 y, .int .i64 m, .int .i64 d]] w fun e w' => e = .returned (.bool (exB y m d)) ∧ Below w.heap.size w w' := by
  by_cases a1 : 1900 ≤ y
  · by_cases a2 : y ≤ 2199
    · by_cases a3 : 1 ≤ m
      · by_cases a4 : m ≤ 12
        · by_cases a5 : 1 ≤ d
          · by_cases a6 : d ≤ len y m
            · have e : exB y m d = true := ex_mk ⟨a1, a2, a3, a4, a5, a6⟩
              rw [e]
              go_enter Tryd.func37, Tryd.ntmps37
              go_wp2
              go_quiet ((go_at_call 52; exact Calls.quiet_of_same (monthLength_any _ _ _ (mon_drew (mon_alloc hM)) (by omega) (by omega) (by omega) (by omega))))
              go_wp2
              go_ret
              exact ⟨rfl, below_dr ((Below.refl _ _).alloc (Nat.le_refl _) _) _⟩
            · have e : exB y m d = false := by simp [exB, a6]
              rw [e]
              go_enter Tryd.func37, Tryd.ntmps37
              go_wp2
              go_quiet ((go_at_call 52; exact Calls.quiet_of_same (monthLength_any _ _ _ (mon_drew (mon_alloc hM)) (by omega) (by omega) (by omega) (by omega))))
              go_wp2
              go_ret
              exact ⟨ret_bool (by first | rfl | simp [a6]), below_dr ((Below.refl _ _).alloc (Nat.le_refl _) _) _⟩
          · have e : exB y m d = false := by simp [exB, a5]
            have f0 : decide (1 ≤ d) = false := by simpa using a5
            rw [e]
            go_enter Tryd.func37, Tryd.ntmps37
            go_wp2
            go_quiet ((fail))
            go_wp2
            go_ret
            exact ⟨rfl, below_dr ((Below.refl _ _).alloc (Nat.le_refl _) _) _⟩
        · have e : exB y m d = false := by simp [exB, a4]
          have f0 : decide (m ≤ 12) = false := by simpa using a4
          rw [e]
          go_enter Tryd.func37, Tryd.ntmps37
          go_wp2
          go_quiet ((fail))
          go_wp2
          go_ret
          exact ⟨rfl, below_dr ((Below.refl _ _).alloc (Nat.le_refl _) _) _⟩
      · have e : exB y m d = false := by simp [exB, a3]
        have f0 : decide (1 ≤ m) = false := by simpa using a3
        rw [e]
        go_enter Tryd.func37, Tryd.ntmps37
        go_wp2
        go_quiet ((fail))
        go_wp2
        go_ret
        exact ⟨rfl, below_dr ((Below.refl _ _).alloc (Nat.le_refl _) _) _⟩
    · have e : exB y m d = false := by simp [exB, a2]
      have f0 : decide (y ≤ 2199) = false := by simpa using a2
      rw [e]
      go_enter Tryd.func37, Tryd.ntmps37
      go_wp2
      go_quiet ((fail))
      go_wp2
      go_ret
      exact ⟨rfl, below_dr ((Below.refl _ _).alloc (Nat.le_refl _) _) _⟩
  · have e : exB y m d = false := by simp [exB, a1]
    have f0 : decide (1900 ≤ y) = false := by simpa using a1
    rw [e]
    go_enter Tryd.func37, Tryd.ntmps37
    go_wp2
    go_quiet ((fail))
    go_wp2
    go_ret
    exact ⟨rfl, below_dr ((Below.refl _ _).alloc (Nat.le_refl _) _) _⟩

theorem leap_any (y : Int) (w : World) (h0 : 0 ≤ y) (h1 : y ≤ 100000) :
    Calls Tryd.prog 65 #[.int .i64 y] w fun e w' => e = .returned (.bool (lpB y)) ∧ w' = w := by
  by_cases a : y % 4 = 0 <;> by_cases b : y % 100 = 0 <;> by_cases c : y % 400 = 0
  all_goals first
    | (exfalso; omega)
    | skip
  all_goals
    have e : lpB y = (decide (y % 4 = 0) && (!decide (y % 100 = 0) || decide (y % 400 = 0))) := by simp [lpB, lp, a, b, c]
    simp only [a, b, c] at e
    simp at e
    go_enter Tryd.func65, Tryd.ntmps65
    go_wp2
    go_ret
    exact ⟨ret_bool (by first | exact e.symm | rfl | simp [e, a, b, c]), rfl⟩

/-- The document's length: 0 where there is no such month. -/
def lenR (y m : Int) : Int := if 1 ≤ m ∧ m ≤ 12 then len y m else 0

theorem length_any (y m : Int) (w : World) (h0 : 0 ≤ y) (h1 : y ≤ 100000) :
    Calls Tryd.prog 58 #[.int .i64 y, .int .i64 m] w fun e w' => e = .returned (.int .i64 (lenR y m)) ∧ w' = w := by
  have hm : m = 1 ∨ m = 2 ∨ m = 3 ∨ m = 4 ∨ m = 5 ∨ m = 6 ∨ m = 7 ∨ m = 8 ∨ m = 9 ∨ m = 10 ∨ m = 11 ∨ m = 12 ∨ (m < 1 ∨ 12 < m) := by omega
  rcases hm with rfl | rfl | rfl | rfl | rfl | rfl | rfl | rfl | rfl | rfl | rfl | rfl | h
  case inr.inl =>
    cases b : lpB y with
    | true =>
      have L : lenR y 2 = 29 := by have := lp_of_true b; simp [lenR, len, this]
      rw [L]; clear L
      go_enter Tryd.func58, Tryd.ntmps58
      go_wp2_with (go_at_call 65; refine (leap_any _ _ (by omega) (by omega)).mono ?_; rintro e w' ⟨rfl, rfl⟩; rw [b])
      go_ret
      exact ⟨rfl, rfl⟩
    | false =>
      have L : lenR y 2 = 28 := by have := lp_of_false b; simp [lenR, len, this]
      rw [L]; clear L
      go_enter Tryd.func58, Tryd.ntmps58
      go_wp2_with (go_at_call 65; refine (leap_any _ _ (by omega) (by omega)).mono ?_; rintro e w' ⟨rfl, rfl⟩; rw [b])
      go_ret
      exact ⟨rfl, rfl⟩
  case inr.inr.inr.inr.inr.inr.inr.inr.inr.inr.inr.inr =>
    have L : lenR y m = 0 := by unfold lenR; rw [if_neg (by omega)]
    have n1 : ¬ m = 1 := by omega
    have n2 : ¬ m = 2 := by omega
    have n3 : ¬ m = 3 := by omega
    have n4 : ¬ m = 4 := by omega
    have n5 : ¬ m = 5 := by omega
    have n6 : ¬ m = 6 := by omega
    have n7 : ¬ m = 7 := by omega
    have n8 : ¬ m = 8 := by omega
    have n9 : ¬ m = 9 := by omega
    have n10 : ¬ m = 10 := by omega
    have n11 : ¬ m = 11 := by omega
    have n12 : ¬ m = 12 := by omega
    rw [L]; clear L h
    go_enter Tryd.func58, Tryd.ntmps58
    go_wp2
    go_ret
    exact ⟨rfl, rfl⟩
  all_goals
    go_enter Tryd.func58, Tryd.ntmps58
    go_wp2
    go_ret
    exact ⟨ret_int (by simp [lenR, len]), rfl⟩

theorem year_any (y : Int) (w : World) (h0 : 0 ≤ y) (h1 : y ≤ 100000) :
    Calls Tryd.prog 57 #[.int .i64 y] w fun e w' => e = .returned (.int .i64 (365 + lp y)) ∧ w' = w := by
  cases b : lpB y with
  | true =>
    have L : 365 + lp y = 366 := by have := lp_of_true b; omega
    rw [L]; clear L
    go_enter Tryd.func57, Tryd.ntmps57
    go_wp2_with (go_at_call 65; refine (leap_any _ _ (by omega) (by omega)).mono ?_; rintro e w' ⟨rfl, rfl⟩; rw [b])
    go_ret
    exact ⟨rfl, rfl⟩
  | false =>
    have L : 365 + lp y = 365 := by have := lp_of_false b; omega
    rw [L]; clear L
    go_enter Tryd.func57, Tryd.ntmps57
    go_wp2_with (go_at_call 65; refine (leap_any _ _ (by omega) (by omega)).mono ?_; rintro e w' ⟨rfl, rfl⟩; rw [b])
    go_ret
    exact ⟨rfl, rfl⟩

set_option maxHeartbeats 1000000 in
theorem is_any (y m d : Int) (w : World) :
    Calls Tryd.prog 56 #[.agg #[.int .i64 y, .int .i64 m, .int .i64 d]] w fun e w' => e = .returned (.bool (exB y m d)) ∧ Below w.heap.size w w' := by
  by_cases a1 : 1900 ≤ y
  · by_cases a2 : y ≤ 2199
    · by_cases a5 : 1 ≤ d
      · by_cases a6 : d ≤ lenR y m
        · have e : exB y m d = true := by
            unfold lenR at a6; split at a6
            · rename_i h; exact ex_mk ⟨a1, a2, h.1, h.2, a5, a6⟩
            · omega
          rw [e]
          go_enter Tryd.func56, Tryd.ntmps56
          go_wp2_with (go_at_call 58; refine (length_any _ _ _ (by omega) (by omega)).mono ?_; rintro e w' ⟨rfl, rfl⟩)
          go_ret
          exact ⟨rfl, (Below.refl _ _).alloc (Nat.le_refl _) _⟩
        · have e : exB y m d = false := by
            unfold lenR at a6; unfold exB; refine decide_eq_false ?_; rintro ⟨b1, b2, b3, b4, b5, b6⟩; rw [if_pos ⟨b3, b4⟩] at a6; exact a6 b6
          rw [e]
          go_enter Tryd.func56, Tryd.ntmps56
          go_wp2_with (go_at_call 58; refine (length_any _ _ _ (by omega) (by omega)).mono ?_; rintro e w' ⟨rfl, rfl⟩)
          go_ret
          exact ⟨ret_bool (by first | rfl | simp [a6]), (Below.refl _ _).alloc (Nat.le_refl _) _⟩
      · have e : exB y m d = false := by simp [exB, a5]
        rw [e]
        go_enter Tryd.func56, Tryd.ntmps56
        go_wp2_with (go_at_call 58; refine (length_any _ _ _ (by omega) (by omega)).mono ?_; rintro e w' ⟨rfl, rfl⟩)
        go_ret
        exact ⟨ret_bool (by first | rfl | simp [a5]), (Below.refl _ _).alloc (Nat.le_refl _) _⟩
    · have e : exB y m d = false := by simp [exB, a2]
      rw [e]
      go_enter Tryd.func56, Tryd.ntmps56
      go_wp2
      go_ret
      exact ⟨rfl, (Below.refl _ _).alloc (Nat.le_refl _) _⟩
  · have e : exB y m d = false := by simp [exB, a1]
    rw [e]
    go_enter Tryd.func56, Tryd.ntmps56
    go_wp2
    go_ret
    exact ⟨rfl, (Below.refl _ _).alloc (Nat.le_refl _) _⟩
end Go.Proofs.YtpeglcnenagkbaaDoor
