/-
  WALK: the law CalWeeks.
-/
import Derived.Test.YtceomklkicpmoaaWCont
namespace Go.Proofs.Ytceomklkicpmoaa
open Go.RowKit
set_option linter.unusedVariables false
set_option linter.unusedSimpArgs false

theorem numW_any (e : Int) (w : World) : Calls Try.prog 5 #[.int .i64 e] w fun r w' => r = .returned (.int .i64 e) ∧ w' = w := by
  go_enter Try.func5, Try.ntmps5
  go_wp2
  go_ret
  exact ⟨rfl, rfl⟩
theorem wk_in (n : Int) (w : World) (a : 0 ≤ n) (b : n < 109573) : Calls Try.prog 4 #[.int .i64 n] w fun e w' => e = .returned (.tuple #[.int .i64 (n % 7), .int .i64 0]) ∧ w' = w := by
  have hi : inCb n = true := decide_eq_true ⟨a, b⟩
  go_enter Try.func4, Try.ntmps4
  go_wp2_with (first
    | (go_at_call 7; refine (inCal_any _ _).mono ?_; rintro e w' ⟨rfl, rfl⟩; rw [hi])
    | (go_at_call 8; refine (wkday_any _ _ (by omega)).mono ?_; rintro e w' ⟨rfl, rfl⟩))
  go_ret2
  exact ⟨rfl, rfl⟩
theorem wk_out (n : Int) (w : World) (h : ¬ (0 ≤ n ∧ n < 109573)) : Calls Try.prog 4 #[.int .i64 n] w fun e w' => e = .returned (.tuple #[.int .i64 0, .int .i64 2]) ∧ w' = w := by
  have hi : inCb n = false := decide_eq_false h
  clear h
  go_enter Try.func4, Try.ntmps4
  go_wp2_with (go_at_call 7; refine (inCal_any _ _).mono ?_; rintro e w' ⟨rfl, rfl⟩; rw [hi])
  go_ret2
  exact ⟨rfl, rfl⟩
theorem ls_nil (w : World) (a : Option Addr) : Ls w a 0 [] := ⟨rfl, by omega, .inl rfl⟩

set_option maxHeartbeats 1000000 in
theorem weeks_out (n : Int) (w : World) (h : ¬ (0 ≤ n ∧ n < 109573)) : Calls Try.prog 3 #[.int .i64 n] w fun e w' => e = .returned (.bool true) ∧ Below w.heap.size w w' := by
  have HB := Lib.hid (p := busB n [] = false) (by unfold busB; refine decide_eq_false ?_; omega)
  have HH := Lib.hid h
  rcases (show n < 0 ∨ 109573 ≤ n by omega) with g | g
  · clear h
    go_enter Try.func3, Try.ntmps3
    go_wp2_with (first
      | (go_at_call 5; refine (numW_any _ _).mono ?_; rintro e w' ⟨rfl, rfl⟩)
      | (go_at_call 4; refine (wk_out _ _ HH.out).mono ?_; rintro e w' ⟨rfl, rfl⟩)
      | (go_at_call 6; refine (business_any _ _ _ [] _ _ (ls_nil _ _)).mono ?_; rintro e w' ⟨rfl, rfl⟩; rw [HB.out]))
    go_ret
    exact ⟨rfl, Below.refl _ _⟩
  · have g2 : ¬ n < 0 := by omega
    clear h
    go_enter Try.func3, Try.ntmps3
    go_wp2_with (first
      | (go_at_call 5; refine (numW_any _ _).mono ?_; rintro e w' ⟨rfl, rfl⟩)
      | (go_at_call 4; refine (wk_out _ _ HH.out).mono ?_; rintro e w' ⟨rfl, rfl⟩)
      | (go_at_call 6; refine (business_any _ _ _ [] _ _ (ls_nil _ _)).mono ?_; rintro e w' ⟨rfl, rfl⟩; rw [HB.out]))
    go_ret
    exact ⟨rfl, Below.refl _ _⟩

set_option maxHeartbeats 2000000 in
theorem weeks_in (n : Int) (w : World) (a : 0 ≤ n) (b : n < 109573) : Calls Try.prog 3 #[.int .i64 n] w fun e w' => e = .returned (.bool true) ∧ Below w.heap.size w w' := by
  have HB2 := Lib.hid (p := busB n [9, n] = false) (by unfold busB; refine decide_eq_false ?_; simp)
  have r1 : 0 ≤ n % 7 := by omega
  have r2 : n % 7 ≤ 6 := by omega
  have r3 : (n % 7 + 1) % 7 = (n + 1) % 7 := by omega
  have LS : ∀ (W : World) (t : TypeId), Ls (W.alloc (.cells #[.int .i64 9, .int .i64 n] t)) (some ⟨W.heap.size, 0, none⟩) 2 [9, n] := fun W t => by
    refine ⟨rfl, by omega, .inr ⟨_, _, rfl, by simp, fun i hi => ?_⟩⟩
    rcases (show i = 0 ∨ i = 1 by omega) with rfl | rfl <;> go_simp
  have L2 := Lib.hid LS
  clear LS
  by_cases c : n < 109572 <;> by_cases k : n % 7 < 5
  all_goals first
    | (exfalso; omega)
    | skip
  all_goals
    have HB := Lib.hid (p := busB n [] = decide (n % 7 < 5)) (by unfold busB; simp [a, b])
    have kd : decide (n % 7 < 5) = decide (n % 7 < 5) := rfl
    rw [show decide (n % 7 < 5) = _ from (by first | exact decide_eq_true k | exact decide_eq_false k)] at HB
    clear kd
    go_enter Try.func3, Try.ntmps3
    go_wp2_with (first
      | (go_at_call 5; refine (numW_any _ _).mono ?_; rintro e w' ⟨rfl, rfl⟩)
      | (go_at_call 4; refine (wk_in _ _ (by omega) (by omega)).mono ?_; rintro e w' ⟨rfl, rfl⟩)
      | (go_at_call 6; (first
        | (have qq := B1; refine (business_any _ _ _ [9, n] _ _ (L2.out _ _)).mono ?_; rintro e w' ⟨rfl, rfl⟩; rw [HB2.out])
        | (refine (business_any _ _ _ [] _ _ (ls_nil _ _)).mono ?_; rintro e w' ⟨rfl, rfl⟩; rw [HB.out]; have B1 := Lib.hid (p := (1 : Nat) = 1) rfl))))
    go_ret
    exact ⟨retC_bool (by first | rfl | simp [k]), by first | exact (Below.refl _ _).alloc (Nat.le_refl _) _ | exact ((Below.refl _ _).alloc (Nat.le_refl _) _).drew⟩

theorem calWeeks_walk (n : Int) (w : World) : Calls Try.prog 3 #[.int .i64 n] w fun e w' => e = .returned (.bool true) ∧ Below w.heap.size w w' := by
  by_cases h : 0 ≤ n ∧ n < 109573
  · exact weeks_in n w h.1 h.2
  · exact weeks_out n w h
end Go.Proofs.Ytceomklkicpmoaa
