/-
  WALK: NumTurned.
-/
import Derived.Test.YtookmgjnacbdkaaWForms
import Derived.RowKit3
namespace Go.Proofs.Ytookmgjnacbdkaa
open Go.RowKit

theorem numTurned_in (a b : Int) (ha : inR a) (hb : inR b) (h0 : inR (a + b)) (w : World) :
    Calls Try.prog 5 #[.int .i64 a, .int .i64 b] w fun e w' => e = .returned (.bool true) ∧ Grown w w' := by
  have h := h0
  clear h0
  by_cases hl : b = -9223372036854775808
  · have e1 : (b == -9223372036854775808) = true := by simp [hl]
    have hn := veil (show ¬ inR (-b) by rw [hl]; unfold inR; omega)
    clear hl
    go_enter Try.func5, Try.ntmps5
    go_wp2_with (go_at_call 9; refine (has_any _ _ _).mono ?_; rintro e w' ⟨rfl, rfl⟩)
    refine (add_in ha hb rfl h _).mono ?_; rintro e w' ⟨rfl, rfl⟩
    go_wp2_with (go_at_call 9; refine (has_any _ _ _).mono ?_; rintro e w' ⟨rfl, rfl⟩)
    refine (add_in hb ha (Int.add_comm b a) h _).mono ?_; rintro e w' ⟨rfl, rfl⟩
    go_wp2_with (go_at_call 9; refine (has_any _ _ _).mono ?_; rintro e w' ⟨rfl, rfl⟩)
    refine (mul_any a b ha hb _).mono ?_; rintro e w' ⟨rfl, rfl⟩
    go_wp2_with (go_at_call 9; refine (has_any _ _ _).mono ?_; rintro e w' ⟨rfl, rfl⟩)
    refine (mul_as hb ha (Int.mul_comm b a) _).mono ?_; rintro e w' ⟨rfl, rfl⟩
    go_wp2_with (go_at_call 9; refine (has_any _ _ _).mono ?_; rintro e w' ⟨rfl, rfl⟩)
    refine (sub_in h hb (show a + b - b = a by omega) ha _).mono ?_; rintro e w' ⟨rfl, rfl⟩
    go_wp2_with (go_at_call 9; refine (has_any _ _ _).mono ?_; rintro e w' ⟨rfl, rfl⟩)
    refine (neg_out hb (unveil hn) _).mono ?_; rintro e w' ⟨rfl, rfl⟩
    go_wp2_with (go_at_call 9; refine (has_any _ _ _).mono ?_; rintro e w' ⟨rfl, rfl⟩)
    go_ret
    exact ⟨rfl, Grown.refl _⟩
  · have e1 : (b == -9223372036854775808) = false := by simp [hl]
    have hn : inR (-b) := by unfold inR at *; omega
    clear hl
    go_enter Try.func5, Try.ntmps5
    go_wp2_with (go_at_call 9; refine (has_any _ _ _).mono ?_; rintro e w' ⟨rfl, rfl⟩)
    refine (add_in ha hb rfl h _).mono ?_; rintro e w' ⟨rfl, rfl⟩
    go_wp2_with (go_at_call 9; refine (has_any _ _ _).mono ?_; rintro e w' ⟨rfl, rfl⟩)
    refine (add_in hb ha (Int.add_comm b a) h _).mono ?_; rintro e w' ⟨rfl, rfl⟩
    go_wp2_with (go_at_call 9; refine (has_any _ _ _).mono ?_; rintro e w' ⟨rfl, rfl⟩)
    refine (mul_any a b ha hb _).mono ?_; rintro e w' ⟨rfl, rfl⟩
    go_wp2_with (go_at_call 9; refine (has_any _ _ _).mono ?_; rintro e w' ⟨rfl, rfl⟩)
    refine (mul_as hb ha (Int.mul_comm b a) _).mono ?_; rintro e w' ⟨rfl, rfl⟩
    go_wp2_with (go_at_call 9; refine (has_any _ _ _).mono ?_; rintro e w' ⟨rfl, rfl⟩)
    refine (sub_in h hb (show a + b - b = a by omega) ha _).mono ?_; rintro e w' ⟨rfl, rfl⟩
    go_wp2_with (go_at_call 9; refine (has_any _ _ _).mono ?_; rintro e w' ⟨rfl, rfl⟩)
    refine (neg_in hb hn _).mono ?_; rintro e w' ⟨rfl, rfl⟩
    go_wp2_with (go_at_call 9; refine (has_any _ _ _).mono ?_; rintro e w' ⟨rfl, rfl⟩)
    refine (sub_any a b ha hb _).mono ?_; rintro e w' ⟨rfl, rfl⟩
    go_wp2_with (go_at_call 9; refine (has_any _ _ _).mono ?_; rintro e w' ⟨rfl, rfl⟩)
    refine (add_as ha hn (show a + -b = a - b by omega) _).mono ?_; rintro e w' ⟨rfl, rfl⟩
    go_wp2_with (go_at_call 9; refine (has_any _ _ _).mono ?_; rintro e w' ⟨rfl, rfl⟩)
    go_ret
    exact ⟨rfl, Grown.refl _⟩

theorem numTurned_neg (a b : Int) (ha : inR a) (hb : inR b) (h0 : ¬ inR (a + b)) (s1 : a < 0) (s2 : b < 0) (w : World) :
    Calls Try.prog 5 #[.int .i64 a, .int .i64 b] w fun e w' => e = .returned (.bool true) ∧ Grown w w' := by
  have h := veil h0
  have h' := veil (show ¬ inR (b + a) by rw [Int.add_comm]; exact h0)
  clear h0
  by_cases hl : b = -9223372036854775808
  · have e1 : (b == -9223372036854775808) = true := by simp [hl]
    have hn := veil (show ¬ inR (-b) by rw [hl]; unfold inR; omega)
    clear hl
    go_enter Try.func5, Try.ntmps5
    go_wp2_with (go_at_call 9; refine (has_any _ _ _).mono ?_; rintro e w' ⟨rfl, rfl⟩)
    refine (add_out ha hb (unveil h) _).mono ?_; rintro e w' ⟨rfl, rfl⟩
    go_wp2_with (go_at_call 9; refine (has_any _ _ _).mono ?_; rintro e w' ⟨rfl, rfl⟩)
    refine (add_out hb ha (unveil h') _).mono ?_; rintro e w' ⟨rfl, rfl⟩
    go_wp2_with (go_at_call 9; refine (has_any _ _ _).mono ?_; rintro e w' ⟨rfl, rfl⟩)
    refine (mul_any a b ha hb _).mono ?_; rintro e w' ⟨rfl, rfl⟩
    go_wp2_with (go_at_call 9; refine (has_any _ _ _).mono ?_; rintro e w' ⟨rfl, rfl⟩)
    refine (mul_as hb ha (Int.mul_comm b a) _).mono ?_; rintro e w' ⟨rfl, rfl⟩
    go_wp2_with (go_at_call 9; refine (has_any _ _ _).mono ?_; rintro e w' ⟨rfl, rfl⟩)
    refine (neg_out hb (unveil hn) _).mono ?_; rintro e w' ⟨rfl, rfl⟩
    go_wp2_with (go_at_call 9; refine (has_any _ _ _).mono ?_; rintro e w' ⟨rfl, rfl⟩)
    go_ret
    exact ⟨rfl, Grown.refl _⟩
  · have e1 : (b == -9223372036854775808) = false := by simp [hl]
    have hn : inR (-b) := by unfold inR at *; omega
    clear hl
    go_enter Try.func5, Try.ntmps5
    go_wp2_with (go_at_call 9; refine (has_any _ _ _).mono ?_; rintro e w' ⟨rfl, rfl⟩)
    refine (add_out ha hb (unveil h) _).mono ?_; rintro e w' ⟨rfl, rfl⟩
    go_wp2_with (go_at_call 9; refine (has_any _ _ _).mono ?_; rintro e w' ⟨rfl, rfl⟩)
    refine (add_out hb ha (unveil h') _).mono ?_; rintro e w' ⟨rfl, rfl⟩
    go_wp2_with (go_at_call 9; refine (has_any _ _ _).mono ?_; rintro e w' ⟨rfl, rfl⟩)
    refine (mul_any a b ha hb _).mono ?_; rintro e w' ⟨rfl, rfl⟩
    go_wp2_with (go_at_call 9; refine (has_any _ _ _).mono ?_; rintro e w' ⟨rfl, rfl⟩)
    refine (mul_as hb ha (Int.mul_comm b a) _).mono ?_; rintro e w' ⟨rfl, rfl⟩
    go_wp2_with (go_at_call 9; refine (has_any _ _ _).mono ?_; rintro e w' ⟨rfl, rfl⟩)
    refine (neg_in hb hn _).mono ?_; rintro e w' ⟨rfl, rfl⟩
    go_wp2_with (go_at_call 9; refine (has_any _ _ _).mono ?_; rintro e w' ⟨rfl, rfl⟩)
    refine (sub_any a b ha hb _).mono ?_; rintro e w' ⟨rfl, rfl⟩
    go_wp2_with (go_at_call 9; refine (has_any _ _ _).mono ?_; rintro e w' ⟨rfl, rfl⟩)
    refine (add_as ha hn (show a + -b = a - b by omega) _).mono ?_; rintro e w' ⟨rfl, rfl⟩
    go_wp2_with (go_at_call 9; refine (has_any _ _ _).mono ?_; rintro e w' ⟨rfl, rfl⟩)
    go_ret
    exact ⟨rfl, Grown.refl _⟩

theorem numTurned_pos (a b : Int) (ha : inR a) (hb : inR b) (h0 : ¬ inR (a + b)) (s1 : decide (a < 0) = false) (s2 : decide (b < 0) = false) (w : World) :
    Calls Try.prog 5 #[.int .i64 a, .int .i64 b] w fun e w' => e = .returned (.bool true) ∧ Grown w w' := by
  have h := veil h0
  have h' := veil (show ¬ inR (b + a) by rw [Int.add_comm]; exact h0)
  clear h0
  by_cases hl : b = -9223372036854775808
  · have e1 : (b == -9223372036854775808) = true := by simp [hl]
    have hn := veil (show ¬ inR (-b) by rw [hl]; unfold inR; omega)
    clear hl
    go_enter Try.func5, Try.ntmps5
    go_wp2_with (go_at_call 9; refine (has_any _ _ _).mono ?_; rintro e w' ⟨rfl, rfl⟩)
    refine (add_out ha hb (unveil h) _).mono ?_; rintro e w' ⟨rfl, rfl⟩
    go_wp2_with (go_at_call 9; refine (has_any _ _ _).mono ?_; rintro e w' ⟨rfl, rfl⟩)
    refine (add_out hb ha (unveil h') _).mono ?_; rintro e w' ⟨rfl, rfl⟩
    go_wp2_with (go_at_call 9; refine (has_any _ _ _).mono ?_; rintro e w' ⟨rfl, rfl⟩)
    refine (mul_any a b ha hb _).mono ?_; rintro e w' ⟨rfl, rfl⟩
    go_wp2_with (go_at_call 9; refine (has_any _ _ _).mono ?_; rintro e w' ⟨rfl, rfl⟩)
    refine (mul_as hb ha (Int.mul_comm b a) _).mono ?_; rintro e w' ⟨rfl, rfl⟩
    go_wp2_with (go_at_call 9; refine (has_any _ _ _).mono ?_; rintro e w' ⟨rfl, rfl⟩)
    refine (neg_out hb (unveil hn) _).mono ?_; rintro e w' ⟨rfl, rfl⟩
    go_wp2_with (go_at_call 9; refine (has_any _ _ _).mono ?_; rintro e w' ⟨rfl, rfl⟩)
    go_ret
    exact ⟨rfl, Grown.refl _⟩
  · have e1 : (b == -9223372036854775808) = false := by simp [hl]
    have hn : inR (-b) := by unfold inR at *; omega
    clear hl
    go_enter Try.func5, Try.ntmps5
    go_wp2_with (go_at_call 9; refine (has_any _ _ _).mono ?_; rintro e w' ⟨rfl, rfl⟩)
    refine (add_out ha hb (unveil h) _).mono ?_; rintro e w' ⟨rfl, rfl⟩
    go_wp2_with (go_at_call 9; refine (has_any _ _ _).mono ?_; rintro e w' ⟨rfl, rfl⟩)
    refine (add_out hb ha (unveil h') _).mono ?_; rintro e w' ⟨rfl, rfl⟩
    go_wp2_with (go_at_call 9; refine (has_any _ _ _).mono ?_; rintro e w' ⟨rfl, rfl⟩)
    refine (mul_any a b ha hb _).mono ?_; rintro e w' ⟨rfl, rfl⟩
    go_wp2_with (go_at_call 9; refine (has_any _ _ _).mono ?_; rintro e w' ⟨rfl, rfl⟩)
    refine (mul_as hb ha (Int.mul_comm b a) _).mono ?_; rintro e w' ⟨rfl, rfl⟩
    go_wp2_with (go_at_call 9; refine (has_any _ _ _).mono ?_; rintro e w' ⟨rfl, rfl⟩)
    refine (neg_in hb hn _).mono ?_; rintro e w' ⟨rfl, rfl⟩
    go_wp2_with (go_at_call 9; refine (has_any _ _ _).mono ?_; rintro e w' ⟨rfl, rfl⟩)
    refine (sub_any a b ha hb _).mono ?_; rintro e w' ⟨rfl, rfl⟩
    go_wp2_with (go_at_call 9; refine (has_any _ _ _).mono ?_; rintro e w' ⟨rfl, rfl⟩)
    refine (add_as ha hn (show a + -b = a - b by omega) _).mono ?_; rintro e w' ⟨rfl, rfl⟩
    go_wp2_with (go_at_call 9; refine (has_any _ _ _).mono ?_; rintro e w' ⟨rfl, rfl⟩)
    go_ret
    exact ⟨rfl, Grown.refl _⟩

theorem numTurned_walk (a b : Int) (ha : inR a) (hb : inR b) (w : World) :
    Calls Try.prog 5 #[.int .i64 a, .int .i64 b] w fun e w' => e = .returned (.bool true) ∧ Grown w w' := by
  by_cases h : inR (a + b)
  · exact numTurned_in a b ha hb h w
  · by_cases s1 : a < 0
    · exact numTurned_neg a b ha hb h s1 (by unfold inR at *; omega) w
    · exact numTurned_pos a b ha hb h (by simpa using s1) (by unfold inR at *; simp; omega) w

end Go.Proofs.Ytookmgjnacbdkaa
