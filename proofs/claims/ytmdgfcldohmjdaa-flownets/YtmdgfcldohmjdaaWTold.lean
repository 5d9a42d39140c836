/-
  WALKS: what Net and Totals hand to addUp, and the document's add.
-/
import Derived.Test.YtmdgfcldohmjdaaWFlow2
import Derived.Test.YtmdgfcldohmjdaaPlainMul
namespace Go.Proofs.Ytmdgfcldohmjdaa
open Go.RowKit
set_option linter.unusedVariables false
set_option linter.unusedSimpArgs false

theorem totKey_any (d a : Int) (c : ByteArray) (w : World) :
    Calls Try.prog 41 #[.agg #[.int .i64 d, .string c, .int .i64 a]] w fun e w' => e = .returned (.string c) ∧ w' = w.alloc (.cells #[.int .i64 d, .string c, .int .i64 a] 50) := by
  go_enter Try.func41, Try.ntmps41
  go_wp2
  go_ret
  exact ⟨rfl, rfl⟩
theorem totTold_any (c : ByteArray) (s : Int) (w : World) :
    Calls Try.prog 42 #[.string c, .int .i64 s] w fun e w' => e = .returned (.agg #[.string c, .int .i64 s]) ∧ w' = w.alloc (.cells #[.string c, .int .i64 s] 56) := by
  go_enter Try.func42, Try.ntmps42
  go_wp2
  exact bodyPost_ret (v := .agg #[.string c, .int .i64 s]) (by simp [results, Try.results42, go_sem]) rfl ⟨rfl, rfl⟩
theorem netKey_any (d a : Int) (c : ByteArray) (w : World) :
    Calls Try.prog 22 #[.agg #[.int .i64 d, .string c, .int .i64 a]] w fun e w' => e = .returned (.agg #[.int .i64 d, .string c]) ∧ Below w.heap.size w w' := by
  go_enter Try.func22, Try.ntmps22
  go_wp2
  exact bodyPost_ret (v := .agg #[.int .i64 d, .string c]) (by simp [results, Try.results22, go_sem]) rfl ⟨rfl, ((Below.refl _ _).alloc (Nat.le_refl _) _).alloc (by simp) _⟩
theorem netTold_any (d s : Int) (c : ByteArray) (w : World) :
    Calls Try.prog 23 #[.agg #[.int .i64 d, .string c], .int .i64 s] w fun e w' => e = .returned (.agg #[.int .i64 d, .string c, .int .i64 s]) ∧ Below w.heap.size w w' := by
  go_enter Try.func23, Try.ntmps23
  go_wp2
  exact bodyPost_ret (v := .agg #[.int .i64 d, .string c, .int .i64 s]) (by simp [results, Try.results23, go_sem]) rfl ⟨rfl, ((Below.refl _ _).alloc (Nat.le_refl _) _).alloc (by simp) _⟩
theorem totOrder_any (a a' : Int) (c c' : ByteArray) (w : World) :
    Calls Try.prog 44 #[.agg #[.string c, .int .i64 a], .agg #[.string c', .int .i64 a']] w fun e w' => e = .returned (.int .i64 (cmpS c c')) ∧ w' = (w.alloc (.cells #[.string c, .int .i64 a] 56)).alloc (.cells #[.string c', .int .i64 a'] 56) := by
  have K1 := fun W => compare_str c c' W
  generalize cmpS c c' = y at *
  go_enter Try.func44, Try.ntmps44
  go_wp2_with (go_at_call 38; refine (K1 _).mono ?_; rintro e w2 ⟨rfl, rfl⟩)
  all_goals go_ret
  all_goals exact ⟨rfl, rfl⟩

/-- The document's add: the sum, or that it does not fit. -/
theorem wrap_up {n : Int} (h : 9223372036854775807 < n) (h2 : n ≤ 18446744073709551614) : wrap64 n = n - 18446744073709551616 := by unfold wrap64; omega
theorem wrap_down {n : Int} (h : n < -9223372036854775808) (h2 : -18446744073709551616 ≤ n) : wrap64 n = n + 18446744073709551616 := by unfold wrap64; omega
set_option maxHeartbeats 1000000 in
theorem rAdd_fits (a b : Int) (ha : inR a) (hb : inR b) (h : inR (a + b)) (w : World) :
    Calls Try.prog 39 #[.int .i64 a, .int .i64 b] w fun e w' => e = .returned (.tuple #[.int .i64 (a + b), .bool true]) ∧ w' = w := by
  unfold inR at *
  obtain ⟨h2, h3⟩ := h
  go_enter Try.func39, Try.ntmps39
  go_wp2
  all_goals first | (go_ret2; exact ⟨rfl, rfl⟩) | (exfalso; omega)
set_option maxHeartbeats 1000000 in
theorem rAdd_out (a b : Int) (ha : inR a) (hb : inR b) (h : ¬ inR (a + b)) (w : World) :
    Calls Try.prog 39 #[.int .i64 a, .int .i64 b] w fun e w' => e = .returned (.tuple #[.int .i64 0, .bool false]) ∧ w' = w := by
  unfold inR at *
  rcases (show 9223372036854775807 < a + b ∨ a + b < -9223372036854775808 by omega) with g | g
  · have hw := wrap_up g (by omega)
    go_enter Try.func39, Try.ntmps39
    go_wp2
    all_goals first | (go_ret2; exact ⟨rfl, rfl⟩) | (exfalso; omega)
  · have hw := wrap_down g (by omega)
    go_enter Try.func39, Try.ntmps39
    go_wp2
    all_goals first | (go_ret2; exact ⟨rfl, rfl⟩) | (exfalso; omega)
end Go.Proofs.Ytmdgfcldohmjdaa
