/-
  WALKS: what Net and Totals hand to addUp, and the document's add.
-/
import Derived.Test.YtmdgfcldohmjdaaDoorWFlow2
import Derived.Test.YtmdgfcldohmjdaaDoorPlainMul
namespace Go.Proofs.YtmdgfcldohmjdaaDoor
open Go.RowKit
set_option linter.unusedVariables false
set_option linter.unusedSimpArgs false

theorem totKey_any (d a : Int) (c : ByteArray) (w : World) :
    Calls Tryd.prog 31 #[.agg #[.int .i64 d, .string c, .int .i64 a]] w fun e w' => e = .returned (.string c) ∧ w' = w.alloc (.cells #[.int .i64 d, .string c, .int .i64 a] 32) := by
  go_enter Tryd.func31, Tryd.ntmps31
  go_wp2
  go_ret
  exact ⟨rfl, rfl⟩
theorem totTold_any (c : ByteArray) (s : Int) (w : World) :
    Calls Tryd.prog 32 #[.string c, .int .i64 s] w fun e w' => e = .returned (.agg #[.string c, .int .i64 s]) ∧ w' = w.alloc (.cells #[.string c, .int .i64 s] 67) := by
  go_enter Tryd.func32, Tryd.ntmps32
  go_wp2
  exact bodyPost_ret (v := .agg #[.string c, .int .i64 s]) (by simp [results, Tryd.results32, go_sem]) rfl ⟨rfl, rfl⟩
theorem netKey_any (d a : Int) (c : ByteArray) (w : World) :
    Calls Tryd.prog 24 #[.agg #[.int .i64 d, .string c, .int .i64 a]] w fun e w' => e = .returned (.agg #[.int .i64 d, .string c]) ∧ Below w.heap.size w w' := by
  go_enter Tryd.func24, Tryd.ntmps24
  go_wp2
  exact bodyPost_ret (v := .agg #[.int .i64 d, .string c]) (by simp [results, Tryd.results24, go_sem]) rfl ⟨rfl, ((Below.refl _ _).alloc (Nat.le_refl _) _).alloc (by simp) _⟩
theorem netTold_any (d s : Int) (c : ByteArray) (w : World) :
    Calls Tryd.prog 25 #[.agg #[.int .i64 d, .string c], .int .i64 s] w fun e w' => e = .returned (.agg #[.int .i64 d, .string c, .int .i64 s]) ∧ Below w.heap.size w w' := by
  go_enter Tryd.func25, Tryd.ntmps25
  go_wp2
  exact bodyPost_ret (v := .agg #[.int .i64 d, .string c, .int .i64 s]) (by simp [results, Tryd.results25, go_sem]) rfl ⟨rfl, ((Below.refl _ _).alloc (Nat.le_refl _) _).alloc (by simp) _⟩
theorem totOrder_any (a a' : Int) (c c' : ByteArray) (w : World) :
    Calls Tryd.prog 34 #[.agg #[.string c, .int .i64 a], .agg #[.string c', .int .i64 a']] w fun e w' => e = .returned (.int .i64 (cmpS c c')) ∧ w' = (w.alloc (.cells #[.string c, .int .i64 a] 67)).alloc (.cells #[.string c', .int .i64 a'] 67) := by
  have K1 := fun W => compare_str c c' W
  generalize cmpS c c' = y at *
  go_enter Tryd.func34, Tryd.ntmps34
  go_wp2_with (go_at_call 29; refine (K1 _).mono ?_; rintro e w2 ⟨rfl, rfl⟩)
  all_goals go_ret
  all_goals exact ⟨rfl, rfl⟩

/-- The document's add: the sum, or that it does not fit. -/
theorem wrap_up {n : Int} (h : 9223372036854775807 < n) (h2 : n ≤ 18446744073709551614) : wrap64 n = n - 18446744073709551616 := by unfold wrap64; omega
theorem wrap_down {n : Int} (h : n < -9223372036854775808) (h2 : -18446744073709551616 ≤ n) : wrap64 n = n + 18446744073709551616 := by unfold wrap64; omega
end Go.Proofs.YtmdgfcldohmjdaaDoor
