/-
  WALK: NumBack.
-/
import Derived.Test.YtookmgjnacbdkaaWForms
import Derived.RowKit3
namespace Go.Proofs.Ytookmgjnacbdkaa
open Go.RowKit

theorem div_z (a : Int) (ha : inR a) (w : World) :
    Calls Try.prog 15 #[.int .i64 a, .int .i64 0] w fun e w' => e = .returned (.tuple #[.int .i64 0, .int .i64 2]) ∧ w' = w := div_any a 0 ha w
theorem mod_z (a : Int) (w : World) :
    Calls Try.prog 16 #[.int .i64 a, .int .i64 0] w fun e w' => e = .returned (.tuple #[.int .i64 0, .int .i64 2]) ∧ w' = w := mod_any a 0 w
theorem div_least (w : World) :
    Calls Try.prog 15 #[.int .i64 (-9223372036854775808), .int .i64 (-1)] w fun e w' => e = .returned (.tuple #[.int .i64 0, .int .i64 1]) ∧ w' = w := by
  have h := div_any (-9223372036854775808) (-1) (by unfold inR; omega) w
  unfold divV divF at h
  rw [if_neg (by omega), if_neg (by omega), fitV_out tdiv_out, fitF_out tdiv_out] at h
  exact h
theorem mod_least (w : World) :
    Calls Try.prog 16 #[.int .i64 (-9223372036854775808), .int .i64 (-1)] w fun e w' => e = .returned (.tuple #[.int .i64 0, .int .i64 0]) ∧ w' = w := by
  have h := mod_any (-9223372036854775808) (-1) w
  unfold modV modF at h
  rw [if_neg (by omega), if_neg (by omega)] at h
  exact h
theorem div_in {a b q : Int} (ha : inR a) (h0 : ¬ b = 0) (hl : ¬ (a = -9223372036854775808 ∧ b = -1)) (hq : a.tdiv b = q) (w : World) :
    Calls Try.prog 15 #[.int .i64 a, .int .i64 b] w fun e w' => e = .returned (.tuple #[.int .i64 q, .int .i64 0]) ∧ w' = w := by
  have h := div_any a b ha w
  have hi := tdiv_in a b ha h0 hl
  unfold divV divF at h
  rw [if_neg h0, if_neg h0, fitV_in hi, fitF_in hi, hq] at h
  exact h
theorem mod_in {a b r : Int} (h0 : ¬ b = 0) (hr : a.tmod b = r) (w : World) :
    Calls Try.prog 16 #[.int .i64 a, .int .i64 b] w fun e w' => e = .returned (.tuple #[.int .i64 r, .int .i64 0]) ∧ w' = w := by
  have h := mod_any a b w
  unfold modV modF at h
  rw [if_neg h0, if_neg h0, hr] at h
  exact h

theorem numBack_zero (a : Int) (ha : inR a) (w : World) :
    Calls Try.prog 6 #[.int .i64 a, .int .i64 0] w fun e w' => e = .returned (.bool true) ∧ Grown w w' := by
  go_enter Try.func6, Try.ntmps6
  go_wp2_with (go_at_call 9; refine (has_any _ _ _).mono ?_; rintro e w' ⟨rfl, rfl⟩)
  refine (div_z a ha _).mono ?_; rintro e w' ⟨rfl, rfl⟩
  go_wp2_with (go_at_call 9; refine (has_any _ _ _).mono ?_; rintro e w' ⟨rfl, rfl⟩)
  refine (mod_z a _).mono ?_; rintro e w' ⟨rfl, rfl⟩
  go_wp2_with (go_at_call 9; refine (has_any _ _ _).mono ?_; rintro e w' ⟨rfl, rfl⟩)
  go_ret
  exact ⟨rfl, Grown.refl _⟩

set_option maxRecDepth 100000 in
theorem numBack_least (w : World) :
    Calls Try.prog 6 #[.int .i64 (-9223372036854775808), .int .i64 (-1)] w fun e w' => e = .returned (.bool true) ∧ Grown w w' := by
  go_enter Try.func6, Try.ntmps6
  go_wp2_with (go_at_call 9; refine (has_any _ _ _).mono ?_; rintro e w' ⟨rfl, rfl⟩)
  refine (div_least _).mono ?_; rintro e w' ⟨rfl, rfl⟩
  go_wp2_with (go_at_call 9; refine (has_any _ _ _).mono ?_; rintro e w' ⟨rfl, rfl⟩)
  refine (mod_least _).mono ?_; rintro e w' ⟨rfl, rfl⟩
  go_wp2_with (go_at_call 9; refine (has_any _ _ _).mono ?_; rintro e w' ⟨rfl, rfl⟩)
  go_ret
  exact ⟨rfl, Grown.refl _⟩

theorem numBack_pn (a b q r : Int) (hb : inR b) (hq : inR q) (r1 : -9223372036854775807 ≤ r) (r2 : r ≤ 9223372036854775807) (e0 : (b == 0) = false) (el : (a == -9223372036854775808 && b == -1) = false) (hm : inR (b * q)) (hs : b * q + r = a) (ha : inR a)
    (hdiv : Hid (∀ w, Calls Try.prog 15 #[.int .i64 a, .int .i64 b] w fun e w' => e = .returned (.tuple #[.int .i64 q, .int .i64 0]) ∧ w' = w))
    (hmod : Hid (∀ w, Calls Try.prog 16 #[.int .i64 a, .int .i64 b] w fun e w' => e = .returned (.tuple #[.int .i64 r, .int .i64 0]) ∧ w' = w))
    (c1 : decide (0 < r) = false) (c2 : r < 0) (c3 : decide (0 < a) = false) (d1 : decide (b < 0) = false) (d2 : r < b) (d3 : -r < b) (w : World) :
    Calls Try.prog 6 #[.int .i64 a, .int .i64 b] w fun e w' => e = .returned (.bool true) ∧ Grown w w' := by
  have hs' := veil hs
  have hr : inR r := by unfold inR; omega
  clear hs
  by_cases ea : a = -9223372036854775808
  · have ea' : (a == -9223372036854775808) = true := by simp [ea]
    have eb' : (b == -1) = false := by simpa [ea'] using el
    clear ea el
    go_enter Try.func6, Try.ntmps6
    go_wp2_with (go_at_call 9; refine (has_any _ _ _).mono ?_; rintro e w' ⟨rfl, rfl⟩)
    refine (unveil hdiv _).mono ?_; rintro e w' ⟨rfl, rfl⟩
    go_wp2_with (go_at_call 9; refine (has_any _ _ _).mono ?_; rintro e w' ⟨rfl, rfl⟩)
    refine (unveil hmod _).mono ?_; rintro e w' ⟨rfl, rfl⟩
    go_wp2_with (go_at_call 9; refine (has_any _ _ _).mono ?_; rintro e w' ⟨rfl, rfl⟩)
    refine (mul_in hb hq rfl hm _).mono ?_; rintro e w' ⟨rfl, rfl⟩
    go_wp2_with (go_at_call 9; refine (has_any _ _ _).mono ?_; rintro e w' ⟨rfl, rfl⟩)
    refine (add_in hm hr (unveil hs') ha _).mono ?_; rintro e w' ⟨rfl, rfl⟩
    go_wp2_with (go_at_call 9; refine (has_any _ _ _).mono ?_; rintro e w' ⟨rfl, rfl⟩)
    go_ret
    exact ⟨rfl, Grown.refl _⟩
  · have ea' : (a == -9223372036854775808) = false := by simp [ea]
    clear ea el
    go_enter Try.func6, Try.ntmps6
    go_wp2_with (go_at_call 9; refine (has_any _ _ _).mono ?_; rintro e w' ⟨rfl, rfl⟩)
    refine (unveil hdiv _).mono ?_; rintro e w' ⟨rfl, rfl⟩
    go_wp2_with (go_at_call 9; refine (has_any _ _ _).mono ?_; rintro e w' ⟨rfl, rfl⟩)
    refine (unveil hmod _).mono ?_; rintro e w' ⟨rfl, rfl⟩
    go_wp2_with (go_at_call 9; refine (has_any _ _ _).mono ?_; rintro e w' ⟨rfl, rfl⟩)
    refine (mul_in hb hq rfl hm _).mono ?_; rintro e w' ⟨rfl, rfl⟩
    go_wp2_with (go_at_call 9; refine (has_any _ _ _).mono ?_; rintro e w' ⟨rfl, rfl⟩)
    refine (add_in hm hr (unveil hs') ha _).mono ?_; rintro e w' ⟨rfl, rfl⟩
    go_wp2_with (go_at_call 9; refine (has_any _ _ _).mono ?_; rintro e w' ⟨rfl, rfl⟩)
    go_ret
    exact ⟨rfl, Grown.refl _⟩

theorem numBack_pz (a b q r : Int) (hb : inR b) (hq : inR q) (r1 : -9223372036854775807 ≤ r) (r2 : r ≤ 9223372036854775807) (e0 : (b == 0) = false) (el : (a == -9223372036854775808 && b == -1) = false) (hm : inR (b * q)) (hs : b * q + r = a) (ha : inR a)
    (hdiv : Hid (∀ w, Calls Try.prog 15 #[.int .i64 a, .int .i64 b] w fun e w' => e = .returned (.tuple #[.int .i64 q, .int .i64 0]) ∧ w' = w))
    (hmod : Hid (∀ w, Calls Try.prog 16 #[.int .i64 a, .int .i64 b] w fun e w' => e = .returned (.tuple #[.int .i64 r, .int .i64 0]) ∧ w' = w))
    (c1 : decide (0 < r) = false) (c2 : decide (r < 0) = false) (d1 : decide (b < 0) = false) (d2 : r < b) (d3 : -r < b) (w : World) :
    Calls Try.prog 6 #[.int .i64 a, .int .i64 b] w fun e w' => e = .returned (.bool true) ∧ Grown w w' := by
  have hs' := veil hs
  have hr : inR r := by unfold inR; omega
  clear hs
  by_cases ea : a = -9223372036854775808
  · have ea' : (a == -9223372036854775808) = true := by simp [ea]
    have eb' : (b == -1) = false := by simpa [ea'] using el
    clear ea el
    go_enter Try.func6, Try.ntmps6
    go_wp2_with (go_at_call 9; refine (has_any _ _ _).mono ?_; rintro e w' ⟨rfl, rfl⟩)
    refine (unveil hdiv _).mono ?_; rintro e w' ⟨rfl, rfl⟩
    go_wp2_with (go_at_call 9; refine (has_any _ _ _).mono ?_; rintro e w' ⟨rfl, rfl⟩)
    refine (unveil hmod _).mono ?_; rintro e w' ⟨rfl, rfl⟩
    go_wp2_with (go_at_call 9; refine (has_any _ _ _).mono ?_; rintro e w' ⟨rfl, rfl⟩)
    refine (mul_in hb hq rfl hm _).mono ?_; rintro e w' ⟨rfl, rfl⟩
    go_wp2_with (go_at_call 9; refine (has_any _ _ _).mono ?_; rintro e w' ⟨rfl, rfl⟩)
    refine (add_in hm hr (unveil hs') ha _).mono ?_; rintro e w' ⟨rfl, rfl⟩
    go_wp2_with (go_at_call 9; refine (has_any _ _ _).mono ?_; rintro e w' ⟨rfl, rfl⟩)
    go_ret
    exact ⟨rfl, Grown.refl _⟩
  · have ea' : (a == -9223372036854775808) = false := by simp [ea]
    clear ea el
    go_enter Try.func6, Try.ntmps6
    go_wp2_with (go_at_call 9; refine (has_any _ _ _).mono ?_; rintro e w' ⟨rfl, rfl⟩)
    refine (unveil hdiv _).mono ?_; rintro e w' ⟨rfl, rfl⟩
    go_wp2_with (go_at_call 9; refine (has_any _ _ _).mono ?_; rintro e w' ⟨rfl, rfl⟩)
    refine (unveil hmod _).mono ?_; rintro e w' ⟨rfl, rfl⟩
    go_wp2_with (go_at_call 9; refine (has_any _ _ _).mono ?_; rintro e w' ⟨rfl, rfl⟩)
    refine (mul_in hb hq rfl hm _).mono ?_; rintro e w' ⟨rfl, rfl⟩
    go_wp2_with (go_at_call 9; refine (has_any _ _ _).mono ?_; rintro e w' ⟨rfl, rfl⟩)
    refine (add_in hm hr (unveil hs') ha _).mono ?_; rintro e w' ⟨rfl, rfl⟩
    go_wp2_with (go_at_call 9; refine (has_any _ _ _).mono ?_; rintro e w' ⟨rfl, rfl⟩)
    go_ret
    exact ⟨rfl, Grown.refl _⟩

theorem numBack_pp (a b q r : Int) (hb : inR b) (hq : inR q) (r1 : -9223372036854775807 ≤ r) (r2 : r ≤ 9223372036854775807) (e0 : (b == 0) = false) (el : (a == -9223372036854775808 && b == -1) = false) (hm : inR (b * q)) (hs : b * q + r = a) (ha : inR a)
    (hdiv : Hid (∀ w, Calls Try.prog 15 #[.int .i64 a, .int .i64 b] w fun e w' => e = .returned (.tuple #[.int .i64 q, .int .i64 0]) ∧ w' = w))
    (hmod : Hid (∀ w, Calls Try.prog 16 #[.int .i64 a, .int .i64 b] w fun e w' => e = .returned (.tuple #[.int .i64 r, .int .i64 0]) ∧ w' = w))
    (c1 : 0 < r) (c2 : decide (r < 0) = false) (c3 : decide (a < 0) = false) (d1 : decide (b < 0) = false) (d2 : r < b) (d3 : -r < b) (w : World) :
    Calls Try.prog 6 #[.int .i64 a, .int .i64 b] w fun e w' => e = .returned (.bool true) ∧ Grown w w' := by
  have hs' := veil hs
  have hr : inR r := by unfold inR; omega
  clear hs
  by_cases ea : a = -9223372036854775808
  · have ea' : (a == -9223372036854775808) = true := by simp [ea]
    have eb' : (b == -1) = false := by simpa [ea'] using el
    clear ea el
    go_enter Try.func6, Try.ntmps6
    go_wp2_with (go_at_call 9; refine (has_any _ _ _).mono ?_; rintro e w' ⟨rfl, rfl⟩)
    refine (unveil hdiv _).mono ?_; rintro e w' ⟨rfl, rfl⟩
    go_wp2_with (go_at_call 9; refine (has_any _ _ _).mono ?_; rintro e w' ⟨rfl, rfl⟩)
    refine (unveil hmod _).mono ?_; rintro e w' ⟨rfl, rfl⟩
    go_wp2_with (go_at_call 9; refine (has_any _ _ _).mono ?_; rintro e w' ⟨rfl, rfl⟩)
    refine (mul_in hb hq rfl hm _).mono ?_; rintro e w' ⟨rfl, rfl⟩
    go_wp2_with (go_at_call 9; refine (has_any _ _ _).mono ?_; rintro e w' ⟨rfl, rfl⟩)
    refine (add_in hm hr (unveil hs') ha _).mono ?_; rintro e w' ⟨rfl, rfl⟩
    go_wp2_with (go_at_call 9; refine (has_any _ _ _).mono ?_; rintro e w' ⟨rfl, rfl⟩)
    go_ret
    exact ⟨rfl, Grown.refl _⟩
  · have ea' : (a == -9223372036854775808) = false := by simp [ea]
    clear ea el
    go_enter Try.func6, Try.ntmps6
    go_wp2_with (go_at_call 9; refine (has_any _ _ _).mono ?_; rintro e w' ⟨rfl, rfl⟩)
    refine (unveil hdiv _).mono ?_; rintro e w' ⟨rfl, rfl⟩
    go_wp2_with (go_at_call 9; refine (has_any _ _ _).mono ?_; rintro e w' ⟨rfl, rfl⟩)
    refine (unveil hmod _).mono ?_; rintro e w' ⟨rfl, rfl⟩
    go_wp2_with (go_at_call 9; refine (has_any _ _ _).mono ?_; rintro e w' ⟨rfl, rfl⟩)
    refine (mul_in hb hq rfl hm _).mono ?_; rintro e w' ⟨rfl, rfl⟩
    go_wp2_with (go_at_call 9; refine (has_any _ _ _).mono ?_; rintro e w' ⟨rfl, rfl⟩)
    refine (add_in hm hr (unveil hs') ha _).mono ?_; rintro e w' ⟨rfl, rfl⟩
    go_wp2_with (go_at_call 9; refine (has_any _ _ _).mono ?_; rintro e w' ⟨rfl, rfl⟩)
    go_ret
    exact ⟨rfl, Grown.refl _⟩

theorem numBack_nn (a b q r : Int) (hb : inR b) (hq : inR q) (r1 : -9223372036854775807 ≤ r) (r2 : r ≤ 9223372036854775807) (e0 : (b == 0) = false) (el : (a == -9223372036854775808 && b == -1) = false) (hm : inR (b * q)) (hs : b * q + r = a) (ha : inR a)
    (hdiv : Hid (∀ w, Calls Try.prog 15 #[.int .i64 a, .int .i64 b] w fun e w' => e = .returned (.tuple #[.int .i64 q, .int .i64 0]) ∧ w' = w))
    (hmod : Hid (∀ w, Calls Try.prog 16 #[.int .i64 a, .int .i64 b] w fun e w' => e = .returned (.tuple #[.int .i64 r, .int .i64 0]) ∧ w' = w))
    (c1 : decide (0 < r) = false) (c2 : r < 0) (c3 : decide (0 < a) = false) (d1 : b < 0) (d2 : b < r) (d3 : b < -r) (d4 : decide (r < b) = false) (w : World) :
    Calls Try.prog 6 #[.int .i64 a, .int .i64 b] w fun e w' => e = .returned (.bool true) ∧ Grown w w' := by
  have hs' := veil hs
  have hr : inR r := by unfold inR; omega
  clear hs
  by_cases ea : a = -9223372036854775808
  · have ea' : (a == -9223372036854775808) = true := by simp [ea]
    have eb' : (b == -1) = false := by simpa [ea'] using el
    clear ea el
    go_enter Try.func6, Try.ntmps6
    go_wp2_with (go_at_call 9; refine (has_any _ _ _).mono ?_; rintro e w' ⟨rfl, rfl⟩)
    refine (unveil hdiv _).mono ?_; rintro e w' ⟨rfl, rfl⟩
    go_wp2_with (go_at_call 9; refine (has_any _ _ _).mono ?_; rintro e w' ⟨rfl, rfl⟩)
    refine (unveil hmod _).mono ?_; rintro e w' ⟨rfl, rfl⟩
    go_wp2_with (go_at_call 9; refine (has_any _ _ _).mono ?_; rintro e w' ⟨rfl, rfl⟩)
    refine (mul_in hb hq rfl hm _).mono ?_; rintro e w' ⟨rfl, rfl⟩
    go_wp2_with (go_at_call 9; refine (has_any _ _ _).mono ?_; rintro e w' ⟨rfl, rfl⟩)
    refine (add_in hm hr (unveil hs') ha _).mono ?_; rintro e w' ⟨rfl, rfl⟩
    go_wp2_with (go_at_call 9; refine (has_any _ _ _).mono ?_; rintro e w' ⟨rfl, rfl⟩)
    go_ret
    exact ⟨rfl, Grown.refl _⟩
  · have ea' : (a == -9223372036854775808) = false := by simp [ea]
    clear ea el
    go_enter Try.func6, Try.ntmps6
    go_wp2_with (go_at_call 9; refine (has_any _ _ _).mono ?_; rintro e w' ⟨rfl, rfl⟩)
    refine (unveil hdiv _).mono ?_; rintro e w' ⟨rfl, rfl⟩
    go_wp2_with (go_at_call 9; refine (has_any _ _ _).mono ?_; rintro e w' ⟨rfl, rfl⟩)
    refine (unveil hmod _).mono ?_; rintro e w' ⟨rfl, rfl⟩
    go_wp2_with (go_at_call 9; refine (has_any _ _ _).mono ?_; rintro e w' ⟨rfl, rfl⟩)
    refine (mul_in hb hq rfl hm _).mono ?_; rintro e w' ⟨rfl, rfl⟩
    go_wp2_with (go_at_call 9; refine (has_any _ _ _).mono ?_; rintro e w' ⟨rfl, rfl⟩)
    refine (add_in hm hr (unveil hs') ha _).mono ?_; rintro e w' ⟨rfl, rfl⟩
    go_wp2_with (go_at_call 9; refine (has_any _ _ _).mono ?_; rintro e w' ⟨rfl, rfl⟩)
    go_ret
    exact ⟨rfl, Grown.refl _⟩

theorem numBack_nz (a b q r : Int) (hb : inR b) (hq : inR q) (r1 : -9223372036854775807 ≤ r) (r2 : r ≤ 9223372036854775807) (e0 : (b == 0) = false) (el : (a == -9223372036854775808 && b == -1) = false) (hm : inR (b * q)) (hs : b * q + r = a) (ha : inR a)
    (hdiv : Hid (∀ w, Calls Try.prog 15 #[.int .i64 a, .int .i64 b] w fun e w' => e = .returned (.tuple #[.int .i64 q, .int .i64 0]) ∧ w' = w))
    (hmod : Hid (∀ w, Calls Try.prog 16 #[.int .i64 a, .int .i64 b] w fun e w' => e = .returned (.tuple #[.int .i64 r, .int .i64 0]) ∧ w' = w))
    (c1 : decide (0 < r) = false) (c2 : decide (r < 0) = false) (d1 : b < 0) (d2 : b < r) (d3 : b < -r) (d4 : decide (r < b) = false) (w : World) :
    Calls Try.prog 6 #[.int .i64 a, .int .i64 b] w fun e w' => e = .returned (.bool true) ∧ Grown w w' := by
  have hs' := veil hs
  have hr : inR r := by unfold inR; omega
  clear hs
  by_cases ea : a = -9223372036854775808
  · have ea' : (a == -9223372036854775808) = true := by simp [ea]
    have eb' : (b == -1) = false := by simpa [ea'] using el
    clear ea el
    go_enter Try.func6, Try.ntmps6
    go_wp2_with (go_at_call 9; refine (has_any _ _ _).mono ?_; rintro e w' ⟨rfl, rfl⟩)
    refine (unveil hdiv _).mono ?_; rintro e w' ⟨rfl, rfl⟩
    go_wp2_with (go_at_call 9; refine (has_any _ _ _).mono ?_; rintro e w' ⟨rfl, rfl⟩)
    refine (unveil hmod _).mono ?_; rintro e w' ⟨rfl, rfl⟩
    go_wp2_with (go_at_call 9; refine (has_any _ _ _).mono ?_; rintro e w' ⟨rfl, rfl⟩)
    refine (mul_in hb hq rfl hm _).mono ?_; rintro e w' ⟨rfl, rfl⟩
    go_wp2_with (go_at_call 9; refine (has_any _ _ _).mono ?_; rintro e w' ⟨rfl, rfl⟩)
    refine (add_in hm hr (unveil hs') ha _).mono ?_; rintro e w' ⟨rfl, rfl⟩
    go_wp2_with (go_at_call 9; refine (has_any _ _ _).mono ?_; rintro e w' ⟨rfl, rfl⟩)
    go_ret
    exact ⟨rfl, Grown.refl _⟩
  · have ea' : (a == -9223372036854775808) = false := by simp [ea]
    clear ea el
    go_enter Try.func6, Try.ntmps6
    go_wp2_with (go_at_call 9; refine (has_any _ _ _).mono ?_; rintro e w' ⟨rfl, rfl⟩)
    refine (unveil hdiv _).mono ?_; rintro e w' ⟨rfl, rfl⟩
    go_wp2_with (go_at_call 9; refine (has_any _ _ _).mono ?_; rintro e w' ⟨rfl, rfl⟩)
    refine (unveil hmod _).mono ?_; rintro e w' ⟨rfl, rfl⟩
    go_wp2_with (go_at_call 9; refine (has_any _ _ _).mono ?_; rintro e w' ⟨rfl, rfl⟩)
    refine (mul_in hb hq rfl hm _).mono ?_; rintro e w' ⟨rfl, rfl⟩
    go_wp2_with (go_at_call 9; refine (has_any _ _ _).mono ?_; rintro e w' ⟨rfl, rfl⟩)
    refine (add_in hm hr (unveil hs') ha _).mono ?_; rintro e w' ⟨rfl, rfl⟩
    go_wp2_with (go_at_call 9; refine (has_any _ _ _).mono ?_; rintro e w' ⟨rfl, rfl⟩)
    go_ret
    exact ⟨rfl, Grown.refl _⟩

theorem numBack_np (a b q r : Int) (hb : inR b) (hq : inR q) (r1 : -9223372036854775807 ≤ r) (r2 : r ≤ 9223372036854775807) (e0 : (b == 0) = false) (el : (a == -9223372036854775808 && b == -1) = false) (hm : inR (b * q)) (hs : b * q + r = a) (ha : inR a)
    (hdiv : Hid (∀ w, Calls Try.prog 15 #[.int .i64 a, .int .i64 b] w fun e w' => e = .returned (.tuple #[.int .i64 q, .int .i64 0]) ∧ w' = w))
    (hmod : Hid (∀ w, Calls Try.prog 16 #[.int .i64 a, .int .i64 b] w fun e w' => e = .returned (.tuple #[.int .i64 r, .int .i64 0]) ∧ w' = w))
    (c1 : 0 < r) (c2 : decide (r < 0) = false) (c3 : decide (a < 0) = false) (d1 : b < 0) (d2 : b < r) (d3 : b < -r) (d4 : decide (r < b) = false) (w : World) :
    Calls Try.prog 6 #[.int .i64 a, .int .i64 b] w fun e w' => e = .returned (.bool true) ∧ Grown w w' := by
  have hs' := veil hs
  have hr : inR r := by unfold inR; omega
  clear hs
  by_cases ea : a = -9223372036854775808
  · have ea' : (a == -9223372036854775808) = true := by simp [ea]
    have eb' : (b == -1) = false := by simpa [ea'] using el
    clear ea el
    go_enter Try.func6, Try.ntmps6
    go_wp2_with (go_at_call 9; refine (has_any _ _ _).mono ?_; rintro e w' ⟨rfl, rfl⟩)
    refine (unveil hdiv _).mono ?_; rintro e w' ⟨rfl, rfl⟩
    go_wp2_with (go_at_call 9; refine (has_any _ _ _).mono ?_; rintro e w' ⟨rfl, rfl⟩)
    refine (unveil hmod _).mono ?_; rintro e w' ⟨rfl, rfl⟩
    go_wp2_with (go_at_call 9; refine (has_any _ _ _).mono ?_; rintro e w' ⟨rfl, rfl⟩)
    refine (mul_in hb hq rfl hm _).mono ?_; rintro e w' ⟨rfl, rfl⟩
    go_wp2_with (go_at_call 9; refine (has_any _ _ _).mono ?_; rintro e w' ⟨rfl, rfl⟩)
    refine (add_in hm hr (unveil hs') ha _).mono ?_; rintro e w' ⟨rfl, rfl⟩
    go_wp2_with (go_at_call 9; refine (has_any _ _ _).mono ?_; rintro e w' ⟨rfl, rfl⟩)
    go_ret
    exact ⟨rfl, Grown.refl _⟩
  · have ea' : (a == -9223372036854775808) = false := by simp [ea]
    clear ea el
    go_enter Try.func6, Try.ntmps6
    go_wp2_with (go_at_call 9; refine (has_any _ _ _).mono ?_; rintro e w' ⟨rfl, rfl⟩)
    refine (unveil hdiv _).mono ?_; rintro e w' ⟨rfl, rfl⟩
    go_wp2_with (go_at_call 9; refine (has_any _ _ _).mono ?_; rintro e w' ⟨rfl, rfl⟩)
    refine (unveil hmod _).mono ?_; rintro e w' ⟨rfl, rfl⟩
    go_wp2_with (go_at_call 9; refine (has_any _ _ _).mono ?_; rintro e w' ⟨rfl, rfl⟩)
    refine (mul_in hb hq rfl hm _).mono ?_; rintro e w' ⟨rfl, rfl⟩
    go_wp2_with (go_at_call 9; refine (has_any _ _ _).mono ?_; rintro e w' ⟨rfl, rfl⟩)
    refine (add_in hm hr (unveil hs') ha _).mono ?_; rintro e w' ⟨rfl, rfl⟩
    go_wp2_with (go_at_call 9; refine (has_any _ _ _).mono ?_; rintro e w' ⟨rfl, rfl⟩)
    go_ret
    exact ⟨rfl, Grown.refl _⟩

theorem mulTdiv (a b : Int) : b * a.tdiv b + a.tmod b = a := Int.mul_tdiv_add_tmod a b
theorem tmod_lt (a b : Int) (h0 : ¬ b = 0) : (a.tmod b).natAbs < b.natAbs := by
  rw [Int.natAbs_tmod]; exact Nat.mod_lt _ (by omega)
theorem tmod_neg (a b : Int) (h : a < 0) : a.tmod b ≤ 0 := by
  have := Int.neg_tmod (-a) b
  rw [Int.neg_neg] at this
  have h4 := Int.tmod_nonneg b (show 0 ≤ -a by omega)
  omega

theorem numBack_walk (a b : Int) (ha : inR a) (hb : inR b) (w : World) :
    Calls Try.prog 6 #[.int .i64 a, .int .i64 b] w fun e w' => e = .returned (.bool true) ∧ Grown w w' := by
  by_cases h0 : b = 0
  · subst h0; exact numBack_zero a ha w
  by_cases hl : a = -9223372036854775808 ∧ b = -1
  · obtain ⟨rfl, rfl⟩ := hl; exact numBack_least w
  have el : (a == -9223372036854775808 && b == -1) = false := by
    by_cases h1 : a = -9223372036854775808
    · have h2 : ¬ b = -1 := fun c => hl ⟨h1, c⟩
      simp [h1, h2]
    · simp [h1]
  have e0 : (b == 0) = false := by simp [h0]
  have hq := tdiv_in a b ha h0 hl
  have hd := fun w => div_in ha h0 hl rfl w
  have hm := fun w => mod_in (a := a) h0 rfl w
  have hs := mulTdiv a b
  have hlt := tmod_lt a b h0
  have hneg := tmod_neg a b
  have hpos := fun h => Int.tmod_nonneg (a := a) b h
  have habs : (a.tmod b).natAbs = a.natAbs % b.natAbs := Int.natAbs_tmod a b
  have hle : a.natAbs % b.natAbs ≤ a.natAbs := Nat.mod_le _ _
  generalize a.tdiv b = q at *
  generalize a.tmod b = r at *
  have bm : inR (b * q) := by unfold inR at *; omega
  have r1 : -9223372036854775807 ≤ r := by unfold inR at *; omega
  have r2 : r ≤ 9223372036854775807 := by unfold inR at *; omega
  have Hd := veil hd
  have Hm := veil hm
  by_cases hb0 : b < 0
  · have d1 : b < r := by omega
    have d2 : b < -r := by omega
    have d3 : decide (r < b) = false := by simp; omega
    by_cases c1 : 0 < r
    · exact numBack_np a b q r hb hq r1 r2 e0 el bm hs ha Hd Hm c1 (by simp; omega) (by simp; omega) hb0 d1 d2 d3 w
    by_cases c2 : r < 0
    · exact numBack_nn a b q r hb hq r1 r2 e0 el bm hs ha Hd Hm (by simpa using c1) c2 (by simp; omega) hb0 d1 d2 d3 w
    · exact numBack_nz a b q r hb hq r1 r2 e0 el bm hs ha Hd Hm (by simpa using c1) (by simpa using c2) hb0 d1 d2 d3 w
  · have d1 : r < b := by omega
    have d2 : -r < b := by omega
    have d0 : decide (b < 0) = false := by simpa using hb0
    by_cases c1 : 0 < r
    · exact numBack_pp a b q r hb hq r1 r2 e0 el bm hs ha Hd Hm c1 (by simp; omega) (by simp; omega) d0 d1 d2 w
    by_cases c2 : r < 0
    · exact numBack_pn a b q r hb hq r1 r2 e0 el bm hs ha Hd Hm (by simpa using c1) c2 (by simp; omega) d0 d1 d2 w
    · exact numBack_pz a b q r hb hq r1 r2 e0 el bm hs ha Hd Hm (by simpa using c1) (by simpa using c2) d0 d1 d2 w

end Go.Proofs.Ytookmgjnacbdkaa
