/-
  WALK: NumTimes.
-/
import Derived.Test.YtookmgjnacbdkaaWForms
import Derived.RowKit3
namespace Go.Proofs.Ytookmgjnacbdkaa
open Go.RowKit

/-- a, so many times. -/
def tms (a : Int) (k : Nat) : Int := a * (k : Int)
theorem tms_zero (a : Int) : tms a 0 = 0 := by simp [tms]
theorem tms_succ (a : Int) (k : Nat) : tms a k + a = tms a (k + 1) := by
  unfold tms; rw [Int.natCast_add, Int.mul_add]; simp
theorem tms_out (a : Int) (k m : Nat) (h : k ≤ m) (ho : ¬ inR (tms a k)) : ¬ inR (tms a m) := by
  intro hi; apply ho
  unfold inR tms at *
  by_cases ha : 0 ≤ a
  · have h1 : a * (k : Int) ≤ a * (m : Int) := Int.mul_le_mul_of_nonneg_left (by omega) ha
    have h2 : 0 ≤ a * (k : Int) := Int.mul_nonneg ha (by omega)
    omega
  · have h1 : a * (m : Int) ≤ a * (k : Int) := Int.mul_le_mul_of_nonpos_left (by omega) (by omega)
    have h2 : a * (k : Int) ≤ 0 := Int.mul_nonpos_of_nonpos_of_nonneg (by omega) (by omega)
    omega
theorem mul_out {a b c : Int} (ha : inR a) (hb : inR b) (hc : a * b = c) (h : ¬ inR c) (w : World) :
    Calls Try.prog 11 #[.int .i64 a, .int .i64 b] w fun e w' => e = .returned (.tuple #[.int .i64 0, .int .i64 1]) ∧ w' = w := by
  have := mul_any a b ha hb w
  rw [hc, fitV_out h, fitF_out h] at this
  exact this

theorem numTimes_else (a n : Int) (h : n < 0 ∨ 300 < n) (w : World) :
    Calls Try.prog 3 #[.int .i64 a, .int .i64 n] w fun e w' => e = .returned (.bool true) ∧ Grown w w' := by
  by_cases h1 : n < 0
  · go_enter Try.func3, Try.ntmps3
    go_wp2
    go_ret
    exact ⟨rfl, Grown.refl _⟩
  · have h2 : 300 < n := by omega
    have h3 : decide (n < 0) = false := by simpa using h1
    clear h h1
    go_enter Try.func3, Try.ntmps3
    go_wp2
    go_ret
    exact ⟨rfl, Grown.refl _⟩

theorem numTimes_main (a : Int) (m : Nat) (ha : inR a) (hm : m ≤ 300) (w : World) :
    Calls Try.prog 3 #[.int .i64 a, .int .i64 (m : Int)] w fun e w' => e = .returned (.bool true) ∧ Grown w w' := by
  have h1 : decide ((m : Int) < 0) = false := by simp
  have h2 : decide ((300 : Int) < (m : Int)) = false := by simp; omega
  have hmR : inR (m : Int) := by unfold inR; omega
  have hone : inR 1 := by unfold inR; omega
  have hz : inR (tms a 0) := by rw [tms_zero]; unfold inR; omega
  have H0 := veil (tms_zero a)
  go_enter Try.func3, Try.ntmps3
  go_wp2_with fail
  go_loop [5, 6, 7] (fun s f i => ∃ k : Nat, k ≤ m ∧ i = .int .i64 k ∧ ((inR (tms a k) ∧ s = .int .i64 (tms a k) ∧ f = .int .i64 0) ∨ (¬ inR (tms a k) ∧ s = .int .i64 0 ∧ f = .int .i64 1))) (fun _ _ i => m - (intOf i).toNat)
  case atStart => exact ⟨0, Nat.zero_le _, rfl, Or.inl ⟨hz, by rw [unveil H0], rfl⟩⟩
  case round =>
    obtain ⟨k, hk, rfl, hc⟩ := hrel
    rcases hc with ⟨hin, rfl, rfl⟩ | ⟨hout, rfl, rfl⟩
    · by_cases hlt : k < m
      · have hS := veil (tms_succ a k)
        by_cases hn : inR (tms a (k + 1))
        · go_wp2_with (first | (go_at_call 9; refine (has_any _ _ _).mono ?_; rintro e w' ⟨rfl, rfl⟩) | (go_at_call 10; refine (add_in hin ha (unveil hS) hn _).mono ?_; rintro e w' ⟨rfl, rfl⟩))
          go_round
          case rel => exact ⟨k + 1, by omega, by go_num, Or.inl ⟨hn, rfl, rfl⟩⟩
          case measure => simp [intOf]; omega
        · have hn' := veil (show ¬ inR (tms a k + a) by rw [unveil hS]; exact hn)
          clear hn
          go_wp2_with (first | (go_at_call 9; refine (has_any _ _ _).mono ?_; rintro e w' ⟨rfl, rfl⟩) | (go_at_call 10; refine (add_out hin ha (unveil hn') _).mono ?_; rintro e w' ⟨rfl, rfl⟩))
          go_round
          case rel => exact ⟨k + 1, by omega, by go_num, Or.inr ⟨by have := unveil hn'; rw [unveil hS] at this; exact this, rfl, rfl⟩⟩
          case measure => simp [intOf]; omega
      · have hkm : k = m := by omega
        subst hkm
        have hg : decide ((k : Int) < (k : Int)) = false := by simp
        go_wp2_with (go_at_call 9; refine (has_any _ _ _).mono ?_; rintro e w' ⟨rfl, rfl⟩)
        refine (mul_in (c := tms a k) ha hmR rfl hin _).mono ?_; rintro e w' ⟨rfl, rfl⟩
        go_wp2_with (go_at_call 9; refine (has_any _ _ _).mono ?_; rintro e w' ⟨rfl, rfl⟩)
        refine (mul_in hone ha (Int.one_mul a) ha _).mono ?_; rintro e w' ⟨rfl, rfl⟩
        go_wp2_with (go_at_call 9; refine (has_any _ _ _).mono ?_; rintro e w' ⟨rfl, rfl⟩)
        go_ret
        exact ⟨rfl, Grown.refl _⟩
    · have ho := veil (tms_out a k m hk hout)
      by_cases hlt : k < m
      · go_wp2_with (go_at_call 9; refine (has_any _ _ _).mono ?_; rintro e w' ⟨rfl, rfl⟩)
        refine (mul_out (c := tms a m) ha hmR rfl (unveil ho) _).mono ?_; rintro e w' ⟨rfl, rfl⟩
        go_wp2_with (go_at_call 9; refine (has_any _ _ _).mono ?_; rintro e w' ⟨rfl, rfl⟩)
        refine (mul_in hone ha (Int.one_mul a) ha _).mono ?_; rintro e w' ⟨rfl, rfl⟩
        go_wp2_with (go_at_call 9; refine (has_any _ _ _).mono ?_; rintro e w' ⟨rfl, rfl⟩)
        go_ret
        exact ⟨rfl, Grown.refl _⟩
      · have hg : decide ((k : Int) < (m : Int)) = false := by simp; omega
        go_wp2_with (go_at_call 9; refine (has_any _ _ _).mono ?_; rintro e w' ⟨rfl, rfl⟩)
        refine (mul_out (c := tms a m) ha hmR rfl (unveil ho) _).mono ?_; rintro e w' ⟨rfl, rfl⟩
        go_wp2_with (go_at_call 9; refine (has_any _ _ _).mono ?_; rintro e w' ⟨rfl, rfl⟩)
        refine (mul_in hone ha (Int.one_mul a) ha _).mono ?_; rintro e w' ⟨rfl, rfl⟩
        go_wp2_with (go_at_call 9; refine (has_any _ _ _).mono ?_; rintro e w' ⟨rfl, rfl⟩)
        go_ret
        exact ⟨rfl, Grown.refl _⟩

theorem numTimes_walk (a n : Int) (ha : inR a) (w : World) :
    Calls Try.prog 3 #[.int .i64 a, .int .i64 n] w fun e w' => e = .returned (.bool true) ∧ Grown w w' := by
  by_cases h : n < 0 ∨ 300 < n
  · exact numTimes_else a n h w
  · obtain ⟨m, rfl⟩ := Int.eq_ofNat_of_zero_le (show 0 ≤ n by omega)
    exact numTimes_main a m ha (by omega) w

end Go.Proofs.Ytookmgjnacbdkaa
