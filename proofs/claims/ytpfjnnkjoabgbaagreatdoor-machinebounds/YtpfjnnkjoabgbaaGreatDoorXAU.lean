import Derived.Test.YtpfjnnkjoabgbaaGreatDoorXAS
namespace Go.Proofs.YtpfjnnkjoabgbaaGreatDoor
open Go.RowKit

theorem tdiv_in (a b : Int) (ha : inR a) (h0 : ¬ b = 0) (h : ¬ (a = -9223372036854775808 ∧ b = -1)) : inR (a.tdiv b) := by
  have h1 : (a.tdiv b).natAbs = a.natAbs / b.natAbs := Int.natAbs_tdiv a b
  have h2 : a.natAbs / b.natAbs ≤ a.natAbs := Nat.div_le_self _ _
  unfold inR at *
  by_cases hb : b = -1
  · subst hb
    rw [Int.tdiv_neg, Int.tdiv_one]; omega
  · by_cases ha' : a = -9223372036854775808
    · by_cases hb1 : b = 1
      · subst hb1; rw [Int.tdiv_one]; omega
      · have h3 : a.natAbs / b.natAbs ≤ a.natAbs / 2 := Nat.div_le_div_left (by omega) (by decide)
        have h4 : a.natAbs = 9223372036854775808 := by rw [ha']; rfl
        omega
    · omega
theorem tdiv_out : ¬ inR ((-9223372036854775808 : Int).tdiv (-1)) := by rw [Int.tdiv_neg, Int.tdiv_one]; unfold inR; omega
theorem tmod_in (a b : Int) (ha : inR a) : inR (a.tmod b) := by
  have h1 : (a.tmod b).natAbs = a.natAbs % b.natAbs := Int.natAbs_tmod a b
  have h2 : a.natAbs % b.natAbs ≤ a.natAbs := Nat.mod_le _ _
  have h3 : a < 0 → a.tmod b ≤ 0 := fun h => by
    have := Int.neg_tmod (-a) b
    rw [Int.neg_neg] at this
    have h4 := Int.tmod_nonneg b (show 0 ≤ -a by omega)
    omega
  unfold inR at *
  by_cases h : a < 0
  · have := h3 h; omega
  · have h4 := Int.tmod_nonneg b (show 0 ≤ a by omega); omega

/-- What Div and Mod tell. -/
def divV (a b : Int) : Int := if b = 0 then 0 else fitV (a.tdiv b)
def divF (a b : Int) : Int := if b = 0 then 2 else fitF (a.tdiv b)
def modV (a b : Int) : Int := if b = 0 then 0 else a.tmod b
def modF (b : Int) : Int := if b = 0 then 2 else 0

theorem div_any (a b : Int) (ha : inR a) (w : World) :
    Calls Tryz.prog 117 #[.int .i64 a, .int .i64 b] w fun e w' => e = .returned (.tuple #[.int .i64 (divV a b), .int .i64 (divF a b)]) ∧ w' = w := by
  unfold divV divF
  by_cases h0 : b = 0
  · rw [if_pos h0, if_pos h0]
    subst h0
    go_enter Tryz.func117, Tryz.ntmps117
    go_wp2
    go_ret2
    exact ⟨rfl, rfl⟩
  · rw [if_neg h0, if_neg h0]
    by_cases h1 : a = -9223372036854775808
    · by_cases h2 : b = -1
      · subst h1 h2
        rw [fitV_out tdiv_out, fitF_out tdiv_out]
        go_enter Tryz.func117, Tryz.ntmps117
        go_wp2
        go_ret2
        exact ⟨rfl, rfl⟩
      · have hi := tdiv_in a b ha h0 (fun c => h2 c.2)
        subst h1
        rw [fitV_in hi, fitF_in hi]
        have e0 : (b == 0) = false := by simp [h0]
        have e2 : (b == -1) = false := by simp [h2]
        have hw := veil (wrap64_id hi)
        clear hi
        go_enter Tryz.func117, Tryz.ntmps117
        go_wp2
        go_ret2
        exact ⟨ret_ii (by rw [← Int.neg_tdiv]; exact unveil hw) rfl, rfl⟩
    · have hi := tdiv_in a b ha h0 (fun c => h1 c.1)
      rw [fitV_in hi, fitF_in hi]
      have e0 : (b == 0) = false := by simp [h0]
      have e1 : (a == -9223372036854775808) = false := by simp [h1]
      have hw := veil (wrap64_id hi)
      clear hi
      go_enter Tryz.func117, Tryz.ntmps117
      go_wp2
      go_ret2
      exact ⟨ret_ii (unveil hw) rfl, rfl⟩

theorem mod_any (a b : Int) (w : World) :
    Calls Tryz.prog 118 #[.int .i64 a, .int .i64 b] w fun e w' => e = .returned (.tuple #[.int .i64 (modV a b), .int .i64 (modF b)]) ∧ w' = w := by
  unfold modV modF
  by_cases h0 : b = 0
  · rw [if_pos h0, if_pos h0]
    subst h0
    go_enter Tryz.func118, Tryz.ntmps118
    go_wp2
    go_ret2
    exact ⟨rfl, rfl⟩
  · rw [if_neg h0, if_neg h0]
    have e0 : (b == 0) = false := by simp [h0]
    go_enter Tryz.func118, Tryz.ntmps118
    go_wp2
    go_ret2
    exact ⟨rfl, rfl⟩

end Go.Proofs.YtpfjnnkjoabgbaaGreatDoor
