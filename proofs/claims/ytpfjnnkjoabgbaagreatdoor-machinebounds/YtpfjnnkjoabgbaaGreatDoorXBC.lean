import Derived.Test.YtpfjnnkjoabgbaaGreatDoorXAU
import Derived.Test.YtpfjnnkjoabgbaaGreatDoorXAS
namespace Go.Proofs.YtpfjnnkjoabgbaaGreatDoor
open Go.RowKit
theorem absM_any (a : Int) (ha : inR a) (w : World) :
    Calls Tryz.prog 119 #[.int .i64 a] w fun e w' => e = .returned (.tuple #[.int .i64 (fitV (absI a)), .int .i64 (fitF (absI a))]) ∧ w' = w := by
  by_cases h : a < 0
  · rw [absI_neg h]
    have hn := veil (neg_any a ha w)
    go_enter Tryz.func119, Tryz.ntmps119
    go_wp2_with fail
    refine (unveil hn).mono ?_; rintro e w' ⟨rfl, rfl⟩
    go_wp2_with fail
    go_ret2
    exact ⟨rfl, rfl⟩
  · rw [absI_pos h, fitV_in ha, fitF_in ha]
    have h' : decide (a < 0) = false := by simpa using h
    go_enter Tryz.func119, Tryz.ntmps119
    go_wp2_with fail
    go_ret2
    exact ⟨rfl, rfl⟩
theorem modV_inM (a b : Int) (ha : inR a) : inR (modV a b) := by
  unfold modV
  split
  · exact ⟨by omega, by omega⟩
  · exact tmod_in a b ha
end Go.Proofs.YtpfjnnkjoabgbaaGreatDoor
