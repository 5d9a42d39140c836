/-
  WALK: NumSums.
-/
import Derived.Test.YtookmgjnacbdkabWRefAdd
import Derived.Test.YtookmgjnacbdkabWForms
namespace Go.Proofs.Ytookmgjnacbdkab
open Go.RowKit

theorem abs_any (a : Int) (ha : inR a) (w : World) :
    Calls Try.prog 23 #[.int .i64 a] w fun e w' => e = .returned (.tuple #[.int .i64 (fitV (absI a)), .int .i64 (fitF (absI a))]) ∧ w' = w := by
  by_cases h : a < 0
  · rw [absI_neg h]
    have hn := veil (neg_any a ha w)
    go_enter Try.func23, Try.ntmps23
    go_wp2_with fail
    refine (unveil hn).mono ?_; rintro e w' ⟨rfl, rfl⟩
    go_wp2_with fail
    go_ret2
    exact ⟨rfl, rfl⟩
  · rw [absI_pos h, fitV_in ha, fitF_in ha]
    have h' : decide (a < 0) = false := by simpa using h
    go_enter Try.func23, Try.ntmps23
    go_wp2_with fail
    go_ret2
    exact ⟨rfl, rfl⟩

theorem numSums_walk (a b : Int) (ha : inR a) (hb : inR b) (w : World) :
    Calls Try.prog 6 #[.int .i64 a, .int .i64 b] w fun e w' => e = .returned (.bool true) ∧ Below w.heap.size w w' := by
  go_enter Try.func6, Try.ntmps6
  go_wp2_with fail
  refine (add_any a b ha hb _).mono ?_; rintro e w1 ⟨rfl, rfl⟩
  go_wp2_with fail
  refine (refAdd_any a b ha hb _).mono ?_; rintro e w2 ⟨rfl, hb2⟩
  go_wp2_with fail
  refine (sub_any a b ha hb _).mono ?_; rintro e w3 ⟨rfl, rfl⟩
  go_wp2_with fail
  refine (refSub_any a b ha hb _).mono ?_; rintro e w4 ⟨rfl, hb4⟩
  go_wp2_with fail
  refine (neg_any a ha _).mono ?_; rintro e w5 ⟨rfl, rfl⟩
  go_wp2_with fail
  refine (refNeg_any a ha _).mono ?_; rintro e w6 ⟨rfl, hb6⟩
  go_wp2_with fail
  refine (abs_any a ha _).mono ?_; rintro e w7 ⟨rfl, rfl⟩
  go_wp2_with fail
  refine (refAbs_any a ha _).mono ?_; rintro e w8 ⟨rfl, hb8⟩
  go_wp2_with fail
  go_ret
  exact ⟨rfl, chain (chain (chain hb2 (Nat.le_refl _) hb4) (Nat.le_refl _) hb6) (Nat.le_refl _) hb8⟩

end Go.Proofs.Ytookmgjnacbdkab
