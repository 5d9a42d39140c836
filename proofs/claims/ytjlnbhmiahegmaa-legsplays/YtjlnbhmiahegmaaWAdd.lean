/-
  WALKS: num.Add, num.Sub, num.Neg: each by its contract.
-/
import Derived.Test.YtjlnbhmiahegmaaRows
import Derived.WalkKit
import Derived.WalkSpells
import Derived.Test.YtjlnbhmiahegmaaPlainMul
namespace Go.Proofs.Ytjlnbhmiahegmaa
open Go.RowKit

theorem add_any (a b : Int) (ha : inR a) (hb : inR b) (w : World) :
    Calls Try.prog 72 #[.int .i64 a, .int .i64 b] w fun e w' => e = .returned (.tuple #[.int .i64 (fitV (a + b)), .int .i64 (fitF (a + b))]) ∧ w' = w := by
  have ht := add_test a b ha hb
  by_cases h : inR (a + b)
  · rw [fitV_in h, fitF_in h]
    rw [wrap64_id h] at ht
    have h1 : ¬ (bits .and .i64 (bits .xor .i64 a (a + b)) (bits .xor .i64 b (a + b)) < 0) := fun c => ht.1 c h
    clear ht
    unfold inR at h
    obtain ⟨h2, h3⟩ := h
    go_enter Try.func72, Try.ntmps72
    go_wp2
    go_ret2
    exact ⟨rfl, rfl⟩
  · rw [fitV_out h, fitF_out h]
    have h1 := ht.2 h
    clear ht h
    go_enter Try.func72, Try.ntmps72
    go_wp2
    go_ret2
    exact ⟨rfl, rfl⟩

theorem sub_any (a b : Int) (ha : inR a) (hb : inR b) (w : World) :
    Calls Try.prog 73 #[.int .i64 a, .int .i64 b] w fun e w' => e = .returned (.tuple #[.int .i64 (fitV (a - b)), .int .i64 (fitF (a - b))]) ∧ w' = w := by
  have ht := sub_test a b ha hb
  by_cases h : inR (a - b)
  · rw [fitV_in h, fitF_in h]
    rw [wrap64_id h] at ht
    have h1 : ¬ (bits .and .i64 (bits .xor .i64 a b) (bits .xor .i64 a (a - b)) < 0) := fun c => ht.1 c h
    clear ht
    unfold inR at h
    obtain ⟨h2, h3⟩ := h
    go_enter Try.func73, Try.ntmps73
    go_wp2
    go_ret2
    exact ⟨rfl, rfl⟩
  · rw [fitV_out h, fitF_out h]
    have h1 := ht.2 h
    clear ht h
    go_enter Try.func73, Try.ntmps73
    go_wp2
    go_ret2
    exact ⟨rfl, rfl⟩

theorem neg_any (a : Int) (ha : inR a) (w : World) :
    Calls Try.prog 70 #[.int .i64 a] w fun e w' => e = .returned (.tuple #[.int .i64 (fitV (-a)), .int .i64 (fitF (-a))]) ∧ w' = w := by
  have hs := sub_any 0 a (by unfold inR; omega) ha w
  rw [Int.zero_sub] at hs
  go_enter Try.func70, Try.ntmps70
  go_wp2_with (go_at_call 73; refine hs.mono ?_; rintro e w' ⟨rfl, rfl⟩)
  go_ret2
  exact ⟨rfl, rfl⟩

end Go.Proofs.Ytjlnbhmiahegmaa
