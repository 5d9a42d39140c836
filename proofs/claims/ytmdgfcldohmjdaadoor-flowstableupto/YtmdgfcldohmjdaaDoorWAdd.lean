/-
  WALKS: num.Add, num.Sub, num.Neg: each by its contract.
-/
import Derived.Test.YtmdgfcldohmjdaaDoorRows
import Derived.WalkKit
import Derived.WalkSpells
import Derived.Test.YtmdgfcldohmjdaaDoorPlainMul
namespace Go.Proofs.YtmdgfcldohmjdaaDoor
open Go.RowKit

theorem add_any (a b : Int) (ha : inR a) (hb : inR b) (w : World) :
    Calls Tryd.prog 43 #[.int .i64 a, .int .i64 b] w fun e w' => e = .returned (.tuple #[.int .i64 (fitV (a + b)), .int .i64 (fitF (a + b))]) ∧ w' = w := by
  have ht := add_test a b ha hb
  by_cases h : inR (a + b)
  · rw [fitV_in h, fitF_in h]
    rw [wrap64_id h] at ht
    have h1 : ¬ (bits .and .i64 (bits .xor .i64 a (a + b)) (bits .xor .i64 b (a + b)) < 0) := fun c => ht.1 c h
    clear ht
    unfold inR at h
    obtain ⟨h2, h3⟩ := h
    go_enter Tryd.func43, Tryd.ntmps43
    go_wp2
    go_ret2
    exact ⟨rfl, rfl⟩
  · rw [fitV_out h, fitF_out h]
    have h1 := ht.2 h
    clear ht h
    go_enter Tryd.func43, Tryd.ntmps43
    go_wp2
    go_ret2
    exact ⟨rfl, rfl⟩

end Go.Proofs.YtmdgfcldohmjdaaDoor
