/-
  WALKS: the document's Decode, of any count.
-/
import Derived.Test.YtdbjdieegocdfaaDoorWCodeQ
namespace Go.Proofs.YtdbjdieegocdfaaDoor
open Go.RowKit
set_option linter.unusedVariables false
set_option linter.unusedSimpArgs false

theorem refDecode_any (a : Option Addr) (n cap : Nat) (xs : List Int) (c : Int) (w : World) (h : Sl w a n cap xs) :
    Calls Tryd.prog 10 #[.slice a n cap, .int .i64 c] w fun e w' => DcE w (decA xs c) e w' := by
  by_cases c0 : c < 0
  · have E := Lib.hid (p := decA xs c = ([], 1, 0)) (by unfold decA; rw [if_pos c0])
    clear h
    go_enter Tryd.func10, Tryd.ntmps10
    go_wp2
    go_ret3
    exact ⟨⟨_, by rw [E.out]; rfl, by rw [E.out]; exact owi_nil _ _⟩, Below.refl _ _⟩
  · by_cases c1 : 262144 < c
    · have E := Lib.hid (p := decA xs c = ([], 6, 0)) (by unfold decA; rw [if_neg c0, if_pos c1])
      clear h
      go_enter Tryd.func10, Tryd.ntmps10
      go_wp2
      go_ret3
      exact ⟨⟨_, by rw [E.out]; rfl, by rw [E.out]; exact owi_nil _ _⟩, Below.refl _ _⟩
    · obtain ⟨k, rfl⟩ : ∃ k : Nat, c = (k : Int) := ⟨c.toNat, by omega⟩
      rw [decA_nat (by omega)]
      exact refDecode_in a n cap xs k w h (by omega)
end Go.Proofs.YtdbjdieegocdfaaDoor
