/-
  WALK: NumTexts.
-/
import Derived.Test.YtaeppjnnddakfaaDoorPlainText
namespace Go.Proofs.YtaeppjnnddakfaaDoor
open Go.RowKit
set_option linter.unusedVariables false

theorem numTexts_walk (v p : Int) (hv : inR v) (hp : inR p) (w : World) (ht : Pows w) :
    Calls Tryd.prog 3 #[.int .i64 v, .int .i64 p] w fun e w' => e = .returned (.bool true) ∧ Below w.heap.size w w' := by
  by_cases h : 0 ≤ p ∧ p ≤ 18
  · obtain ⟨n, rfl⟩ : ∃ n : Nat, p = n := ⟨p.toNat, by omega⟩
    obtain ⟨u, hu⟩ : ∃ u : Nat, absI v = u := ⟨(absI v).toNat, by have := absI_bd v hv; omega⟩
    have A := veil (text_in v hv u hu n (by omega) w ht)
    have B := veil (refText_in v hv n (by omega))
    have HU := veil hu
    obtain ⟨s, hs⟩ : ∃ s, decS (decide (v < 0)) n (Lib.decDigits u) = s := ⟨_, rfl⟩
    rw [hs] at A
    have HS := veil hs
    clear hs hu h ht hp
    go_enter Tryd.func3, Tryd.ntmps3
    go_wp2_with (first | (go_at_call 6; refine (unveil A).mono ?_; rintro e w1 ⟨rfl, hb1⟩) | (go_at_call 7; refine (unveil B _).mono ?_; rintro e w2 ⟨ds, rfl, hb2, h1, h2, h3⟩; rw [← texts_one h1 h2 (h3.trans (unveil HU)), unveil HS]; clear h1 h2 h3))
    go_ret
    exact ⟨by simp, hb1.trans (hb2.mono hb1.size)⟩
  · have A := veil (text_out v p h)
    have B := veil (refText_out v p h)
    clear h ht
    go_enter Tryd.func3, Tryd.ntmps3
    go_wp2_with (first | (go_at_call 6; refine (unveil A _).mono ?_; rintro e w1 ⟨rfl, rfl⟩) | (go_at_call 7; refine (unveil B _).mono ?_; rintro e w2 ⟨rfl, rfl⟩))
    go_ret
    exact ⟨by simp, Below.refl _ _⟩

end Go.Proofs.YtaeppjnnddakfaaDoor
