/-
  WALK: the law CalOne.
-/
import Derived.Test.YtceomklkicpmoaaDoorWCal4
namespace Go.Proofs.YtceomklkicpmoaaDoor
open Go.RowKit
open Cal
set_option linter.unusedVariables false
set_option linter.unusedSimpArgs false

theorem numE_any (e : Int) (w : World) : Calls Tryd.prog 12 #[.int .i64 e] w fun r w' => r = .returned (.int .i64 e) ∧ w' = w := by
  go_enter Tryd.func12, Tryd.ntmps12
  go_wp2
  go_ret
  exact ⟨rfl, rfl⟩

set_option maxHeartbeats 2000000 in
theorem calOne_walk (y m d : Int) (w : World) (hM : Mon w) :
    Calls Tryd.prog 5 #[.agg #[.int .i64 y, .int .i64 m, .int .i64 d]] w fun e w' => e = .returned (.bool true) ∧ Below w.heap.size w w' := by
  have F1 := Lib.hid (p := dayV 1900 1 1 = 0 ∧ dayE 1900 1 1 = 0) (by decide)
  have F2 := Lib.hid (p := dayV 2199 12 31 = 109572 ∧ dayE 2199 12 31 = 0) (by decide)
  cases h : exB y m d with
  | false =>
    have F0 := Lib.hid (day_f h)
    go_enter Tryd.func5, Tryd.ntmps5
    go_wp2_with (first
      | (go_at_call 12; refine (numE_any _ _).mono ?_; rintro e w' ⟨rfl, rfl⟩)
      | (go_at_call 14; (first
        | (have q := b2; refine (day_any _ _ _ _ m2).mono ?_; rintro e w3 ⟨rfl, h3⟩; have b3 := b2.trans (h3.mono b2.size); rw [F2.out.1, F2.out.2])
        | (have q := b1; refine (day_any _ _ _ _ m1).mono ?_; rintro e w2 ⟨rfl, h2⟩; have b2 := b1.trans (h2.mono b1.size); have m2 := mon_below (Nat.le_refl _) h2 m1; rw [F1.out.1, F1.out.2])
        | (refine (day_any _ _ _ _ (mon_alloc hM)).mono ?_; rintro e w1 ⟨rfl, b1⟩; have m1 := mon_below (Nat.le_refl _) b1 (mon_alloc hM); rw [F0.out.1, F0.out.2]))))
    go_ret
    exact ⟨rfl, ((Below.refl _ _).alloc (Nat.le_refl _) _).trans (b3.mono (by simp))⟩
  | true =>
    have F0 := Lib.hid (day_t h)
    have nb := num_bd h
    obtain ⟨n1, n2, _, _⟩ := nb
    go_enter Tryd.func5, Tryd.ntmps5
    go_wp2_with (first
      | (go_at_call 12; refine (numE_any _ _).mono ?_; rintro e w' ⟨rfl, rfl⟩)
      | (go_at_call 14; (first
        | (have q := b2; refine (day_any _ _ _ _ m2).mono ?_; rintro e w3 ⟨rfl, h3⟩; have b3 := b2.trans (h3.mono b2.size); have m3 := mon_below (Nat.le_refl _) h3 m2; rw [F2.out.1, F2.out.2])
        | (have q := b1; refine (day_any _ _ _ _ m1).mono ?_; rintro e w2 ⟨rfl, h2⟩; have b2 := b1.trans (h2.mono b1.size); have m2 := mon_below (Nat.le_refl _) h2 m1; rw [F1.out.1, F1.out.2])
        | (refine (day_any _ _ _ _ (mon_alloc hM)).mono ?_; rintro e w1 ⟨rfl, b1⟩; have m1 := mon_below (Nat.le_refl _) b1 (mon_alloc hM); rw [F0.out.1, F0.out.2])))
      | (go_at_call 15; refine (date_yes _ _ m3 n1 (by omega)).mono ?_; rintro e w4 ⟨y', m', d', rfl, he, hn, h4⟩; obtain ⟨rfl, rfl, rfl⟩ := num_inj he h hn; have b4 := b3.trans (h4.mono b3.size); obtain ⟨k0, k1, k2⟩ := boxOne b4; have hz : w.heap.size < w4.heap.size := (by have := b4.size; simp at this; omega)))
    go_ret
    exact ⟨rfl, (((Below.refl _ _).alloc (Nat.le_refl _) _).trans (b4.mono (by simp))).alloc (by omega) _⟩
end Go.Proofs.YtceomklkicpmoaaDoor
