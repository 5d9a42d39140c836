/-
  WALKS: Add (the program's).
-/
import Derived.Test.YtpeglcnenagkbaaDoorWCal6
namespace Go.Proofs.YtpeglcnenagkbaaDoor
open Go.RowKit
open Cal
set_option linter.unusedVariables false
set_option linter.unusedSimpArgs false

abbrev boxA (w : World) (t t' : TypeId) (y m d N u : Int) : World :=
  ((w.alloc (.cells #[.int .i64 y, .int .i64 m, .int .i64 d] t)).alloc (.cells #[.int .i64 N, .int .i64 u] t')).alloc (.cells #[.int .i64 0, .int .i64 0, .int .i64 0] t)
/-- What the three boxes hold later. -/
structure InA (w w2 : World) (y m d N u : Int) : Prop where
  c0 : w2.cell? ⟨w.heap.size, 0, none⟩ = some (.int .i64 y)
  c1 : w2.cell? ⟨w.heap.size, 1, none⟩ = some (.int .i64 m)
  c2 : w2.cell? ⟨w.heap.size, 2, none⟩ = some (.int .i64 d)
  c3 : w2.cell? ⟨w.heap.size + 1, 0, none⟩ = some (.int .i64 N)
  c4 : w2.cell? ⟨w.heap.size + 1, 1, none⟩ = some (.int .i64 u)
  c5 : w2.cell? ⟨w.heap.size + 1 + 1, 0, none⟩ = some (.int .i64 0)
  c6 : w2.cell? ⟨w.heap.size + 1 + 1, 1, none⟩ = some (.int .i64 0)
  c7 : w2.cell? ⟨w.heap.size + 1 + 1, 2, none⟩ = some (.int .i64 0)
  f5 : w2.frozen? ⟨w.heap.size + 1 + 1, 0, none⟩ = false
  f6 : w2.frozen? ⟨w.heap.size + 1 + 1, 1, none⟩ = false
  f7 : w2.frozen? ⟨w.heap.size + 1 + 1, 2, none⟩ = false
  sz : w.heap.size + 1 + 1 < w2.heap.size
theorem boxesA {w w2 : World} {t t' : TypeId} {y m d N u : Int} (hb : Below (boxA w t t' y m d N u).heap.size (boxA w t t' y m d N u) w2) : InA w w2 y m d N u := by
  obtain ⟨hc, hf⟩ := bcell hb
  refine ⟨?_, ?_, ?_, ?_, ?_, ?_, ?_, ?_, ?_, ?_, ?_, ?_⟩
  all_goals first
    | (rw [hc _ _ (by simp <;> omega)]; go_simp; done)
    | (rw [hf _ _ (by simp <;> omega)]; go_simp; done)
    | (have := hb.size; simp at this; omega)

abbrev addCall (y m d N u n : Int) (w : World) (Q : Ending → World → Prop) : Prop :=
  Calls Tryd.prog 19 #[.agg #[.int .i64 y, .int .i64 m, .int .i64 d], .agg #[.int .i64 N, .int .i64 u], .int .i64 n] w Q

set_option maxHeartbeats 2000000 in
theorem add_arg (y m d N u n : Int) (w : World) (hM : Mon w) (t : tenB N u = false) : addCall y m d N u n w fun e w' => e = .returned (.tuple #[.agg #[.int .i64 0, .int .i64 0, .int .i64 0], .int .i64 1]) ∧ Below w.heap.size w w' := by
  go_enter Tryd.func19, Tryd.ntmps19
  go_wp2_with (go_at_call 32; refine (isTenor_any _ _ _).mono ?_; rintro e w1 ⟨rfl, b1⟩; rw [t]; obtain ⟨c0, c1, c2, c3, c4, c5, c6, c7, f5, f6, f7, z1⟩ := boxesA b1; have m1 := mon_below (Nat.le_refl _) b1 (mon_alloc (mon_alloc (mon_alloc hM))))
  exact bodyPost_ret (v := .tuple #[.agg #[.int .i64 0, .int .i64 0, .int .i64 0], .int .i64 1]) (by simp [results, Tryd.results19, go_sem, c5, c6, c7]) rfl ⟨rfl, (((((((Below.refl _ _).alloc (Nat.le_refl _) _).alloc (by simp) _).alloc (by simp; omega) _).trans (b1.mono (by simp; omega))).setCell (by simp; omega) _).setCell (by simp; omega) _).setCell (by simp; omega) _⟩

set_option maxHeartbeats 2000000 in
theorem add_date (y m d N u n : Int) (w : World) (hM : Mon w) (t : tenB N u = true) (h : exB y m d = false) : addCall y m d N u n w fun e w' => e = .returned (.tuple #[.agg #[.int .i64 0, .int .i64 0, .int .i64 0], .int .i64 21]) ∧ Below w.heap.size w w' := by
  go_enter Tryd.func19, Tryd.ntmps19
  go_wp2_with (first
    | (go_at_call 32; refine (isTenor_any _ _ _).mono ?_; rintro e w1 ⟨rfl, b1⟩; rw [t]; obtain ⟨c0, c1, c2, c3, c4, c5, c6, c7, f5, f6, f7, z1⟩ := boxesA b1; have m1 := mon_below (Nat.le_refl _) b1 (mon_alloc (mon_alloc (mon_alloc hM))))
    | (go_at_call 37; refine (exists_any _ _ _ _ m1).mono ?_; rintro e w2 ⟨rfl, h2⟩; rw [h]; have b2 := b1.trans (h2.mono b1.size); clear c0 c1 c2 c3 c4 c5 c6 c7 f5 f6 f7 z1; obtain ⟨c0, c1, c2, c3, c4, c5, c6, c7, f5, f6, f7, z1⟩ := boxesA b2; have m2 := mon_below (Nat.le_refl _) h2 m1))
  exact bodyPost_ret (v := .tuple #[.agg #[.int .i64 0, .int .i64 0, .int .i64 0], .int .i64 21]) (by simp [results, Tryd.results19, go_sem, c5, c6, c7]) rfl ⟨rfl, (((((((Below.refl _ _).alloc (Nat.le_refl _) _).alloc (by simp) _).alloc (by simp; omega) _).trans (b2.mono (by simp; omega))).setCell (by simp; omega) _).setCell (by simp; omega) _).setCell (by simp; omega) _⟩

set_option maxHeartbeats 2000000 in
theorem add_far (y m d N u n : Int) (w : World) (hM : Mon w) (t : tenB N u = true) (h : exB y m d = true) (f : 109573 < n ∨ n < -109573) : addCall y m d N u n w fun e w' => e = .returned (.tuple #[.agg #[.int .i64 0, .int .i64 0, .int .i64 0], .int .i64 2]) ∧ Below w.heap.size w w' := by
  rcases f with f | f
  · go_enter Tryd.func19, Tryd.ntmps19
    go_wp2_with (first
      | (go_at_call 32; refine (isTenor_any _ _ _).mono ?_; rintro e w1 ⟨rfl, b1⟩; rw [t]; obtain ⟨c0, c1, c2, c3, c4, c5, c6, c7, f5, f6, f7, z1⟩ := boxesA b1; have m1 := mon_below (Nat.le_refl _) b1 (mon_alloc (mon_alloc (mon_alloc hM))))
      | (go_at_call 37; refine (exists_any _ _ _ _ m1).mono ?_; rintro e w2 ⟨rfl, h2⟩; rw [h]; have b2 := b1.trans (h2.mono b1.size); clear c0 c1 c2 c3 c4 c5 c6 c7 f5 f6 f7 z1; obtain ⟨c0, c1, c2, c3, c4, c5, c6, c7, f5, f6, f7, z1⟩ := boxesA b2; have m2 := mon_below (Nat.le_refl _) h2 m1))
    exact bodyPost_ret (v := .tuple #[.agg #[.int .i64 0, .int .i64 0, .int .i64 0], .int .i64 2]) (by simp [results, Tryd.results19, go_sem, c5, c6, c7]) rfl ⟨rfl, (((((((Below.refl _ _).alloc (Nat.le_refl _) _).alloc (by simp) _).alloc (by simp; omega) _).trans (b2.mono (by simp; omega))).setCell (by simp; omega) _).setCell (by simp; omega) _).setCell (by simp; omega) _⟩
  · have g : ¬ 109573 < n := by omega
    go_enter Tryd.func19, Tryd.ntmps19
    go_wp2_with (first
      | (go_at_call 32; refine (isTenor_any _ _ _).mono ?_; rintro e w1 ⟨rfl, b1⟩; rw [t]; obtain ⟨c0, c1, c2, c3, c4, c5, c6, c7, f5, f6, f7, z1⟩ := boxesA b1; have m1 := mon_below (Nat.le_refl _) b1 (mon_alloc (mon_alloc (mon_alloc hM))))
      | (go_at_call 37; refine (exists_any _ _ _ _ m1).mono ?_; rintro e w2 ⟨rfl, h2⟩; rw [h]; have b2 := b1.trans (h2.mono b1.size); clear c0 c1 c2 c3 c4 c5 c6 c7 f5 f6 f7 z1; obtain ⟨c0, c1, c2, c3, c4, c5, c6, c7, f5, f6, f7, z1⟩ := boxesA b2; have m2 := mon_below (Nat.le_refl _) h2 m1))
    exact bodyPost_ret (v := .tuple #[.agg #[.int .i64 0, .int .i64 0, .int .i64 0], .int .i64 2]) (by simp [results, Tryd.results19, go_sem, c5, c6, c7]) rfl ⟨rfl, (((((((Below.refl _ _).alloc (Nat.le_refl _) _).alloc (by simp) _).alloc (by simp; omega) _).trans (b2.mono (by simp; omega))).setCell (by simp; omega) _).setCell (by simp; omega) _).setCell (by simp; omega) _⟩

theorem prod_bd {N n : Int} (h1 : 1 ≤ N) (h2 : N ≤ 999) (f1 : n ≤ 109573) (f2 : -109573 ≤ n) : -109463427 ≤ N * n ∧ N * n ≤ 109463427 := by
  constructor
  · have a : N * (-109573) ≤ N * n := Int.mul_le_mul_of_nonneg_left f2 (by omega)
    omega
  · have a : N * n ≤ N * 109573 := Int.mul_le_mul_of_nonneg_left f1 (by omega)
    omega
theorem prod_k {N n : Int} (k : Int) : k * N * n = k * (N * n) := Int.mul_assoc k N n

end Go.Proofs.YtpeglcnenagkbaaDoor
