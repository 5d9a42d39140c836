/-
  WALKS: Add (the document's).
-/
import Derived.Test.YtpeglcnenagkbaaDoorWCal7
namespace Go.Proofs.YtpeglcnenagkbaaDoor
open Go.RowKit
open Cal
set_option linter.unusedVariables false
set_option linter.unusedSimpArgs false

abbrev rAddCall (y m d N u n : Int) (w : World) (Q : Ending → World → Prop) : Prop :=
  Calls Tryd.prog 44 #[.agg #[.int .i64 y, .int .i64 m, .int .i64 d], .agg #[.int .i64 N, .int .i64 u], .int .i64 n] w Q

set_option maxHeartbeats 2000000 in
theorem rAdd_arg (y m d N u n : Int) (w : World) (t : tenB N u = false) : rAddCall y m d N u n w fun e w' => e = .returned (.tuple #[.agg #[.int .i64 0, .int .i64 0, .int .i64 0], .int .i64 1]) ∧ Below w.heap.size w w' := by
  go_enter Tryd.func44, Tryd.ntmps44
  go_wp2_with (go_at_call 42; refine (validTenor_any _ _ _).mono ?_; rintro e w1 ⟨rfl, b1⟩; rw [t]; obtain ⟨c0, c1, c2, c3, c4, c5, c6, c7, f5, f6, f7, z1⟩ := boxesA b1)
  exact bodyPost_ret (v := .tuple #[.agg #[.int .i64 0, .int .i64 0, .int .i64 0], .int .i64 1]) (by simp [results, Tryd.results44, go_sem, c5, c6, c7]) rfl ⟨rfl, (((((((Below.refl _ _).alloc (Nat.le_refl _) _).alloc (by simp) _).alloc (by simp; omega) _).trans (b1.mono (by simp; omega))).setCell (by simp; omega) _).setCell (by simp; omega) _).setCell (by simp; omega) _⟩

set_option maxHeartbeats 2000000 in
theorem rAdd_date (y m d N u n : Int) (w : World) (t : tenB N u = true) (h : exB y m d = false) : rAddCall y m d N u n w fun e w' => e = .returned (.tuple #[.agg #[.int .i64 0, .int .i64 0, .int .i64 0], .int .i64 21]) ∧ Below w.heap.size w w' := by
  go_enter Tryd.func44, Tryd.ntmps44
  go_wp2_with (first
    | (go_at_call 42; refine (validTenor_any _ _ _).mono ?_; rintro e w1 ⟨rfl, b1⟩; rw [t]; obtain ⟨c0, c1, c2, c3, c4, c5, c6, c7, f5, f6, f7, z1⟩ := boxesA b1)
    | (go_at_call 43; refine (refDay_any _ _ _ _).mono ?_; rintro e w2 ⟨rfl, h2⟩; rw [(day_f h).1, (day_f h).2]; have b2 := b1.trans (h2.mono b1.size); clear c0 c1 c2 c3 c4 c5 c6 c7 f5 f6 f7 z1; obtain ⟨c0, c1, c2, c3, c4, c5, c6, c7, f5, f6, f7, z1⟩ := boxesA b2))
  exact bodyPost_ret (v := .tuple #[.agg #[.int .i64 0, .int .i64 0, .int .i64 0], .int .i64 21]) (by simp [results, Tryd.results44, go_sem, c5, c6, c7]) rfl ⟨rfl, (((((((Below.refl _ _).alloc (Nat.le_refl _) _).alloc (by simp) _).alloc (by simp; omega) _).trans (b2.mono (by simp; omega))).setCell (by simp; omega) _).setCell (by simp; omega) _).setCell (by simp; omega) _⟩

set_option maxHeartbeats 2000000 in
theorem rAdd_far (y m d N u n : Int) (w : World) (t : tenB N u = true) (h : exB y m d = true) (f : 109573 < n ∨ n < -109573) : rAddCall y m d N u n w fun e w' => e = .returned (.tuple #[.agg #[.int .i64 0, .int .i64 0, .int .i64 0], .int .i64 2]) ∧ Below w.heap.size w w' := by
  rcases f with f | f
  · go_enter Tryd.func44, Tryd.ntmps44
    go_wp2_with (first
      | (go_at_call 42; refine (validTenor_any _ _ _).mono ?_; rintro e w1 ⟨rfl, b1⟩; rw [t]; obtain ⟨c0, c1, c2, c3, c4, c5, c6, c7, f5, f6, f7, z1⟩ := boxesA b1)
      | (go_at_call 43; refine (refDay_any _ _ _ _).mono ?_; rintro e w2 ⟨rfl, h2⟩; rw [(day_t h).1, (day_t h).2]; have b2 := b1.trans (h2.mono b1.size); clear c0 c1 c2 c3 c4 c5 c6 c7 f5 f6 f7 z1; obtain ⟨c0, c1, c2, c3, c4, c5, c6, c7, f5, f6, f7, z1⟩ := boxesA b2))
    exact bodyPost_ret (v := .tuple #[.agg #[.int .i64 0, .int .i64 0, .int .i64 0], .int .i64 2]) (by simp [results, Tryd.results44, go_sem, c5, c6, c7]) rfl ⟨rfl, (((((((Below.refl _ _).alloc (Nat.le_refl _) _).alloc (by simp) _).alloc (by simp; omega) _).trans (b2.mono (by simp; omega))).setCell (by simp; omega) _).setCell (by simp; omega) _).setCell (by simp; omega) _⟩
  · have g : ¬ 109573 < n := by omega
    go_enter Tryd.func44, Tryd.ntmps44
    go_wp2_with (first
      | (go_at_call 42; refine (validTenor_any _ _ _).mono ?_; rintro e w1 ⟨rfl, b1⟩; rw [t]; obtain ⟨c0, c1, c2, c3, c4, c5, c6, c7, f5, f6, f7, z1⟩ := boxesA b1)
      | (go_at_call 43; refine (refDay_any _ _ _ _).mono ?_; rintro e w2 ⟨rfl, h2⟩; rw [(day_t h).1, (day_t h).2]; have b2 := b1.trans (h2.mono b1.size); clear c0 c1 c2 c3 c4 c5 c6 c7 f5 f6 f7 z1; obtain ⟨c0, c1, c2, c3, c4, c5, c6, c7, f5, f6, f7, z1⟩ := boxesA b2))
    exact bodyPost_ret (v := .tuple #[.agg #[.int .i64 0, .int .i64 0, .int .i64 0], .int .i64 2]) (by simp [results, Tryd.results44, go_sem, c5, c6, c7]) rfl ⟨rfl, (((((((Below.refl _ _).alloc (Nat.le_refl _) _).alloc (by simp) _).alloc (by simp; omega) _).trans (b2.mono (by simp; omega))).setCell (by simp; omega) _).setCell (by simp; omega) _).setCell (by simp; omega) _⟩

set_option maxHeartbeats 2000000 in
theorem rAdd_u1_yes (y m d N n : Int) (w : World) (t : tenB N 1 = true) (h : exB y m d = true) (f1 : n ≤ 109573) (f2 : -109573 ≤ n) (k1 : 0 ≤ num y m d + N * n) (k2 : num y m d + N * n < 109573) : rAddCall y m d N 1 n w fun e w' => ∃ Y M D : Int, e = .returned (.tuple #[.agg #[.int .i64 Y, .int .i64 M, .int .i64 D], .int .i64 0]) ∧ exB Y M D = true ∧ num Y M D = num y m d + N * n ∧ Below w.heap.size w w' := by
  obtain ⟨t1, t2, t3, t4⟩ := ten_out t
  have pb := prod_bd t1 t2 f1 f2
  have nb := num_bd h
  obtain ⟨n1, n2, _, _⟩ := nb
  have q1 : -1000000000 ≤ N * n := by omega
  have q2 : N * n ≤ 1000000000 := by omega
  go_enter Tryd.func44, Tryd.ntmps44
  go_wp2_with (first
    | (go_at_call 42; refine (validTenor_any _ _ _).mono ?_; rintro e w1 ⟨rfl, b1⟩; rw [t]; obtain ⟨c0, c1, c2, c3, c4, c5, c6, c7, f5, f6, f7, z1⟩ := boxesA b1)
    | (go_at_call 43; refine (refDay_any _ _ _ _).mono ?_; rintro e w2 ⟨rfl, h2⟩; rw [(day_t h).1, (day_t h).2]; have b2 := b1.trans (h2.mono b1.size); clear c0 c1 c2 c3 c4 c5 c6 c7 f5 f6 f7 z1; obtain ⟨c0, c1, c2, c3, c4, c5, c6, c7, f5, f6, f7, z1⟩ := boxesA b2)
    | (go_at_call 59; refine (refDate_yes _ _ k1 k2).mono ?_; rintro e w4 ⟨Y, M, D, rfl, he, hn, h4⟩; have b4 := b2.trans (h4.mono b2.size); clear c0 c1 c2 c3 c4 c5 c6 c7 f5 f6 f7 z1; obtain ⟨c0, c1, c2, c3, c4, c5, c6, c7, f5, f6, f7, z1⟩ := boxesA b4))
  exact bodyPost_ret (v := .tuple #[.agg #[.int .i64 Y, .int .i64 M, .int .i64 D], .int .i64 0]) (by simp [results, Tryd.results44, go_sem, c5, c6, c7]) rfl ⟨Y, M, D, rfl, he, hn, (((((((Below.refl _ _).alloc (Nat.le_refl _) _).alloc (by simp) _).alloc (by simp; omega) _).trans (b4.mono (by simp; omega))).setCell (by simp; omega) _).setCell (by simp; omega) _).setCell (by simp; omega) _⟩

set_option maxHeartbeats 2000000 in
theorem rAdd_u1_no (y m d N n : Int) (w : World) (t : tenB N 1 = true) (h : exB y m d = true) (f1 : n ≤ 109573) (f2 : -109573 ≤ n) (k : num y m d + N * n < 0 ∨ 109573 ≤ num y m d + N * n) : rAddCall y m d N 1 n w fun e w' => e = .returned (.tuple #[.agg #[.int .i64 0, .int .i64 0, .int .i64 0], .int .i64 2]) ∧ Below w.heap.size w w' := by
  obtain ⟨t1, t2, t3, t4⟩ := ten_out t
  have pb := prod_bd t1 t2 f1 f2
  have nb := num_bd h
  obtain ⟨n1, n2, _, _⟩ := nb
  have q1 : -1000000000 ≤ N * n := by omega
  have q2 : N * n ≤ 1000000000 := by omega
  go_enter Tryd.func44, Tryd.ntmps44
  go_wp2_with (first
    | (go_at_call 42; refine (validTenor_any _ _ _).mono ?_; rintro e w1 ⟨rfl, b1⟩; rw [t]; obtain ⟨c0, c1, c2, c3, c4, c5, c6, c7, f5, f6, f7, z1⟩ := boxesA b1)
    | (go_at_call 43; refine (refDay_any _ _ _ _).mono ?_; rintro e w2 ⟨rfl, h2⟩; rw [(day_t h).1, (day_t h).2]; have b2 := b1.trans (h2.mono b1.size); clear c0 c1 c2 c3 c4 c5 c6 c7 f5 f6 f7 z1; obtain ⟨c0, c1, c2, c3, c4, c5, c6, c7, f5, f6, f7, z1⟩ := boxesA b2)
    | (go_at_call 59; refine (refDate_no _ _ k).mono ?_; rintro e w4 ⟨rfl, h4⟩; have b4 := b2.trans (h4.mono b2.size); clear c0 c1 c2 c3 c4 c5 c6 c7 f5 f6 f7 z1; obtain ⟨c0, c1, c2, c3, c4, c5, c6, c7, f5, f6, f7, z1⟩ := boxesA b4))
  exact bodyPost_ret (v := .tuple #[.agg #[.int .i64 0, .int .i64 0, .int .i64 0], .int .i64 2]) (by simp [results, Tryd.results44, go_sem, c5, c6, c7]) rfl ⟨rfl, (((((((Below.refl _ _).alloc (Nat.le_refl _) _).alloc (by simp) _).alloc (by simp; omega) _).trans (b4.mono (by simp; omega))).setCell (by simp; omega) _).setCell (by simp; omega) _).setCell (by simp; omega) _⟩

set_option maxHeartbeats 2000000 in
theorem rAdd_u2_yes (y m d N n : Int) (w : World) (t : tenB N 2 = true) (h : exB y m d = true) (f1 : n ≤ 109573) (f2 : -109573 ≤ n) (k1 : 0 ≤ num y m d + 7 * N * n) (k2 : num y m d + 7 * N * n < 109573) : rAddCall y m d N 2 n w fun e w' => ∃ Y M D : Int, e = .returned (.tuple #[.agg #[.int .i64 Y, .int .i64 M, .int .i64 D], .int .i64 0]) ∧ exB Y M D = true ∧ num Y M D = num y m d + 7 * N * n ∧ Below w.heap.size w w' := by
  obtain ⟨t1, t2, t3, t4⟩ := ten_out t
  have pb := prod_bd t1 t2 f1 f2
  have nb := num_bd h
  obtain ⟨n1, n2, _, _⟩ := nb
  have q1 : -1000000000 ≤ 7 * N * n := by rw [prod_k]; omega
  have q2 : 7 * N * n ≤ 1000000000 := by rw [prod_k]; omega
  go_enter Tryd.func44, Tryd.ntmps44
  go_wp2_with (first
    | (go_at_call 42; refine (validTenor_any _ _ _).mono ?_; rintro e w1 ⟨rfl, b1⟩; rw [t]; obtain ⟨c0, c1, c2, c3, c4, c5, c6, c7, f5, f6, f7, z1⟩ := boxesA b1)
    | (go_at_call 43; refine (refDay_any _ _ _ _).mono ?_; rintro e w2 ⟨rfl, h2⟩; rw [(day_t h).1, (day_t h).2]; have b2 := b1.trans (h2.mono b1.size); clear c0 c1 c2 c3 c4 c5 c6 c7 f5 f6 f7 z1; obtain ⟨c0, c1, c2, c3, c4, c5, c6, c7, f5, f6, f7, z1⟩ := boxesA b2)
    | (go_at_call 59; refine (refDate_yes _ _ k1 k2).mono ?_; rintro e w4 ⟨Y, M, D, rfl, he, hn, h4⟩; have b4 := b2.trans (h4.mono b2.size); clear c0 c1 c2 c3 c4 c5 c6 c7 f5 f6 f7 z1; obtain ⟨c0, c1, c2, c3, c4, c5, c6, c7, f5, f6, f7, z1⟩ := boxesA b4))
  exact bodyPost_ret (v := .tuple #[.agg #[.int .i64 Y, .int .i64 M, .int .i64 D], .int .i64 0]) (by simp [results, Tryd.results44, go_sem, c5, c6, c7]) rfl ⟨Y, M, D, rfl, he, hn, (((((((Below.refl _ _).alloc (Nat.le_refl _) _).alloc (by simp) _).alloc (by simp; omega) _).trans (b4.mono (by simp; omega))).setCell (by simp; omega) _).setCell (by simp; omega) _).setCell (by simp; omega) _⟩

set_option maxHeartbeats 2000000 in
theorem rAdd_u2_no (y m d N n : Int) (w : World) (t : tenB N 2 = true) (h : exB y m d = true) (f1 : n ≤ 109573) (f2 : -109573 ≤ n) (k : num y m d + 7 * N * n < 0 ∨ 109573 ≤ num y m d + 7 * N * n) : rAddCall y m d N 2 n w fun e w' => e = .returned (.tuple #[.agg #[.int .i64 0, .int .i64 0, .int .i64 0], .int .i64 2]) ∧ Below w.heap.size w w' := by
  obtain ⟨t1, t2, t3, t4⟩ := ten_out t
  have pb := prod_bd t1 t2 f1 f2
  have nb := num_bd h
  obtain ⟨n1, n2, _, _⟩ := nb
  have q1 : -1000000000 ≤ 7 * N * n := by rw [prod_k]; omega
  have q2 : 7 * N * n ≤ 1000000000 := by rw [prod_k]; omega
  go_enter Tryd.func44, Tryd.ntmps44
  go_wp2_with (first
    | (go_at_call 42; refine (validTenor_any _ _ _).mono ?_; rintro e w1 ⟨rfl, b1⟩; rw [t]; obtain ⟨c0, c1, c2, c3, c4, c5, c6, c7, f5, f6, f7, z1⟩ := boxesA b1)
    | (go_at_call 43; refine (refDay_any _ _ _ _).mono ?_; rintro e w2 ⟨rfl, h2⟩; rw [(day_t h).1, (day_t h).2]; have b2 := b1.trans (h2.mono b1.size); clear c0 c1 c2 c3 c4 c5 c6 c7 f5 f6 f7 z1; obtain ⟨c0, c1, c2, c3, c4, c5, c6, c7, f5, f6, f7, z1⟩ := boxesA b2)
    | (go_at_call 59; refine (refDate_no _ _ k).mono ?_; rintro e w4 ⟨rfl, h4⟩; have b4 := b2.trans (h4.mono b2.size); clear c0 c1 c2 c3 c4 c5 c6 c7 f5 f6 f7 z1; obtain ⟨c0, c1, c2, c3, c4, c5, c6, c7, f5, f6, f7, z1⟩ := boxesA b4))
  exact bodyPost_ret (v := .tuple #[.agg #[.int .i64 0, .int .i64 0, .int .i64 0], .int .i64 2]) (by simp [results, Tryd.results44, go_sem, c5, c6, c7]) rfl ⟨rfl, (((((((Below.refl _ _).alloc (Nat.le_refl _) _).alloc (by simp) _).alloc (by simp; omega) _).trans (b4.mono (by simp; omega))).setCell (by simp; omega) _).setCell (by simp; omega) _).setCell (by simp; omega) _⟩
end Go.Proofs.YtpeglcnenagkbaaDoor
