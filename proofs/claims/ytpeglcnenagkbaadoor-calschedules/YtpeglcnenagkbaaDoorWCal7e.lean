/-
  WALKS: Add (the program's), weeks.
-/
import Derived.Test.YtpeglcnenagkbaaDoorWCal7
import Derived.Deep.RegionHeld3
namespace Go.Proofs.YtpeglcnenagkbaaDoor
open Go.RowKit
open Cal
set_option linter.unusedVariables false
set_option linter.unusedSimpArgs false

set_option maxHeartbeats 2000000 in
theorem add_u2_yes (y m d N n : Int) (w : World) (hM : Mon w) (t : tenB N 2 = true) (h : exB y m d = true) (f1 : n ≤ 109573) (f2 : -109573 ≤ n) (k1 : 0 ≤ num y m d + 7 * N * n) (k2 : num y m d + 7 * N * n < 109573) : addCall y m d N 2 n w fun e w' => ∃ Y M D : Int, e = .returned (.tuple #[.agg #[.int .i64 Y, .int .i64 M, .int .i64 D], .int .i64 0]) ∧ exB Y M D = true ∧ num Y M D = num y m d + 7 * N * n ∧ Below w.heap.size w w' := by
  obtain ⟨t1, t2, t3, t4⟩ := ten_out t
  have pb := prod_bd t1 t2 f1 f2
  have nb := num_bd h
  obtain ⟨n1, n2, _, _⟩ := nb
  have q1 : -1000000000 ≤ 7 * N * n := by rw [prod_k]; omega
  have q2 : 7 * N * n ≤ 1000000000 := by rw [prod_k]; omega
  have r1 : -100000000 * 10 ≤ 7 * N := by omega
  have wr : ∀ z : Int, -9223372036854775808 ≤ z → z ≤ 9223372036854775807 → IntKind.i64.wrap z = z := fun z a b => by simp [IntKind.wrap, IntKind.bits, IntKind.signed]; omega
  have hw0 : IntKind.i64.wrap (7 * N) = 7 * N := wr _ (by omega) (by omega)
  have hw1 : IntKind.i64.wrap (7 * N * n) = 7 * N * n := wr _ (by omega) (by omega)
  have hw2 : IntKind.i64.wrap (num y m d + 7 * N * n) = num y m d + 7 * N * n := wr _ (by omega) (by omega)
  clear wr
  go_enter Tryd.func19, Tryd.ntmps19
  go_wp2_with (first
    | (go_at_call 32; refine (isTenor_any _ _ _).mono ?_; rintro e w1 ⟨rfl, b1⟩; rw [t]; obtain ⟨c0, c1, c2, c3, c4, c5, c6, c7, f5, f6, f7, z1⟩ := boxesA b1; have m1 := mon_below (Nat.le_refl _) b1 (mon_alloc (mon_alloc (mon_alloc hM))))
    | (go_at_call 37; refine (exists_any _ _ _ _ m1).mono ?_; rintro e w2 ⟨rfl, h2⟩; rw [h]; have b2 := b1.trans (h2.mono b1.size); clear c0 c1 c2 c3 c4 c5 c6 c7 f5 f6 f7 z1; obtain ⟨c0, c1, c2, c3, c4, c5, c6, c7, f5, f6, f7, z1⟩ := boxesA b2; have m2 := mon_below (Nat.le_refl _) h2 m1))
  go_region_held3 (fun w' => w'.cell? ⟨w.heap.size, 0, none⟩ = some (.int .i64 y) ∧ w'.cell? ⟨w.heap.size, 1, none⟩ = some (.int .i64 m) ∧ w'.cell? ⟨w.heap.size, 2, none⟩ = some (.int .i64 d) ∧ w'.cell? ⟨w.heap.size + 1, 0, none⟩ = some (.int .i64 N))
    (refine ⟨?_, ?_, ?_, ?_⟩ <;> first | assumption | (rw [World.cell?_setCell_other _ _ _ _ (by simp), World.cell?_setCell_other _ _ _ _ (by simp), World.cell?_setCell_other _ _ _ _ (by simp)]; assumption) | (simp [*]; done))
    (first
    | (go_at_call 38; refine (number_any _ _ _ _ (mon_drew1 m2) h).mono ?_; rintro e w3 ⟨rfl, h3⟩; have b3 := b2.drew.trans (h3.mono b2.drew.size); clear c0 c1 c2 c3 c4 c5 c6 c7 f5 f6 f7 z1; obtain ⟨c0, c1, c2, c3, c4, c5, c6, c7, f5, f6, f7, z1⟩ := boxesA b3; have m3 := mon_below (Nat.le_refl _) h3 (mon_drew1 m2))
    | (go_at_call 39; refine (date_yes _ _ m3 k1 k2).mono ?_; rintro e w4 ⟨Y, M, D, rfl, he, hn, h4⟩; have b4 := b3.trans (h4.mono b3.size); clear c0 c1 c2 c3 c4 c5 c6 c7 f5 f6 f7 z1; obtain ⟨c0, c1, c2, c3, c4, c5, c6, c7, f5, f6, f7, z1⟩ := boxesA b4))
  all_goals
    go_wp2
    exact bodyPost_ret (v := .tuple #[.agg #[.int .i64 Y, .int .i64 M, .int .i64 D], .int .i64 0]) (by simp [results, Tryd.results19, go_sem, c5, c6, c7]) rfl ⟨Y, M, D, rfl, he, hn, (((((((Below.refl _ _).alloc (Nat.le_refl _) _).alloc (by simp) _).alloc (by simp; omega) _).trans (b4.mono (by simp; omega))).setCell (by simp; omega) _).setCell (by simp; omega) _).setCell (by simp; omega) _⟩

set_option maxHeartbeats 2000000 in
theorem add_u2_no (y m d N n : Int) (w : World) (hM : Mon w) (t : tenB N 2 = true) (h : exB y m d = true) (f1 : n ≤ 109573) (f2 : -109573 ≤ n) (k : num y m d + 7 * N * n < 0 ∨ 109573 ≤ num y m d + 7 * N * n) : addCall y m d N 2 n w fun e w' => e = .returned (.tuple #[.agg #[.int .i64 0, .int .i64 0, .int .i64 0], .int .i64 2]) ∧ Below w.heap.size w w' := by
  obtain ⟨t1, t2, t3, t4⟩ := ten_out t
  have pb := prod_bd t1 t2 f1 f2
  have nb := num_bd h
  obtain ⟨n1, n2, _, _⟩ := nb
  have q1 : -1000000000 ≤ 7 * N * n := by rw [prod_k]; omega
  have q2 : 7 * N * n ≤ 1000000000 := by rw [prod_k]; omega
  have r1 : -100000000 * 10 ≤ 7 * N := by omega
  have wr : ∀ z : Int, -9223372036854775808 ≤ z → z ≤ 9223372036854775807 → IntKind.i64.wrap z = z := fun z a b => by simp [IntKind.wrap, IntKind.bits, IntKind.signed]; omega
  have hw0 : IntKind.i64.wrap (7 * N) = 7 * N := wr _ (by omega) (by omega)
  have hw1 : IntKind.i64.wrap (7 * N * n) = 7 * N * n := wr _ (by omega) (by omega)
  have hw2 : IntKind.i64.wrap (num y m d + 7 * N * n) = num y m d + 7 * N * n := wr _ (by omega) (by omega)
  clear wr
  go_enter Tryd.func19, Tryd.ntmps19
  go_wp2_with (first
    | (go_at_call 32; refine (isTenor_any _ _ _).mono ?_; rintro e w1 ⟨rfl, b1⟩; rw [t]; obtain ⟨c0, c1, c2, c3, c4, c5, c6, c7, f5, f6, f7, z1⟩ := boxesA b1; have m1 := mon_below (Nat.le_refl _) b1 (mon_alloc (mon_alloc (mon_alloc hM))))
    | (go_at_call 37; refine (exists_any _ _ _ _ m1).mono ?_; rintro e w2 ⟨rfl, h2⟩; rw [h]; have b2 := b1.trans (h2.mono b1.size); clear c0 c1 c2 c3 c4 c5 c6 c7 f5 f6 f7 z1; obtain ⟨c0, c1, c2, c3, c4, c5, c6, c7, f5, f6, f7, z1⟩ := boxesA b2; have m2 := mon_below (Nat.le_refl _) h2 m1))
  go_region_held3 (fun w' => w'.cell? ⟨w.heap.size, 0, none⟩ = some (.int .i64 y) ∧ w'.cell? ⟨w.heap.size, 1, none⟩ = some (.int .i64 m) ∧ w'.cell? ⟨w.heap.size, 2, none⟩ = some (.int .i64 d) ∧ w'.cell? ⟨w.heap.size + 1, 0, none⟩ = some (.int .i64 N))
    (refine ⟨?_, ?_, ?_, ?_⟩ <;> first | assumption | (rw [World.cell?_setCell_other _ _ _ _ (by simp), World.cell?_setCell_other _ _ _ _ (by simp), World.cell?_setCell_other _ _ _ _ (by simp)]; assumption) | (simp [*]; done))
    (first
    | (go_at_call 38; refine (number_any _ _ _ _ (mon_drew1 m2) h).mono ?_; rintro e w3 ⟨rfl, h3⟩; have b3 := b2.drew.trans (h3.mono b2.drew.size); clear c0 c1 c2 c3 c4 c5 c6 c7 f5 f6 f7 z1; obtain ⟨c0, c1, c2, c3, c4, c5, c6, c7, f5, f6, f7, z1⟩ := boxesA b3; have m3 := mon_below (Nat.le_refl _) h3 (mon_drew1 m2))
    | (go_at_call 39; refine (date_no _ _ k).mono ?_; rintro e w4 ⟨rfl, h4⟩; have b4 := b3.trans (h4.mono b3.size); clear c0 c1 c2 c3 c4 c5 c6 c7 f5 f6 f7 z1; obtain ⟨c0, c1, c2, c3, c4, c5, c6, c7, f5, f6, f7, z1⟩ := boxesA b4))
  all_goals
    go_wp2
    exact bodyPost_ret (v := .tuple #[.agg #[.int .i64 0, .int .i64 0, .int .i64 0], .int .i64 2]) (by simp [results, Tryd.results19, go_sem, c5, c6, c7]) rfl ⟨rfl, (((((((Below.refl _ _).alloc (Nat.le_refl _) _).alloc (by simp) _).alloc (by simp; omega) _).trans (b4.mono (by simp; omega))).setCell (by simp; omega) _).setCell (by simp; omega) _).setCell (by simp; omega) _⟩
end Go.Proofs.YtpeglcnenagkbaaDoor
