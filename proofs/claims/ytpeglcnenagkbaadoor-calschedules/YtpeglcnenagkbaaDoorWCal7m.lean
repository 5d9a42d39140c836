/-
  WALKS: Add (the program's), months.
-/
import Derived.Test.YtpeglcnenagkbaaDoorWCal7
namespace Go.Proofs.YtpeglcnenagkbaaDoor
open Go.RowKit
open Cal
set_option linter.unusedVariables false
set_option linter.unusedSimpArgs false

set_option maxHeartbeats 2000000 in
theorem add_u3_yes (y m d N n : Int) (w : World) (hM : Mon w) (t : tenB N 3 = true) (h : exB y m d = true) (f1 : n ≤ 109573) (f2 : -109573 ≤ n) (q : Int) (hq : q = 12 * (y - 1900) + m - 1 + N * n) (k1 : 0 ≤ q) (k2 : q < 3600) : addCall y m d N 3 n w fun e w' => e = .returned (.tuple #[.agg #[.int .i64 (1900 + q / 12), .int .i64 (q % 12 + 1), .int .i64 (cutD (1900 + q / 12) (q % 12 + 1) d)], .int .i64 0]) ∧ Below w.heap.size w w' := by
  obtain ⟨t1, t2, t3, t4⟩ := ten_out t
  have pb := prod_bd t1 t2 f1 f2
  have nb := num_bd h
  obtain ⟨n1, n2, _, _⟩ := nb
  have q1 : -10000000000 ≤ N * n := by omega
  have q2 : N * n ≤ 10000000000 := by omega
  have HQ := Lib.hid hq
  clear hq
  go_enter Tryd.func19, Tryd.ntmps19
  go_wp2_with (first
    | (go_at_call 32; refine (isTenor_any _ _ _).mono ?_; rintro e w1 ⟨rfl, b1⟩; rw [t]; obtain ⟨c0, c1, c2, c3, c4, c5, c6, c7, f5, f6, f7, z1⟩ := boxesA b1; have m1 := mon_below (Nat.le_refl _) b1 (mon_alloc (mon_alloc (mon_alloc hM))))
    | (go_at_call 37; refine (exists_any _ _ _ _ m1).mono ?_; rintro e w2 ⟨rfl, h2⟩; rw [h]; have b2 := b1.trans (h2.mono b1.size); clear c0 c1 c2 c3 c4 c5 c6 c7 f5 f6 f7 z1; obtain ⟨c0, c1, c2, c3, c4, c5, c6, c7, f5, f6, f7, z1⟩ := boxesA b2; have m2 := mon_below (Nat.le_refl _) h2 m1)
    | (go_at_call 40; refine (addMonths_yes _ _ _ _ q _ m2 h (by omega) (by omega) HQ.out k1 k2).mono ?_; rintro e w3 ⟨rfl, h3⟩; have b3 := b2.trans (h3.mono b2.size); clear c0 c1 c2 c3 c4 c5 c6 c7 f5 f6 f7 z1; obtain ⟨c0, c1, c2, c3, c4, c5, c6, c7, f5, f6, f7, z1⟩ := boxesA b3))
  exact bodyPost_ret (v := .tuple #[.agg #[.int .i64 (1900 + q / 12), .int .i64 (q % 12 + 1), .int .i64 (cutD (1900 + q / 12) (q % 12 + 1) d)], .int .i64 0]) (by simp [results, Tryd.results19, go_sem, c5, c6, c7]) rfl ⟨rfl, (((((((Below.refl _ _).alloc (Nat.le_refl _) _).alloc (by simp) _).alloc (by simp; omega) _).trans (b3.mono (by simp; omega))).setCell (by simp; omega) _).setCell (by simp; omega) _).setCell (by simp; omega) _⟩

set_option maxHeartbeats 2000000 in
theorem add_u3_no (y m d N n : Int) (w : World) (hM : Mon w) (t : tenB N 3 = true) (h : exB y m d = true) (f1 : n ≤ 109573) (f2 : -109573 ≤ n) (k : 12 * (y - 1900) + m - 1 + N * n < 0 ∨ 3600 ≤ 12 * (y - 1900) + m - 1 + N * n) : addCall y m d N 3 n w fun e w' => e = .returned (.tuple #[.agg #[.int .i64 0, .int .i64 0, .int .i64 0], .int .i64 2]) ∧ Below w.heap.size w w' := by
  obtain ⟨t1, t2, t3, t4⟩ := ten_out t
  have pb := prod_bd t1 t2 f1 f2
  have nb := num_bd h
  obtain ⟨n1, n2, _, _⟩ := nb
  have q1 : -10000000000 ≤ N * n := by omega
  have q2 : N * n ≤ 10000000000 := by omega
  go_enter Tryd.func19, Tryd.ntmps19
  go_wp2_with (first
    | (go_at_call 32; refine (isTenor_any _ _ _).mono ?_; rintro e w1 ⟨rfl, b1⟩; rw [t]; obtain ⟨c0, c1, c2, c3, c4, c5, c6, c7, f5, f6, f7, z1⟩ := boxesA b1; have m1 := mon_below (Nat.le_refl _) b1 (mon_alloc (mon_alloc (mon_alloc hM))))
    | (go_at_call 37; refine (exists_any _ _ _ _ m1).mono ?_; rintro e w2 ⟨rfl, h2⟩; rw [h]; have b2 := b1.trans (h2.mono b1.size); clear c0 c1 c2 c3 c4 c5 c6 c7 f5 f6 f7 z1; obtain ⟨c0, c1, c2, c3, c4, c5, c6, c7, f5, f6, f7, z1⟩ := boxesA b2; have m2 := mon_below (Nat.le_refl _) h2 m1)
    | (go_at_call 40; refine (addMonths_no _ _ _ _ _ m2 h (by omega) (by omega) k).mono ?_; rintro e w3 ⟨rfl, h3⟩; have b3 := b2.trans (h3.mono b2.size); clear c0 c1 c2 c3 c4 c5 c6 c7 f5 f6 f7 z1; obtain ⟨c0, c1, c2, c3, c4, c5, c6, c7, f5, f6, f7, z1⟩ := boxesA b3))
  exact bodyPost_ret (v := .tuple #[.agg #[.int .i64 0, .int .i64 0, .int .i64 0], .int .i64 2]) (by simp [results, Tryd.results19, go_sem, c5, c6, c7]) rfl ⟨rfl, (((((((Below.refl _ _).alloc (Nat.le_refl _) _).alloc (by simp) _).alloc (by simp; omega) _).trans (b3.mono (by simp; omega))).setCell (by simp; omega) _).setCell (by simp; omega) _).setCell (by simp; omega) _⟩

set_option maxHeartbeats 2000000 in
theorem add_u4_yes (y m d N n : Int) (w : World) (hM : Mon w) (t : tenB N 4 = true) (h : exB y m d = true) (f1 : n ≤ 109573) (f2 : -109573 ≤ n) (q : Int) (hq : q = 12 * (y - 1900) + m - 1 + 12 * N * n) (k1 : 0 ≤ q) (k2 : q < 3600) : addCall y m d N 4 n w fun e w' => e = .returned (.tuple #[.agg #[.int .i64 (1900 + q / 12), .int .i64 (q % 12 + 1), .int .i64 (cutD (1900 + q / 12) (q % 12 + 1) d)], .int .i64 0]) ∧ Below w.heap.size w w' := by
  obtain ⟨t1, t2, t3, t4⟩ := ten_out t
  have pb := prod_bd t1 t2 f1 f2
  have nb := num_bd h
  obtain ⟨n1, n2, _, _⟩ := nb
  have q1 : -10000000000 ≤ 12 * N * n := by rw [prod_k]; omega
  have q2 : 12 * N * n ≤ 10000000000 := by rw [prod_k]; omega
  have HQ := Lib.hid hq
  clear hq
  go_enter Tryd.func19, Tryd.ntmps19
  go_wp2_with (first
    | (go_at_call 32; refine (isTenor_any _ _ _).mono ?_; rintro e w1 ⟨rfl, b1⟩; rw [t]; obtain ⟨c0, c1, c2, c3, c4, c5, c6, c7, f5, f6, f7, z1⟩ := boxesA b1; have m1 := mon_below (Nat.le_refl _) b1 (mon_alloc (mon_alloc (mon_alloc hM))))
    | (go_at_call 37; refine (exists_any _ _ _ _ m1).mono ?_; rintro e w2 ⟨rfl, h2⟩; rw [h]; have b2 := b1.trans (h2.mono b1.size); clear c0 c1 c2 c3 c4 c5 c6 c7 f5 f6 f7 z1; obtain ⟨c0, c1, c2, c3, c4, c5, c6, c7, f5, f6, f7, z1⟩ := boxesA b2; have m2 := mon_below (Nat.le_refl _) h2 m1)
    | (go_at_call 40; refine (addMonths_yes _ _ _ _ q _ m2 h (by omega) (by omega) HQ.out k1 k2).mono ?_; rintro e w3 ⟨rfl, h3⟩; have b3 := b2.trans (h3.mono b2.size); clear c0 c1 c2 c3 c4 c5 c6 c7 f5 f6 f7 z1; obtain ⟨c0, c1, c2, c3, c4, c5, c6, c7, f5, f6, f7, z1⟩ := boxesA b3))
  exact bodyPost_ret (v := .tuple #[.agg #[.int .i64 (1900 + q / 12), .int .i64 (q % 12 + 1), .int .i64 (cutD (1900 + q / 12) (q % 12 + 1) d)], .int .i64 0]) (by simp [results, Tryd.results19, go_sem, c5, c6, c7]) rfl ⟨rfl, (((((((Below.refl _ _).alloc (Nat.le_refl _) _).alloc (by simp) _).alloc (by simp; omega) _).trans (b3.mono (by simp; omega))).setCell (by simp; omega) _).setCell (by simp; omega) _).setCell (by simp; omega) _⟩

set_option maxHeartbeats 2000000 in
theorem add_u4_no (y m d N n : Int) (w : World) (hM : Mon w) (t : tenB N 4 = true) (h : exB y m d = true) (f1 : n ≤ 109573) (f2 : -109573 ≤ n) (k : 12 * (y - 1900) + m - 1 + 12 * N * n < 0 ∨ 3600 ≤ 12 * (y - 1900) + m - 1 + 12 * N * n) : addCall y m d N 4 n w fun e w' => e = .returned (.tuple #[.agg #[.int .i64 0, .int .i64 0, .int .i64 0], .int .i64 2]) ∧ Below w.heap.size w w' := by
  obtain ⟨t1, t2, t3, t4⟩ := ten_out t
  have pb := prod_bd t1 t2 f1 f2
  have nb := num_bd h
  obtain ⟨n1, n2, _, _⟩ := nb
  have q1 : -10000000000 ≤ 12 * N * n := by rw [prod_k]; omega
  have q2 : 12 * N * n ≤ 10000000000 := by rw [prod_k]; omega
  go_enter Tryd.func19, Tryd.ntmps19
  go_wp2_with (first
    | (go_at_call 32; refine (isTenor_any _ _ _).mono ?_; rintro e w1 ⟨rfl, b1⟩; rw [t]; obtain ⟨c0, c1, c2, c3, c4, c5, c6, c7, f5, f6, f7, z1⟩ := boxesA b1; have m1 := mon_below (Nat.le_refl _) b1 (mon_alloc (mon_alloc (mon_alloc hM))))
    | (go_at_call 37; refine (exists_any _ _ _ _ m1).mono ?_; rintro e w2 ⟨rfl, h2⟩; rw [h]; have b2 := b1.trans (h2.mono b1.size); clear c0 c1 c2 c3 c4 c5 c6 c7 f5 f6 f7 z1; obtain ⟨c0, c1, c2, c3, c4, c5, c6, c7, f5, f6, f7, z1⟩ := boxesA b2; have m2 := mon_below (Nat.le_refl _) h2 m1)
    | (go_at_call 40; refine (addMonths_no _ _ _ _ _ m2 h (by omega) (by omega) k).mono ?_; rintro e w3 ⟨rfl, h3⟩; have b3 := b2.trans (h3.mono b2.size); clear c0 c1 c2 c3 c4 c5 c6 c7 f5 f6 f7 z1; obtain ⟨c0, c1, c2, c3, c4, c5, c6, c7, f5, f6, f7, z1⟩ := boxesA b3))
  exact bodyPost_ret (v := .tuple #[.agg #[.int .i64 0, .int .i64 0, .int .i64 0], .int .i64 2]) (by simp [results, Tryd.results19, go_sem, c5, c6, c7]) rfl ⟨rfl, (((((((Below.refl _ _).alloc (Nat.le_refl _) _).alloc (by simp) _).alloc (by simp; omega) _).trans (b3.mono (by simp; omega))).setCell (by simp; omega) _).setCell (by simp; omega) _).setCell (by simp; omega) _⟩
end Go.Proofs.YtpeglcnenagkbaaDoor
