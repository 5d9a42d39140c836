/-
  WALKS: Add (the document's), months.
-/
import Derived.Test.YtpeglcnenagkbaaDoorWCal8
namespace Go.Proofs.YtpeglcnenagkbaaDoor
open Go.RowKit
open Cal
set_option linter.unusedVariables false
set_option linter.unusedSimpArgs false

set_option maxHeartbeats 2000000 in
theorem rAdd_u3_yes (y m d N n : Int) (w : World) (t : tenB N 3 = true) (h : exB y m d = true) (f1 : n ≤ 109573) (f2 : -109573 ≤ n) (q : Int) (hq : q = 12 * (y - 1900) + m - 1 + N * n) (k1 : 0 ≤ q) (k2 : q < 3600) : rAddCall y m d N 3 n w fun e w' => e = .returned (.tuple #[.agg #[.int .i64 (1900 + q / 12), .int .i64 (q % 12 + 1), .int .i64 (cutD (1900 + q / 12) (q % 12 + 1) d)], .int .i64 0]) ∧ Below w.heap.size w w' := by
  obtain ⟨t1, t2, t3, t4⟩ := ten_out t
  have pb := prod_bd t1 t2 f1 f2
  have nb := num_bd h
  obtain ⟨n1, n2, _, _⟩ := nb
  have q1 : -10000000000 ≤ N * n := by omega
  have q2 : N * n ≤ 10000000000 := by omega
  obtain ⟨h1, h2, h3, h4, h5, h6⟩ := ex_out h
  clear h6
  have g : ¬ N * n + 12 * y + m - 1 < 22800 := by omega
  have g2 : ¬ 26400 ≤ N * n + 12 * y + m - 1 := by omega
  have hY : (N * n + 12 * y + m - 1) / 12 = 1900 + q / 12 := by omega
  have hN : (N * n + 12 * y + m - 1) % 12 + 1 = q % 12 + 1 := by omega
  generalize 1900 + q / 12 = Y at *
  generalize q % 12 + 1 = M at *
  have Y1 : 1900 ≤ Y := by omega
  have Y2 : Y ≤ 2199 := by omega
  have M1 : 1 ≤ M := by omega
  have M2 : M ≤ 12 := by omega
  clear hq
  have lr := Lib.hid (lenR_in (y := Y) M1 M2)
  have lb := len_bd Y M
  obtain ⟨lb1, lb2⟩ := lb
  by_cases c : d ≤ len Y M
  · rw [show cutD Y M d = d by unfold cutD; rw [if_pos c]]
    go_enter Tryd.func44, Tryd.ntmps44
    go_wp2_with (first
      | (go_at_call 42; refine (validTenor_any _ _ _).mono ?_; rintro e w1 ⟨rfl, b1⟩; rw [t]; obtain ⟨c0, c1, c2, c3, c4, c5, c6, c7, f5, f6, f7, z1⟩ := boxesA b1)
      | (go_at_call 43; refine (refDay_any _ _ _ _).mono ?_; rintro e w2 ⟨rfl, h2⟩; rw [(day_t h).1, (day_t h).2]; have b2 := b1.trans (h2.mono b1.size); clear c0 c1 c2 c3 c4 c5 c6 c7 f5 f6 f7 z1; obtain ⟨c0, c1, c2, c3, c4, c5, c6, c7, f5, f6, f7, z1⟩ := boxesA b2)
      | (go_at_call 58; refine (length_any _ _ _ (by omega) (by omega)).mono ?_; rintro e w' ⟨rfl, rfl⟩; rw [lr.out]))
    exact bodyPost_ret (v := .tuple #[.agg #[.int .i64 Y, .int .i64 M, .int .i64 d], .int .i64 0]) (by simp [results, Tryd.results44, go_sem, c5, c6, c7, z1]) rfl ⟨rfl, ((((((((Below.refl _ _).alloc (Nat.le_refl _) _).alloc (by simp) _).alloc (by simp; omega) _).trans (b2.mono (by simp; omega))).setCell (by simp; omega) _).setCell (by simp; omega) _).setCell (by simp; omega) _).alloc (by simp; omega) _⟩
  · rw [show cutD Y M d = (len Y M) by unfold cutD; rw [if_neg c]]
    go_enter Tryd.func44, Tryd.ntmps44
    go_wp2_with (first
      | (go_at_call 42; refine (validTenor_any _ _ _).mono ?_; rintro e w1 ⟨rfl, b1⟩; rw [t]; obtain ⟨c0, c1, c2, c3, c4, c5, c6, c7, f5, f6, f7, z1⟩ := boxesA b1)
      | (go_at_call 43; refine (refDay_any _ _ _ _).mono ?_; rintro e w2 ⟨rfl, h2⟩; rw [(day_t h).1, (day_t h).2]; have b2 := b1.trans (h2.mono b1.size); clear c0 c1 c2 c3 c4 c5 c6 c7 f5 f6 f7 z1; obtain ⟨c0, c1, c2, c3, c4, c5, c6, c7, f5, f6, f7, z1⟩ := boxesA b2)
      | (go_at_call 58; refine (length_any _ _ _ (by omega) (by omega)).mono ?_; rintro e w' ⟨rfl, rfl⟩; rw [lr.out]))
    exact bodyPost_ret (v := .tuple #[.agg #[.int .i64 Y, .int .i64 M, .int .i64 (len Y M)], .int .i64 0]) (by simp [results, Tryd.results44, go_sem, c5, c6, c7, z1]) rfl ⟨rfl, ((((((((Below.refl _ _).alloc (Nat.le_refl _) _).alloc (by simp) _).alloc (by simp; omega) _).trans (b2.mono (by simp; omega))).setCell (by simp; omega) _).setCell (by simp; omega) _).setCell (by simp; omega) _).alloc (by simp; omega) _⟩

set_option maxHeartbeats 2000000 in
theorem rAdd_u3_no (y m d N n : Int) (w : World) (t : tenB N 3 = true) (h : exB y m d = true) (f1 : n ≤ 109573) (f2 : -109573 ≤ n) (k : 12 * (y - 1900) + m - 1 + N * n < 0 ∨ 3600 ≤ 12 * (y - 1900) + m - 1 + N * n) : rAddCall y m d N 3 n w fun e w' => e = .returned (.tuple #[.agg #[.int .i64 0, .int .i64 0, .int .i64 0], .int .i64 2]) ∧ Below w.heap.size w w' := by
  obtain ⟨t1, t2, t3, t4⟩ := ten_out t
  have pb := prod_bd t1 t2 f1 f2
  have nb := num_bd h
  obtain ⟨n1, n2, _, _⟩ := nb
  have q1 : -10000000000 ≤ N * n := by omega
  have q2 : N * n ≤ 10000000000 := by omega
  obtain ⟨h1, h2, h3, h4, h5, h6⟩ := ex_out h
  clear h6
  rcases k with k | k
  · have g : N * n + 12 * y + m - 1 < 22800 := by omega
    go_enter Tryd.func44, Tryd.ntmps44
    go_wp2_with (first
      | (go_at_call 42; refine (validTenor_any _ _ _).mono ?_; rintro e w1 ⟨rfl, b1⟩; rw [t]; obtain ⟨c0, c1, c2, c3, c4, c5, c6, c7, f5, f6, f7, z1⟩ := boxesA b1)
      | (go_at_call 43; refine (refDay_any _ _ _ _).mono ?_; rintro e w2 ⟨rfl, h2⟩; rw [(day_t h).1, (day_t h).2]; have b2 := b1.trans (h2.mono b1.size); clear c0 c1 c2 c3 c4 c5 c6 c7 f5 f6 f7 z1; obtain ⟨c0, c1, c2, c3, c4, c5, c6, c7, f5, f6, f7, z1⟩ := boxesA b2))
    exact bodyPost_ret (v := .tuple #[.agg #[.int .i64 0, .int .i64 0, .int .i64 0], .int .i64 2]) (by simp [results, Tryd.results44, go_sem, c5, c6, c7]) rfl ⟨rfl, (((((((Below.refl _ _).alloc (Nat.le_refl _) _).alloc (by simp) _).alloc (by simp; omega) _).trans (b2.mono (by simp; omega))).setCell (by simp; omega) _).setCell (by simp; omega) _).setCell (by simp; omega) _⟩
  · have g : ¬ N * n + 12 * y + m - 1 < 22800 := by omega
    have g2 : 26400 ≤ N * n + 12 * y + m - 1 := by omega
    go_enter Tryd.func44, Tryd.ntmps44
    go_wp2_with (first
      | (go_at_call 42; refine (validTenor_any _ _ _).mono ?_; rintro e w1 ⟨rfl, b1⟩; rw [t]; obtain ⟨c0, c1, c2, c3, c4, c5, c6, c7, f5, f6, f7, z1⟩ := boxesA b1)
      | (go_at_call 43; refine (refDay_any _ _ _ _).mono ?_; rintro e w2 ⟨rfl, h2⟩; rw [(day_t h).1, (day_t h).2]; have b2 := b1.trans (h2.mono b1.size); clear c0 c1 c2 c3 c4 c5 c6 c7 f5 f6 f7 z1; obtain ⟨c0, c1, c2, c3, c4, c5, c6, c7, f5, f6, f7, z1⟩ := boxesA b2))
    exact bodyPost_ret (v := .tuple #[.agg #[.int .i64 0, .int .i64 0, .int .i64 0], .int .i64 2]) (by simp [results, Tryd.results44, go_sem, c5, c6, c7]) rfl ⟨rfl, (((((((Below.refl _ _).alloc (Nat.le_refl _) _).alloc (by simp) _).alloc (by simp; omega) _).trans (b2.mono (by simp; omega))).setCell (by simp; omega) _).setCell (by simp; omega) _).setCell (by simp; omega) _⟩

set_option maxHeartbeats 2000000 in
theorem rAdd_u4_yes (y m d N n : Int) (w : World) (t : tenB N 4 = true) (h : exB y m d = true) (f1 : n ≤ 109573) (f2 : -109573 ≤ n) (q : Int) (hq : q = 12 * (y - 1900) + m - 1 + 12 * N * n) (k1 : 0 ≤ q) (k2 : q < 3600) : rAddCall y m d N 4 n w fun e w' => e = .returned (.tuple #[.agg #[.int .i64 (1900 + q / 12), .int .i64 (q % 12 + 1), .int .i64 (cutD (1900 + q / 12) (q % 12 + 1) d)], .int .i64 0]) ∧ Below w.heap.size w w' := by
  obtain ⟨t1, t2, t3, t4⟩ := ten_out t
  have pb := prod_bd t1 t2 f1 f2
  have nb := num_bd h
  obtain ⟨n1, n2, _, _⟩ := nb
  have q1 : -10000000000 ≤ 12 * (N * n) := by omega
  have q2 : 12 * (N * n) ≤ 10000000000 := by omega
  obtain ⟨h1, h2, h3, h4, h5, h6⟩ := ex_out h
  clear h6
  rw [prod_k] at hq
  have g : ¬ 12 * (N * n) + 12 * y + m - 1 < 22800 := by omega
  have g2 : ¬ 26400 ≤ 12 * (N * n) + 12 * y + m - 1 := by omega
  have hY : (12 * (N * n) + 12 * y + m - 1) / 12 = 1900 + q / 12 := by omega
  have hN : (12 * (N * n) + 12 * y + m - 1) % 12 + 1 = q % 12 + 1 := by omega
  generalize 1900 + q / 12 = Y at *
  generalize q % 12 + 1 = M at *
  have Y1 : 1900 ≤ Y := by omega
  have Y2 : Y ≤ 2199 := by omega
  have M1 : 1 ≤ M := by omega
  have M2 : M ≤ 12 := by omega
  clear hq
  have lr := Lib.hid (lenR_in (y := Y) M1 M2)
  have lb := len_bd Y M
  obtain ⟨lb1, lb2⟩ := lb
  by_cases c : d ≤ len Y M
  · rw [show cutD Y M d = d by unfold cutD; rw [if_pos c]]
    go_enter Tryd.func44, Tryd.ntmps44
    go_wp2_with (first
      | (go_at_call 42; refine (validTenor_any _ _ _).mono ?_; rintro e w1 ⟨rfl, b1⟩; rw [t]; obtain ⟨c0, c1, c2, c3, c4, c5, c6, c7, f5, f6, f7, z1⟩ := boxesA b1)
      | (go_at_call 43; refine (refDay_any _ _ _ _).mono ?_; rintro e w2 ⟨rfl, h2⟩; rw [(day_t h).1, (day_t h).2]; have b2 := b1.trans (h2.mono b1.size); clear c0 c1 c2 c3 c4 c5 c6 c7 f5 f6 f7 z1; obtain ⟨c0, c1, c2, c3, c4, c5, c6, c7, f5, f6, f7, z1⟩ := boxesA b2)
      | (go_at_call 58; refine (length_any _ _ _ (by omega) (by omega)).mono ?_; rintro e w' ⟨rfl, rfl⟩; rw [lr.out]))
    exact bodyPost_ret (v := .tuple #[.agg #[.int .i64 Y, .int .i64 M, .int .i64 d], .int .i64 0]) (by simp [results, Tryd.results44, go_sem, c5, c6, c7, z1]) rfl ⟨rfl, ((((((((Below.refl _ _).alloc (Nat.le_refl _) _).alloc (by simp) _).alloc (by simp; omega) _).trans (b2.mono (by simp; omega))).setCell (by simp; omega) _).setCell (by simp; omega) _).setCell (by simp; omega) _).alloc (by simp; omega) _⟩
  · rw [show cutD Y M d = (len Y M) by unfold cutD; rw [if_neg c]]
    go_enter Tryd.func44, Tryd.ntmps44
    go_wp2_with (first
      | (go_at_call 42; refine (validTenor_any _ _ _).mono ?_; rintro e w1 ⟨rfl, b1⟩; rw [t]; obtain ⟨c0, c1, c2, c3, c4, c5, c6, c7, f5, f6, f7, z1⟩ := boxesA b1)
      | (go_at_call 43; refine (refDay_any _ _ _ _).mono ?_; rintro e w2 ⟨rfl, h2⟩; rw [(day_t h).1, (day_t h).2]; have b2 := b1.trans (h2.mono b1.size); clear c0 c1 c2 c3 c4 c5 c6 c7 f5 f6 f7 z1; obtain ⟨c0, c1, c2, c3, c4, c5, c6, c7, f5, f6, f7, z1⟩ := boxesA b2)
      | (go_at_call 58; refine (length_any _ _ _ (by omega) (by omega)).mono ?_; rintro e w' ⟨rfl, rfl⟩; rw [lr.out]))
    exact bodyPost_ret (v := .tuple #[.agg #[.int .i64 Y, .int .i64 M, .int .i64 (len Y M)], .int .i64 0]) (by simp [results, Tryd.results44, go_sem, c5, c6, c7, z1]) rfl ⟨rfl, ((((((((Below.refl _ _).alloc (Nat.le_refl _) _).alloc (by simp) _).alloc (by simp; omega) _).trans (b2.mono (by simp; omega))).setCell (by simp; omega) _).setCell (by simp; omega) _).setCell (by simp; omega) _).alloc (by simp; omega) _⟩

set_option maxHeartbeats 2000000 in
theorem rAdd_u4_no (y m d N n : Int) (w : World) (t : tenB N 4 = true) (h : exB y m d = true) (f1 : n ≤ 109573) (f2 : -109573 ≤ n) (k : 12 * (y - 1900) + m - 1 + 12 * N * n < 0 ∨ 3600 ≤ 12 * (y - 1900) + m - 1 + 12 * N * n) : rAddCall y m d N 4 n w fun e w' => e = .returned (.tuple #[.agg #[.int .i64 0, .int .i64 0, .int .i64 0], .int .i64 2]) ∧ Below w.heap.size w w' := by
  obtain ⟨t1, t2, t3, t4⟩ := ten_out t
  have pb := prod_bd t1 t2 f1 f2
  have nb := num_bd h
  obtain ⟨n1, n2, _, _⟩ := nb
  have q1 : -10000000000 ≤ 12 * (N * n) := by omega
  have q2 : 12 * (N * n) ≤ 10000000000 := by omega
  obtain ⟨h1, h2, h3, h4, h5, h6⟩ := ex_out h
  clear h6
  rw [prod_k] at k
  rcases k with k | k
  · have g : 12 * (N * n) + 12 * y + m - 1 < 22800 := by omega
    go_enter Tryd.func44, Tryd.ntmps44
    go_wp2_with (first
      | (go_at_call 42; refine (validTenor_any _ _ _).mono ?_; rintro e w1 ⟨rfl, b1⟩; rw [t]; obtain ⟨c0, c1, c2, c3, c4, c5, c6, c7, f5, f6, f7, z1⟩ := boxesA b1)
      | (go_at_call 43; refine (refDay_any _ _ _ _).mono ?_; rintro e w2 ⟨rfl, h2⟩; rw [(day_t h).1, (day_t h).2]; have b2 := b1.trans (h2.mono b1.size); clear c0 c1 c2 c3 c4 c5 c6 c7 f5 f6 f7 z1; obtain ⟨c0, c1, c2, c3, c4, c5, c6, c7, f5, f6, f7, z1⟩ := boxesA b2))
    exact bodyPost_ret (v := .tuple #[.agg #[.int .i64 0, .int .i64 0, .int .i64 0], .int .i64 2]) (by simp [results, Tryd.results44, go_sem, c5, c6, c7]) rfl ⟨rfl, (((((((Below.refl _ _).alloc (Nat.le_refl _) _).alloc (by simp) _).alloc (by simp; omega) _).trans (b2.mono (by simp; omega))).setCell (by simp; omega) _).setCell (by simp; omega) _).setCell (by simp; omega) _⟩
  · have g : ¬ 12 * (N * n) + 12 * y + m - 1 < 22800 := by omega
    have g2 : 26400 ≤ 12 * (N * n) + 12 * y + m - 1 := by omega
    go_enter Tryd.func44, Tryd.ntmps44
    go_wp2_with (first
      | (go_at_call 42; refine (validTenor_any _ _ _).mono ?_; rintro e w1 ⟨rfl, b1⟩; rw [t]; obtain ⟨c0, c1, c2, c3, c4, c5, c6, c7, f5, f6, f7, z1⟩ := boxesA b1)
      | (go_at_call 43; refine (refDay_any _ _ _ _).mono ?_; rintro e w2 ⟨rfl, h2⟩; rw [(day_t h).1, (day_t h).2]; have b2 := b1.trans (h2.mono b1.size); clear c0 c1 c2 c3 c4 c5 c6 c7 f5 f6 f7 z1; obtain ⟨c0, c1, c2, c3, c4, c5, c6, c7, f5, f6, f7, z1⟩ := boxesA b2))
    exact bodyPost_ret (v := .tuple #[.agg #[.int .i64 0, .int .i64 0, .int .i64 0], .int .i64 2]) (by simp [results, Tryd.results44, go_sem, c5, c6, c7]) rfl ⟨rfl, (((((((Below.refl _ _).alloc (Nat.le_refl _) _).alloc (by simp) _).alloc (by simp; omega) _).trans (b2.mono (by simp; omega))).setCell (by simp; omega) _).setCell (by simp; omega) _).setCell (by simp; omega) _⟩
end Go.Proofs.YtpeglcnenagkbaaDoor
