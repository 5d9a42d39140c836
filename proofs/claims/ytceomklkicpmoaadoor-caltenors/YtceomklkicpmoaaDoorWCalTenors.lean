/-
  WALK: the law CalTenors.
-/
import Derived.Test.YtceomklkicpmoaaDoorWCal9
import Derived.Test.YtceomklkicpmoaaDoorWCalOne
namespace Go.Proofs.YtceomklkicpmoaaDoor
open Go.RowKit
open Cal
set_option linter.unusedVariables false
set_option linter.unusedSimpArgs false

theorem flip4 {a b c d e f g h : Int} (x : a = b ∧ c = d ∧ e = f ∧ g = h) : b = a ∧ d = c ∧ f = e ∧ g = h := ⟨x.1.symm, x.2.1.symm, x.2.2.1.symm, x.2.2.2⟩
/-- A tenor of no days stays. -/
theorem still {y m d Y M D E : Int} (h : exB y m d = true) (i : AddIs y m d 1 1 0 Y M D E) : Y = y ∧ M = m ∧ D = d ∧ E = 0 := by
  have b := num_bd h
  unfold AddIs dayOr at i
  rw [if_neg (by decide), if_neg (by rw [h]; simp), if_neg (by omega), if_pos rfl, if_pos (by omega)] at i
  obtain ⟨a, b, c⟩ := i
  obtain ⟨p, q, r⟩ := num_inj a h (by omega)
  exact ⟨p, q, r, c⟩
theorem still_no {y m d Y M D E : Int} (h : exB y m d = false) (i : AddIs y m d 1 1 0 Y M D E) : Y = 0 ∧ M = 0 ∧ D = 0 ∧ E = 21 := by
  unfold AddIs at i
  rw [if_neg (by decide), if_pos h] at i
  exact i
theorem cut_ex {q d : Int} (h1 : 1 ≤ d) (k1 : 0 ≤ q) (k2 : q < 3600) : exB (1900 + q / 12) (q % 12 + 1) (cutD (1900 + q / 12) (q % 12 + 1) d) = true := by
  have l := len_bd (1900 + q / 12) (q % 12 + 1)
  refine ex_mk ⟨by omega, by omega, by omega, by omega, ?_, ?_⟩
  · unfold cutD; split <;> omega
  · unfold cutD; split <;> omega
/-- The same months, by single ones. -/
theorem by_ones {y m d p q Y M D E : Int} (h : exB y m d = true) (hq : q = 12 * (y - 1900) + m - 1 + p) (k1 : 0 ≤ q) (k2 : q < 3600) (i : AddIs y m d 1 3 p Y M D E) :
    Y = 1900 + q / 12 ∧ M = q % 12 + 1 ∧ D = cutD (1900 + q / 12) (q % 12 + 1) d ∧ E = 0 := by
  obtain ⟨h1, h2, h3, h4, h5, h6⟩ := ex_out h
  unfold AddIs at i
  rw [if_neg (by decide), if_neg (by rw [h]; simp), if_neg (by omega), if_neg (by omega), if_neg (by omega), if_pos rfl, show 12 * (y - 1900) + m - 1 + 1 * p = q by omega] at i
  unfold monOr at i
  rw [if_pos ⟨k1, k2⟩] at i
  exact i
/-- The day behind a month's last day (not the last month's of a year). -/
theorem next_first {Y M : Int} (hM : 1 ≤ M) (hM2 : M < 12) : num Y (M + 1) 1 = num Y M (len Y M) + 1 := by
  unfold num; rw [cum_succ Y M hM (by omega)]; omega

abbrev tenCall (y m d N u n : Int) (w : World) : Prop :=
  Calls Tryd.prog 6 #[.agg #[.int .i64 y, .int .i64 m, .int .i64 d], .agg #[.int .i64 N, .int .i64 u], .int .i64 n] w fun e w' => e = .returned (.bool true) ∧ Below w.heap.size w w'

set_option maxHeartbeats 2000000 in
theorem ten_0 (y m d N u n : Int) (w : World) (hM : Mon w) (h : exB y m d = false) : tenCall y m d N u n w := by
  have F0 := Lib.hid (day_f h)
  have F1 := Lib.hid (p := ∀ Y M D E, AddIs y m d 1 1 0 Y M D E → Y = 0 ∧ M = 0 ∧ D = 0 ∧ E = 21) (fun _ _ _ _ i => still_no h i)
  clear h
  go_enter Tryd.func6, Tryd.ntmps6
  go_wp2_with (first
    | (go_at_call 12; refine (numE_any _ _).mono ?_; rintro e w' ⟨rfl, rfl⟩)
    | (go_at_call 14; (refine (day_any _ _ _ _ (mon_alloc (mon_alloc hM))).mono ?_; rintro e w1 ⟨rfl, b1⟩; rw [F0.out.1, F0.out.2]; obtain ⟨c0, c1, c2, c3, c4, z1⟩ := boxesB b1; have m1 := mon_below (Nat.le_refl _) b1 (mon_alloc (mon_alloc hM))))
    | (go_at_call 16; (refine (add_any _ _ _ _ _ _ _ m1).mono ?_; rintro e w2 ⟨Y1, M1, D1, E1, rfl, i1, h2⟩; obtain ⟨rfl, rfl, rfl, rfl⟩ := F1.out _ _ _ _ i1; clear i1; have b2 := b1.trans (h2.mono b1.size); clear c0 c1 c2 c3 c4 z1; obtain ⟨c0, c1, c2, c3, c4, z1⟩ := boxesB b2; have z0 : w.heap.size < w2.heap.size := (by omega); have m2 := mon_below (Nat.le_refl _) h2 m1)))
  go_ret
  exact ⟨rfl, ((((Below.refl _ _).alloc (Nat.le_refl _) _).alloc (by simp) _).trans (b2.mono (by simp; omega))).alloc (by omega) _⟩

set_option maxHeartbeats 2000000 in
theorem ten_err (y m d N u n e0 : Int) (w : World) (hM : Mon w) (h : exB y m d = true) (he : ¬ e0 = 0) (F2 : RowKit.Hid (∀ Y M D E, AddIs y m d N u n Y M D E → Y = 0 ∧ M = 0 ∧ D = 0 ∧ E = e0)) : tenCall y m d N u n w := by
  have F0 := Lib.hid (day_t h)
  have F1 := Lib.hid (p := ∀ Y M D E, AddIs y m d 1 1 0 Y M D E → y = Y ∧ m = M ∧ d = D ∧ E = 0) (fun _ _ _ _ i => flip4 (still h i))
  go_enter Tryd.func6, Tryd.ntmps6
  go_wp2_with (first
    | (go_at_call 12; refine (numE_any _ _).mono ?_; rintro e w' ⟨rfl, rfl⟩)
    | (go_at_call 14; (refine (day_any _ _ _ _ (mon_alloc (mon_alloc hM))).mono ?_; rintro e w1 ⟨rfl, b1⟩; rw [F0.out.1, F0.out.2]; obtain ⟨c0, c1, c2, c3, c4, z1⟩ := boxesB b1; have m1 := mon_below (Nat.le_refl _) b1 (mon_alloc (mon_alloc hM))))
    | (go_at_call 16; (first
      | (have qq := b2; refine (add_any _ _ _ _ _ _ _ (mon_alloc m2)).mono ?_; rintro e w3 ⟨X, M, D, E, rfl, i2, h3⟩; obtain ⟨rfl, rfl, rfl, rfl⟩ := F2.out _ _ _ _ i2; clear i2; have b3 := (b2.alloc (by have := b2.size; exact this) _).trans (h3.mono (by have := b2.size; simp at this ⊢; omega)); clear c0 c1 c2 c3 c4 z1; clear z0 qq; obtain ⟨c0, c1, c2, c3, c4, z1⟩ := boxesB b3; have z0 : w.heap.size < w3.heap.size := (by omega); have m3 := mon_below (Nat.le_refl _) h3 (mon_alloc m2))
      | (refine (add_any _ _ _ _ _ _ _ m1).mono ?_; rintro e w2 ⟨Y1, M1, D1, E1, rfl, i1, h2⟩; obtain ⟨rfl, rfl, rfl, rfl⟩ := F1.out _ _ _ _ i1; clear i1; have b2 := b1.trans (h2.mono b1.size); clear c0 c1 c2 c3 c4 z1; obtain ⟨c0, c1, c2, c3, c4, z1⟩ := boxesB b2; have z0 : w.heap.size < w2.heap.size := (by omega); have m2 := mon_below (Nat.le_refl _) h2 m1))))
  go_ret
  exact ⟨rfl, ((((Below.refl _ _).alloc (Nat.le_refl _) _).alloc (by simp) _).trans (b3.mono (by simp; omega))).alloc (by omega) _⟩

set_option maxHeartbeats 2000000 in
theorem ten_u1 (y m d N n : Int) (w : World) (hM : Mon w) (t : tenB N 1 = true) (h : exB y m d = true) (f1 : n ≤ 109573) (f2 : -109573 ≤ n) (F2 : RowKit.Hid (∀ Y M D E, AddIs y m d N 1 n Y M D E → exB Y M D = true ∧ num Y M D = num y m d + N * n ∧ E = 0)) : tenCall y m d N 1 n w := by
  have F0 := Lib.hid (day_t h)
  have F1 := Lib.hid (p := ∀ Y M D E, AddIs y m d 1 1 0 Y M D E → y = Y ∧ m = M ∧ d = D ∧ E = 0) (fun _ _ _ _ i => flip4 (still h i))
  obtain ⟨t1, t2, t3, t4⟩ := ten_out t
  have pb := prod_bd t1 t2 f1 f2
  have q1 : -1000000000 ≤ N * n := by omega
  have q2 : N * n ≤ 1000000000 := by omega
  have nb := num_bd h
  obtain ⟨n1, n2, _, _⟩ := nb
  go_enter Tryd.func6, Tryd.ntmps6
  go_wp2_with (first
    | (go_at_call 12; refine (numE_any _ _).mono ?_; rintro e w' ⟨rfl, rfl⟩)
    | (go_at_call 14; (first
      | (have qq := b3; refine (day_any _ _ _ _ (mon_alloc m3)).mono ?_; rintro e w4 ⟨rfl, h4⟩; rw [K.out.1, K.out.2]; have b4 := (b3.alloc (by have := b3.size; exact this) _).trans (h4.mono (by have := b3.size; simp at this ⊢; omega)); clear c0 c1 c2 c3 c4 z1; clear z0 qq; obtain ⟨c0, c1, c2, c3, c4, z1⟩ := boxesB b4; obtain ⟨j0, j1, j2⟩ := boxOne h4; have z0 : w.heap.size < w4.heap.size := (by omega); have z3 : w3.heap.size < w4.heap.size := (by have := h4.size; simp at this; omega); have m4 := mon_below (Nat.le_refl _) h4 (mon_alloc m3))
      | (refine (day_any _ _ _ _ (mon_alloc (mon_alloc hM))).mono ?_; rintro e w1 ⟨rfl, b1⟩; rw [F0.out.1, F0.out.2]; obtain ⟨c0, c1, c2, c3, c4, z1⟩ := boxesB b1; have m1 := mon_below (Nat.le_refl _) b1 (mon_alloc (mon_alloc hM)))))
    | (go_at_call 16; (first
      | (have qq := b2; refine (add_any _ _ _ _ _ _ _ (mon_alloc m2)).mono ?_; rintro e w3 ⟨X, M, D, E, rfl, i2, h3⟩; obtain ⟨ix, inn, rfl⟩ := F2.out _ _ _ _ i2; clear i2; have K := Lib.hid (p := dayV X M D = num y m d + N * n ∧ dayE X M D = 0) ⟨(day_t ix).1.trans inn, (day_t ix).2⟩; clear ix inn; have b3 := (b2.alloc (by have := b2.size; exact this) _).trans (h3.mono (by have := b2.size; simp at this ⊢; omega)); clear c0 c1 c2 c3 c4 z1; clear z0 qq; obtain ⟨c0, c1, c2, c3, c4, z1⟩ := boxesB b3; have z0 : w.heap.size < w3.heap.size := (by omega); have m3 := mon_below (Nat.le_refl _) h3 (mon_alloc m2))
      | (refine (add_any _ _ _ _ _ _ _ m1).mono ?_; rintro e w2 ⟨Y1, M1, D1, E1, rfl, i1, h2⟩; obtain ⟨rfl, rfl, rfl, rfl⟩ := F1.out _ _ _ _ i1; clear i1; have b2 := b1.trans (h2.mono b1.size); clear c0 c1 c2 c3 c4 z1; obtain ⟨c0, c1, c2, c3, c4, z1⟩ := boxesB b2; have z0 : w.heap.size < w2.heap.size := (by omega); have m2 := mon_below (Nat.le_refl _) h2 m1))))
  go_ret
  exact ⟨ret_bool (by first | rfl | (simp; omega)), ((((Below.refl _ _).alloc (Nat.le_refl _) _).alloc (by simp) _).trans (b4.mono (by simp; omega)))⟩

set_option maxHeartbeats 2000000 in
theorem ten_u2 (y m d N n : Int) (w : World) (hM : Mon w) (t : tenB N 2 = true) (h : exB y m d = true) (f1 : n ≤ 109573) (f2 : -109573 ≤ n) (F2 : RowKit.Hid (∀ Y M D E, AddIs y m d N 2 n Y M D E → exB Y M D = true ∧ num Y M D = num y m d + 7 * N * n ∧ E = 0)) : tenCall y m d N 2 n w := by
  have F0 := Lib.hid (day_t h)
  have F1 := Lib.hid (p := ∀ Y M D E, AddIs y m d 1 1 0 Y M D E → y = Y ∧ m = M ∧ d = D ∧ E = 0) (fun _ _ _ _ i => flip4 (still h i))
  obtain ⟨t1, t2, t3, t4⟩ := ten_out t
  have pb := prod_bd t1 t2 f1 f2
  have q1 : -1000000000 ≤ 7 * N * n := by rw [prod_k]; omega
  have q2 : 7 * N * n ≤ 1000000000 := by rw [prod_k]; omega
  have nb := num_bd h
  obtain ⟨n1, n2, _, _⟩ := nb
  go_enter Tryd.func6, Tryd.ntmps6
  go_wp2_with (first
    | (go_at_call 12; refine (numE_any _ _).mono ?_; rintro e w' ⟨rfl, rfl⟩)
    | (go_at_call 14; (first
      | (have qq := b3; refine (day_any _ _ _ _ (mon_alloc m3)).mono ?_; rintro e w4 ⟨rfl, h4⟩; rw [K.out.1, K.out.2]; have b4 := (b3.alloc (by have := b3.size; exact this) _).trans (h4.mono (by have := b3.size; simp at this ⊢; omega)); clear c0 c1 c2 c3 c4 z1; clear z0 qq; obtain ⟨c0, c1, c2, c3, c4, z1⟩ := boxesB b4; obtain ⟨j0, j1, j2⟩ := boxOne h4; have z0 : w.heap.size < w4.heap.size := (by omega); have z3 : w3.heap.size < w4.heap.size := (by have := h4.size; simp at this; omega); have m4 := mon_below (Nat.le_refl _) h4 (mon_alloc m3))
      | (refine (day_any _ _ _ _ (mon_alloc (mon_alloc hM))).mono ?_; rintro e w1 ⟨rfl, b1⟩; rw [F0.out.1, F0.out.2]; obtain ⟨c0, c1, c2, c3, c4, z1⟩ := boxesB b1; have m1 := mon_below (Nat.le_refl _) b1 (mon_alloc (mon_alloc hM)))))
    | (go_at_call 16; (first
      | (have qq := b2; refine (add_any _ _ _ _ _ _ _ (mon_alloc m2)).mono ?_; rintro e w3 ⟨X, M, D, E, rfl, i2, h3⟩; obtain ⟨ix, inn, rfl⟩ := F2.out _ _ _ _ i2; clear i2; have K := Lib.hid (p := dayV X M D = num y m d + 7 * N * n ∧ dayE X M D = 0) ⟨(day_t ix).1.trans inn, (day_t ix).2⟩; clear ix inn; have b3 := (b2.alloc (by have := b2.size; exact this) _).trans (h3.mono (by have := b2.size; simp at this ⊢; omega)); clear c0 c1 c2 c3 c4 z1; clear z0 qq; obtain ⟨c0, c1, c2, c3, c4, z1⟩ := boxesB b3; have z0 : w.heap.size < w3.heap.size := (by omega); have m3 := mon_below (Nat.le_refl _) h3 (mon_alloc m2))
      | (refine (add_any _ _ _ _ _ _ _ m1).mono ?_; rintro e w2 ⟨Y1, M1, D1, E1, rfl, i1, h2⟩; obtain ⟨rfl, rfl, rfl, rfl⟩ := F1.out _ _ _ _ i1; clear i1; have b2 := b1.trans (h2.mono b1.size); clear c0 c1 c2 c3 c4 z1; obtain ⟨c0, c1, c2, c3, c4, z1⟩ := boxesB b2; have z0 : w.heap.size < w2.heap.size := (by omega); have m2 := mon_below (Nat.le_refl _) h2 m1))))
  go_ret
  exact ⟨ret_bool (by first | rfl | (simp; omega)), ((((Below.refl _ _).alloc (Nat.le_refl _) _).alloc (by simp) _).trans (b4.mono (by simp; omega)))⟩

set_option maxHeartbeats 2000000 in
theorem ten_u3_same (y m d N n q : Int) (w : World) (hM : Mon w) (t : tenB N 3 = true) (h : exB y m d = true) (f1 : n ≤ 109573) (f2 : -109573 ≤ n) (hq : q = 12 * (y - 1900) + m - 1 + N * n) (k1 : 0 ≤ q) (k2 : q < 3600) (F2 : RowKit.Hid (∀ Y M D E, AddIs y m d N 3 n Y M D E → Y = 1900 + q / 12 ∧ M = q % 12 + 1 ∧ D = cutD (1900 + q / 12) (q % 12 + 1) d ∧ E = 0)) (c : d ≤ len (1900 + q / 12) (q % 12 + 1)) : tenCall y m d N 3 n w := by
  have F0 := Lib.hid (day_t h)
  have F1 := Lib.hid (p := ∀ Y M D E, AddIs y m d 1 1 0 Y M D E → y = Y ∧ m = M ∧ d = D ∧ E = 0) (fun _ _ _ _ i => flip4 (still h i))
  obtain ⟨h1, h2, h3, h4, h5, h6⟩ := ex_out h
  have ld := (len_bd y m).2
  have h7 : d ≤ 31 := by omega
  obtain ⟨t1, t2, t3, t4⟩ := ten_out t
  have pb := prod_bd t1 t2 f1 f2
  have q1 : -10000000000 ≤ N * n := by omega
  have q2 : N * n ≤ 10000000000 := by omega
  have HQ := Lib.hid hq
  have xe := cut_ex (d := d) h5 k1 k2
  have lb := len_bd (1900 + q / 12) (q % 12 + 1)
  obtain ⟨lb1, lb2⟩ := lb
  have ev : 12 * (1900 + q / 12) + (q % 12 + 1) = 12 * y + m + N * n := by omega
  have cd : cutD (1900 + q / 12) (q % 12 + 1) d = d := by unfold cutD; rw [if_pos c]
  have B3 : ∀ Y M D E, AddIs y m d 1 3 (N * n) Y M D E → Y = 1900 + q / 12 ∧ M = q % 12 + 1 ∧ D = cutD (1900 + q / 12) (q % 12 + 1) d ∧ E = 0 := fun _ _ _ _ i => by_ones h hq k1 k2 i
  have BQ1 : 1900 ≤ 1900 + q / 12 := by omega
  have BQ2 : 1900 + q / 12 ≤ 2199 := by omega
  have BM1 : 1 ≤ q % 12 + 1 := by omega
  have BM2 : q % 12 + 1 ≤ 12 := by omega
  clear hq HQ k1 k2
  generalize 1900 + q / 12 = QY at *
  generalize q % 12 + 1 = QM at *
  rw [cd] at xe
  have nb := num_bd xe
  have F3 := Lib.hid B3
  have X2 := Lib.hid (p := ∀ Y M D E, AddIs y m d N 3 n Y M D E → QY = Y ∧ QM = M ∧ d = D ∧ E = 0) (fun Y M D E i => by rw [← cd]; exact flip4 (F2.out Y M D E i))
  have X3 := Lib.hid (p := ∀ Y M D E, AddIs y m d 1 3 (N * n) Y M D E → QY = Y ∧ QM = M ∧ d = D ∧ E = 0) (fun Y M D E i => by rw [← cd]; exact flip4 (B3 Y M D E i))
  have K := Lib.hid (day_t xe)
  obtain ⟨nb1, nb2, _, _⟩ := nb
  have NE : ¬ 12 * QY + QM = 12 * y + m + N * n → False := fun g => g ev
  clear F2 F3 B3 cd
  clear NE
  clear F0
  have F0 := Lib.hid (day_t h)
  go_enter Tryd.func6, Tryd.ntmps6
  go_wp2_with (first
    | (go_at_call 12; refine (numE_any _ _).mono ?_; rintro e w' ⟨rfl, rfl⟩)
    | (go_at_call 14; (first
      | (have qq := b3; refine (day_any _ _ _ _ (mon_alloc m3)).mono ?_; rintro e w4 ⟨rfl, h4⟩; rw [K.out.1, K.out.2]; have b4 := (b3.alloc (by have := b3.size; exact this) _).trans (h4.mono (by have := b3.size; simp at this ⊢; omega)); clear c0 c1 c2 c3 c4 z1; clear z0 qq; obtain ⟨c0, c1, c2, c3, c4, z1⟩ := boxesB b4; obtain ⟨j0, j1, j2⟩ := boxOne h4; have z0 : w.heap.size < w4.heap.size := (by omega); have z3 : w3.heap.size < w4.heap.size := (by have := h4.size; simp at this; omega); have m4 := mon_below (Nat.le_refl _) h4 (mon_alloc m3))
      | (refine (day_any _ _ _ _ (mon_alloc (mon_alloc hM))).mono ?_; rintro e w1 ⟨rfl, b1⟩; rw [F0.out.1, F0.out.2]; obtain ⟨c0, c1, c2, c3, c4, z1⟩ := boxesB b1; have m1 := mon_below (Nat.le_refl _) b1 (mon_alloc (mon_alloc hM)))))
    | (go_at_call 16; (first
      | (have qq := b4; refine (add_any _ _ _ _ _ _ _ m4).mono ?_; rintro e w5 ⟨Y5, M5, D5, E5, rfl, i5, h5⟩; obtain ⟨rfl, rfl, rfl, rfl⟩ := X3.out _ _ _ _ i5; clear i5; have g5 := h4.trans (h5.mono h4.size); have b5 := b4.trans (h5.mono b4.size); clear c0 c1 c2 c3 c4 z1; clear z0 z3 qq j0 j1 j2; obtain ⟨c0, c1, c2, c3, c4, z1⟩ := boxesB b5; obtain ⟨j0, j1, j2⟩ := boxOne g5; have z0 : w.heap.size < w5.heap.size := (by omega); have z3 : w3.heap.size < w5.heap.size := (by have := g5.size; simp at this; omega); have m5 := mon_below (Nat.le_refl _) h5 m4)
      | (have qq := b2; refine (add_any _ _ _ _ _ _ _ (mon_alloc m2)).mono ?_; rintro e w3 ⟨X, M, D, E, rfl, i2, h3⟩; obtain ⟨rfl, rfl, rfl, rfl⟩ := X2.out _ _ _ _ i2; clear i2; have b3 := (b2.alloc (by have := b2.size; exact this) _).trans (h3.mono (by have := b2.size; simp at this ⊢; omega)); clear c0 c1 c2 c3 c4 z1; clear z0 qq; obtain ⟨c0, c1, c2, c3, c4, z1⟩ := boxesB b3; have z0 : w.heap.size < w3.heap.size := (by omega); have m3 := mon_below (Nat.le_refl _) h3 (mon_alloc m2))
      | (refine (add_any _ _ _ _ _ _ _ m1).mono ?_; rintro e w2 ⟨Y1, M1, D1, E1, rfl, i1, h2⟩; obtain ⟨rfl, rfl, rfl, rfl⟩ := F1.out _ _ _ _ i1; clear i1; have b2 := b1.trans (h2.mono b1.size); clear c0 c1 c2 c3 c4 z1; obtain ⟨c0, c1, c2, c3, c4, z1⟩ := boxesB b2; have z0 : w.heap.size < w2.heap.size := (by omega); have m2 := mon_below (Nat.le_refl _) h2 m1))))
  go_ret
  exact ⟨rfl, ((((Below.refl _ _).alloc (Nat.le_refl _) _).alloc (by simp) _).trans (b5.mono (by simp; omega))).alloc (by omega) _⟩

set_option maxHeartbeats 2000000 in
theorem ten_u3_cut (y m d N n q : Int) (w : World) (hM : Mon w) (t : tenB N 3 = true) (h : exB y m d = true) (f1 : n ≤ 109573) (f2 : -109573 ≤ n) (hq : q = 12 * (y - 1900) + m - 1 + N * n) (k1 : 0 ≤ q) (k2 : q < 3600) (F2 : RowKit.Hid (∀ Y M D E, AddIs y m d N 3 n Y M D E → Y = 1900 + q / 12 ∧ M = q % 12 + 1 ∧ D = cutD (1900 + q / 12) (q % 12 + 1) d ∧ E = 0)) (c : ¬ d ≤ len (1900 + q / 12) (q % 12 + 1)) : tenCall y m d N 3 n w := by
  have F0 := Lib.hid (day_t h)
  have F1 := Lib.hid (p := ∀ Y M D E, AddIs y m d 1 1 0 Y M D E → y = Y ∧ m = M ∧ d = D ∧ E = 0) (fun _ _ _ _ i => flip4 (still h i))
  obtain ⟨h1, h2, h3, h4, h5, h6⟩ := ex_out h
  have ld := (len_bd y m).2
  have h7 : d ≤ 31 := by omega
  obtain ⟨t1, t2, t3, t4⟩ := ten_out t
  have pb := prod_bd t1 t2 f1 f2
  have q1 : -10000000000 ≤ N * n := by omega
  have q2 : N * n ≤ 10000000000 := by omega
  have HQ := Lib.hid hq
  have xe := cut_ex (d := d) h5 k1 k2
  have lb := len_bd (1900 + q / 12) (q % 12 + 1)
  obtain ⟨lb1, lb2⟩ := lb
  have ev : 12 * (1900 + q / 12) + (q % 12 + 1) = 12 * y + m + N * n := by omega
  have cd : cutD (1900 + q / 12) (q % 12 + 1) d = len (1900 + q / 12) (q % 12 + 1) := by unfold cutD; rw [if_neg c]
  have mm : q % 12 + 1 < 12 := by
    by_cases e : q % 12 + 1 = 12
    · exfalso; rw [e] at c; apply c; have : len (1900 + q / 12) 12 = 31 := by simp [len]
      omega
    · omega
  have nx := next_first (Y := 1900 + q / 12) (show 1 ≤ q % 12 + 1 by omega) mm
  have fx : exB (1900 + q / 12) (q % 12 + 1 + 1) 1 = true := ex_mk ⟨by omega, by omega, by omega, by omega, by omega, by have := (len_bd (1900 + q / 12) (q % 12 + 1 + 1)).1; omega⟩
  have fb := num_bd fx
  have B3 : ∀ Y M D E, AddIs y m d 1 3 (N * n) Y M D E → Y = 1900 + q / 12 ∧ M = q % 12 + 1 ∧ D = cutD (1900 + q / 12) (q % 12 + 1) d ∧ E = 0 := fun _ _ _ _ i => by_ones h hq k1 k2 i
  have BQ1 : 1900 ≤ 1900 + q / 12 := by omega
  have BQ2 : 1900 + q / 12 ≤ 2199 := by omega
  have BM1 : 1 ≤ q % 12 + 1 := by omega
  have BM2 : q % 12 + 1 ≤ 12 := by omega
  clear hq HQ k1 k2
  generalize 1900 + q / 12 = QY at *
  generalize q % 12 + 1 = QM at *
  rw [cd] at xe
  have dl : len QY QM < d := by omega
  have nb := num_bd xe
  have F3 := Lib.hid B3
  have X2 := Lib.hid (p := ∀ Y M D E, AddIs y m d N 3 n Y M D E → QY = Y ∧ QM = M ∧ len QY QM = D ∧ E = 0) (fun Y M D E i => by rw [← cd]; exact flip4 (F2.out Y M D E i))
  have X3 := Lib.hid (p := ∀ Y M D E, AddIs y m d 1 3 (N * n) Y M D E → QY = Y ∧ QM = M ∧ len QY QM = D ∧ E = 0) (fun Y M D E i => by rw [← cd]; exact flip4 (B3 Y M D E i))
  have K := Lib.hid (day_t xe)
  obtain ⟨nb1, nb2, _, _⟩ := nb
  have NE : ¬ 12 * QY + QM = 12 * y + m + N * n → False := fun g => g ev
  clear F2 F3 B3 cd
  have NX := Lib.hid nx
  have DT := Lib.hid (p := ∀ Y M D, exB Y M D = true → num Y M D = num QY QM (len QY QM) + 1 → QY = Y ∧ QM + 1 = M ∧ 1 = D) (fun Y M D a b => num_inj fx a (nx.trans b.symm))
  have fr : num QY QM (len QY QM) + 1 < 109573 := by omega
  clear nx fx fb c mm
  clear NE
  clear F0
  have F0 := Lib.hid (day_t h)
  go_enter Tryd.func6, Tryd.ntmps6
  go_wp2_with (first
    | (go_at_call 12; refine (numE_any _ _).mono ?_; rintro e w' ⟨rfl, rfl⟩)
    | (go_at_call 14; (first
      | (have qq := b3; refine (day_any _ _ _ _ (mon_alloc m3)).mono ?_; rintro e w4 ⟨rfl, h4⟩; rw [K.out.1, K.out.2]; have b4 := (b3.alloc (by have := b3.size; exact this) _).trans (h4.mono (by have := b3.size; simp at this ⊢; omega)); clear c0 c1 c2 c3 c4 z1; clear z0 qq; obtain ⟨c0, c1, c2, c3, c4, z1⟩ := boxesB b4; obtain ⟨j0, j1, j2⟩ := boxOne h4; have z0 : w.heap.size < w4.heap.size := (by omega); have z3 : w3.heap.size < w4.heap.size := (by have := h4.size; simp at this; omega); have m4 := mon_below (Nat.le_refl _) h4 (mon_alloc m3))
      | (refine (day_any _ _ _ _ (mon_alloc (mon_alloc hM))).mono ?_; rintro e w1 ⟨rfl, b1⟩; rw [F0.out.1, F0.out.2]; obtain ⟨c0, c1, c2, c3, c4, z1⟩ := boxesB b1; have m1 := mon_below (Nat.le_refl _) b1 (mon_alloc (mon_alloc hM)))))
    | (go_at_call 16; (first
      | (have qq := b4; refine (add_any _ _ _ _ _ _ _ m4).mono ?_; rintro e w5 ⟨Y5, M5, D5, E5, rfl, i5, h5⟩; obtain ⟨rfl, rfl, rfl, rfl⟩ := X3.out _ _ _ _ i5; clear i5; have g5 := h4.trans (h5.mono h4.size); have b5 := b4.trans (h5.mono b4.size); clear c0 c1 c2 c3 c4 z1; clear z0 z3 qq j0 j1 j2; obtain ⟨c0, c1, c2, c3, c4, z1⟩ := boxesB b5; obtain ⟨j0, j1, j2⟩ := boxOne g5; have z0 : w.heap.size < w5.heap.size := (by omega); have z3 : w3.heap.size < w5.heap.size := (by have := g5.size; simp at this; omega); have m5 := mon_below (Nat.le_refl _) h5 m4)
      | (have qq := b2; refine (add_any _ _ _ _ _ _ _ (mon_alloc m2)).mono ?_; rintro e w3 ⟨X, M, D, E, rfl, i2, h3⟩; obtain ⟨rfl, rfl, rfl, rfl⟩ := X2.out _ _ _ _ i2; clear i2; have b3 := (b2.alloc (by have := b2.size; exact this) _).trans (h3.mono (by have := b2.size; simp at this ⊢; omega)); clear c0 c1 c2 c3 c4 z1; clear z0 qq; obtain ⟨c0, c1, c2, c3, c4, z1⟩ := boxesB b3; have z0 : w.heap.size < w3.heap.size := (by omega); have m3 := mon_below (Nat.le_refl _) h3 (mon_alloc m2))
      | (refine (add_any _ _ _ _ _ _ _ m1).mono ?_; rintro e w2 ⟨Y1, M1, D1, E1, rfl, i1, h2⟩; obtain ⟨rfl, rfl, rfl, rfl⟩ := F1.out _ _ _ _ i1; clear i1; have b2 := b1.trans (h2.mono b1.size); clear c0 c1 c2 c3 c4 z1; obtain ⟨c0, c1, c2, c3, c4, z1⟩ := boxesB b2; have z0 : w.heap.size < w2.heap.size := (by omega); have m2 := mon_below (Nat.le_refl _) h2 m1)))
    | (go_at_call 15; refine (date_yes _ _ (mon_alloc m5) (by omega) fr).mono ?_; rintro e w6 ⟨Y6, M6, D6, rfl, e6, n6, h6⟩; obtain ⟨rfl, rfl, rfl⟩ := DT.out _ _ _ e6 n6; clear e6 n6))
  go_ret
  exact ⟨rfl, ((((((Below.refl _ _).alloc (Nat.le_refl _) _).alloc (by simp) _).trans (b5.mono (by simp; omega))).alloc (by omega) _).trans (h6.mono (by simp; omega))).alloc (by have := h6.size; simp at this; omega) _⟩

set_option maxHeartbeats 2000000 in
theorem ten_u4_same (y m d N n q : Int) (w : World) (hM : Mon w) (t : tenB N 4 = true) (h : exB y m d = true) (f1 : n ≤ 109573) (f2 : -109573 ≤ n) (hq : q = 12 * (y - 1900) + m - 1 + 12 * (N * n)) (k1 : 0 ≤ q) (k2 : q < 3600) (F2 : RowKit.Hid (∀ Y M D E, AddIs y m d N 4 n Y M D E → Y = 1900 + q / 12 ∧ M = q % 12 + 1 ∧ D = cutD (1900 + q / 12) (q % 12 + 1) d ∧ E = 0)) (c : d ≤ len (1900 + q / 12) (q % 12 + 1)) : tenCall y m d N 4 n w := by
  have F0 := Lib.hid (day_t h)
  have F1 := Lib.hid (p := ∀ Y M D E, AddIs y m d 1 1 0 Y M D E → y = Y ∧ m = M ∧ d = D ∧ E = 0) (fun _ _ _ _ i => flip4 (still h i))
  obtain ⟨h1, h2, h3, h4, h5, h6⟩ := ex_out h
  have ld := (len_bd y m).2
  have h7 : d ≤ 31 := by omega
  obtain ⟨t1, t2, t3, t4⟩ := ten_out t
  have pb := prod_bd t1 t2 f1 f2
  have q1 : -10000000000 ≤ 12 * (N * n) := by omega
  have q2 : 12 * (N * n) ≤ 10000000000 := by omega
  have HQ := Lib.hid hq
  have xe := cut_ex (d := d) h5 k1 k2
  have lb := len_bd (1900 + q / 12) (q % 12 + 1)
  obtain ⟨lb1, lb2⟩ := lb
  have ev : 12 * (1900 + q / 12) + (q % 12 + 1) = 12 * y + m + 12 * (N * n) := by omega
  have cd : cutD (1900 + q / 12) (q % 12 + 1) d = d := by unfold cutD; rw [if_pos c]
  have B3 : ∀ Y M D E, AddIs y m d 1 3 (12 * (N * n)) Y M D E → Y = 1900 + q / 12 ∧ M = q % 12 + 1 ∧ D = cutD (1900 + q / 12) (q % 12 + 1) d ∧ E = 0 := fun _ _ _ _ i => by_ones h hq k1 k2 i
  have BQ1 : 1900 ≤ 1900 + q / 12 := by omega
  have BQ2 : 1900 + q / 12 ≤ 2199 := by omega
  have BM1 : 1 ≤ q % 12 + 1 := by omega
  have BM2 : q % 12 + 1 ≤ 12 := by omega
  clear hq HQ k1 k2
  generalize 1900 + q / 12 = QY at *
  generalize q % 12 + 1 = QM at *
  rw [cd] at xe
  have nb := num_bd xe
  have F3 := Lib.hid B3
  have X2 := Lib.hid (p := ∀ Y M D E, AddIs y m d N 4 n Y M D E → QY = Y ∧ QM = M ∧ d = D ∧ E = 0) (fun Y M D E i => by rw [← cd]; exact flip4 (F2.out Y M D E i))
  have X3 := Lib.hid (p := ∀ Y M D E, AddIs y m d 1 3 (12 * (N * n)) Y M D E → QY = Y ∧ QM = M ∧ d = D ∧ E = 0) (fun Y M D E i => by rw [← cd]; exact flip4 (B3 Y M D E i))
  have K := Lib.hid (day_t xe)
  obtain ⟨nb1, nb2, _, _⟩ := nb
  have NE : ¬ 12 * QY + QM = 12 * y + m + 12 * (N * n) → False := fun g => g ev
  clear F2 F3 B3 cd
  clear NE
  clear F0
  have F0 := Lib.hid (day_t h)
  go_enter Tryd.func6, Tryd.ntmps6
  go_wp2_with (first
    | (go_at_call 12; refine (numE_any _ _).mono ?_; rintro e w' ⟨rfl, rfl⟩)
    | (go_at_call 14; (first
      | (have qq := b3; refine (day_any _ _ _ _ (mon_alloc m3)).mono ?_; rintro e w4 ⟨rfl, h4⟩; rw [K.out.1, K.out.2]; have b4 := (b3.alloc (by have := b3.size; exact this) _).trans (h4.mono (by have := b3.size; simp at this ⊢; omega)); clear c0 c1 c2 c3 c4 z1; clear z0 qq; obtain ⟨c0, c1, c2, c3, c4, z1⟩ := boxesB b4; obtain ⟨j0, j1, j2⟩ := boxOne h4; have z0 : w.heap.size < w4.heap.size := (by omega); have z3 : w3.heap.size < w4.heap.size := (by have := h4.size; simp at this; omega); have m4 := mon_below (Nat.le_refl _) h4 (mon_alloc m3))
      | (refine (day_any _ _ _ _ (mon_alloc (mon_alloc hM))).mono ?_; rintro e w1 ⟨rfl, b1⟩; rw [F0.out.1, F0.out.2]; obtain ⟨c0, c1, c2, c3, c4, z1⟩ := boxesB b1; have m1 := mon_below (Nat.le_refl _) b1 (mon_alloc (mon_alloc hM)))))
    | (go_at_call 16; (first
      | (have qq := b4; refine (add_any _ _ _ _ _ _ _ m4).mono ?_; rintro e w5 ⟨Y5, M5, D5, E5, rfl, i5, h5⟩; obtain ⟨rfl, rfl, rfl, rfl⟩ := X3.out _ _ _ _ i5; clear i5; have g5 := h4.trans (h5.mono h4.size); have b5 := b4.trans (h5.mono b4.size); clear c0 c1 c2 c3 c4 z1; clear z0 z3 qq j0 j1 j2; obtain ⟨c0, c1, c2, c3, c4, z1⟩ := boxesB b5; obtain ⟨j0, j1, j2⟩ := boxOne g5; have z0 : w.heap.size < w5.heap.size := (by omega); have z3 : w3.heap.size < w5.heap.size := (by have := g5.size; simp at this; omega); have m5 := mon_below (Nat.le_refl _) h5 m4)
      | (have qq := b2; refine (add_any _ _ _ _ _ _ _ (mon_alloc m2)).mono ?_; rintro e w3 ⟨X, M, D, E, rfl, i2, h3⟩; obtain ⟨rfl, rfl, rfl, rfl⟩ := X2.out _ _ _ _ i2; clear i2; have b3 := (b2.alloc (by have := b2.size; exact this) _).trans (h3.mono (by have := b2.size; simp at this ⊢; omega)); clear c0 c1 c2 c3 c4 z1; clear z0 qq; obtain ⟨c0, c1, c2, c3, c4, z1⟩ := boxesB b3; have z0 : w.heap.size < w3.heap.size := (by omega); have m3 := mon_below (Nat.le_refl _) h3 (mon_alloc m2))
      | (refine (add_any _ _ _ _ _ _ _ m1).mono ?_; rintro e w2 ⟨Y1, M1, D1, E1, rfl, i1, h2⟩; obtain ⟨rfl, rfl, rfl, rfl⟩ := F1.out _ _ _ _ i1; clear i1; have b2 := b1.trans (h2.mono b1.size); clear c0 c1 c2 c3 c4 z1; obtain ⟨c0, c1, c2, c3, c4, z1⟩ := boxesB b2; have z0 : w.heap.size < w2.heap.size := (by omega); have m2 := mon_below (Nat.le_refl _) h2 m1))))
  go_ret
  exact ⟨rfl, ((((Below.refl _ _).alloc (Nat.le_refl _) _).alloc (by simp) _).trans (b5.mono (by simp; omega))).alloc (by omega) _⟩

set_option maxHeartbeats 2000000 in
theorem ten_u4_cut (y m d N n q : Int) (w : World) (hM : Mon w) (t : tenB N 4 = true) (h : exB y m d = true) (f1 : n ≤ 109573) (f2 : -109573 ≤ n) (hq : q = 12 * (y - 1900) + m - 1 + 12 * (N * n)) (k1 : 0 ≤ q) (k2 : q < 3600) (F2 : RowKit.Hid (∀ Y M D E, AddIs y m d N 4 n Y M D E → Y = 1900 + q / 12 ∧ M = q % 12 + 1 ∧ D = cutD (1900 + q / 12) (q % 12 + 1) d ∧ E = 0)) (c : ¬ d ≤ len (1900 + q / 12) (q % 12 + 1)) : tenCall y m d N 4 n w := by
  have F0 := Lib.hid (day_t h)
  have F1 := Lib.hid (p := ∀ Y M D E, AddIs y m d 1 1 0 Y M D E → y = Y ∧ m = M ∧ d = D ∧ E = 0) (fun _ _ _ _ i => flip4 (still h i))
  obtain ⟨h1, h2, h3, h4, h5, h6⟩ := ex_out h
  have ld := (len_bd y m).2
  have h7 : d ≤ 31 := by omega
  obtain ⟨t1, t2, t3, t4⟩ := ten_out t
  have pb := prod_bd t1 t2 f1 f2
  have q1 : -10000000000 ≤ 12 * (N * n) := by omega
  have q2 : 12 * (N * n) ≤ 10000000000 := by omega
  have HQ := Lib.hid hq
  have xe := cut_ex (d := d) h5 k1 k2
  have lb := len_bd (1900 + q / 12) (q % 12 + 1)
  obtain ⟨lb1, lb2⟩ := lb
  have ev : 12 * (1900 + q / 12) + (q % 12 + 1) = 12 * y + m + 12 * (N * n) := by omega
  have cd : cutD (1900 + q / 12) (q % 12 + 1) d = len (1900 + q / 12) (q % 12 + 1) := by unfold cutD; rw [if_neg c]
  have mm : q % 12 + 1 < 12 := by
    by_cases e : q % 12 + 1 = 12
    · exfalso; rw [e] at c; apply c; have : len (1900 + q / 12) 12 = 31 := by simp [len]
      omega
    · omega
  have nx := next_first (Y := 1900 + q / 12) (show 1 ≤ q % 12 + 1 by omega) mm
  have fx : exB (1900 + q / 12) (q % 12 + 1 + 1) 1 = true := ex_mk ⟨by omega, by omega, by omega, by omega, by omega, by have := (len_bd (1900 + q / 12) (q % 12 + 1 + 1)).1; omega⟩
  have fb := num_bd fx
  have B3 : ∀ Y M D E, AddIs y m d 1 3 (12 * (N * n)) Y M D E → Y = 1900 + q / 12 ∧ M = q % 12 + 1 ∧ D = cutD (1900 + q / 12) (q % 12 + 1) d ∧ E = 0 := fun _ _ _ _ i => by_ones h hq k1 k2 i
  have BQ1 : 1900 ≤ 1900 + q / 12 := by omega
  have BQ2 : 1900 + q / 12 ≤ 2199 := by omega
  have BM1 : 1 ≤ q % 12 + 1 := by omega
  have BM2 : q % 12 + 1 ≤ 12 := by omega
  clear hq HQ k1 k2
  generalize 1900 + q / 12 = QY at *
  generalize q % 12 + 1 = QM at *
  rw [cd] at xe
  have dl : len QY QM < d := by omega
  have nb := num_bd xe
  have F3 := Lib.hid B3
  have X2 := Lib.hid (p := ∀ Y M D E, AddIs y m d N 4 n Y M D E → QY = Y ∧ QM = M ∧ len QY QM = D ∧ E = 0) (fun Y M D E i => by rw [← cd]; exact flip4 (F2.out Y M D E i))
  have X3 := Lib.hid (p := ∀ Y M D E, AddIs y m d 1 3 (12 * (N * n)) Y M D E → QY = Y ∧ QM = M ∧ len QY QM = D ∧ E = 0) (fun Y M D E i => by rw [← cd]; exact flip4 (B3 Y M D E i))
  have K := Lib.hid (day_t xe)
  obtain ⟨nb1, nb2, _, _⟩ := nb
  have NE : ¬ 12 * QY + QM = 12 * y + m + 12 * (N * n) → False := fun g => g ev
  clear F2 F3 B3 cd
  have NX := Lib.hid nx
  have DT := Lib.hid (p := ∀ Y M D, exB Y M D = true → num Y M D = num QY QM (len QY QM) + 1 → QY = Y ∧ QM + 1 = M ∧ 1 = D) (fun Y M D a b => num_inj fx a (nx.trans b.symm))
  have fr : num QY QM (len QY QM) + 1 < 109573 := by omega
  clear nx fx fb c mm
  clear NE
  clear F0
  have F0 := Lib.hid (day_t h)
  go_enter Tryd.func6, Tryd.ntmps6
  go_wp2_with (first
    | (go_at_call 12; refine (numE_any _ _).mono ?_; rintro e w' ⟨rfl, rfl⟩)
    | (go_at_call 14; (first
      | (have qq := b3; refine (day_any _ _ _ _ (mon_alloc m3)).mono ?_; rintro e w4 ⟨rfl, h4⟩; rw [K.out.1, K.out.2]; have b4 := (b3.alloc (by have := b3.size; exact this) _).trans (h4.mono (by have := b3.size; simp at this ⊢; omega)); clear c0 c1 c2 c3 c4 z1; clear z0 qq; obtain ⟨c0, c1, c2, c3, c4, z1⟩ := boxesB b4; obtain ⟨j0, j1, j2⟩ := boxOne h4; have z0 : w.heap.size < w4.heap.size := (by omega); have z3 : w3.heap.size < w4.heap.size := (by have := h4.size; simp at this; omega); have m4 := mon_below (Nat.le_refl _) h4 (mon_alloc m3))
      | (refine (day_any _ _ _ _ (mon_alloc (mon_alloc hM))).mono ?_; rintro e w1 ⟨rfl, b1⟩; rw [F0.out.1, F0.out.2]; obtain ⟨c0, c1, c2, c3, c4, z1⟩ := boxesB b1; have m1 := mon_below (Nat.le_refl _) b1 (mon_alloc (mon_alloc hM)))))
    | (go_at_call 16; (first
      | (have qq := b4; refine (add_any _ _ _ _ _ _ _ m4).mono ?_; rintro e w5 ⟨Y5, M5, D5, E5, rfl, i5, h5⟩; obtain ⟨rfl, rfl, rfl, rfl⟩ := X3.out _ _ _ _ i5; clear i5; have g5 := h4.trans (h5.mono h4.size); have b5 := b4.trans (h5.mono b4.size); clear c0 c1 c2 c3 c4 z1; clear z0 z3 qq j0 j1 j2; obtain ⟨c0, c1, c2, c3, c4, z1⟩ := boxesB b5; obtain ⟨j0, j1, j2⟩ := boxOne g5; have z0 : w.heap.size < w5.heap.size := (by omega); have z3 : w3.heap.size < w5.heap.size := (by have := g5.size; simp at this; omega); have m5 := mon_below (Nat.le_refl _) h5 m4)
      | (have qq := b2; refine (add_any _ _ _ _ _ _ _ (mon_alloc m2)).mono ?_; rintro e w3 ⟨X, M, D, E, rfl, i2, h3⟩; obtain ⟨rfl, rfl, rfl, rfl⟩ := X2.out _ _ _ _ i2; clear i2; have b3 := (b2.alloc (by have := b2.size; exact this) _).trans (h3.mono (by have := b2.size; simp at this ⊢; omega)); clear c0 c1 c2 c3 c4 z1; clear z0 qq; obtain ⟨c0, c1, c2, c3, c4, z1⟩ := boxesB b3; have z0 : w.heap.size < w3.heap.size := (by omega); have m3 := mon_below (Nat.le_refl _) h3 (mon_alloc m2))
      | (refine (add_any _ _ _ _ _ _ _ m1).mono ?_; rintro e w2 ⟨Y1, M1, D1, E1, rfl, i1, h2⟩; obtain ⟨rfl, rfl, rfl, rfl⟩ := F1.out _ _ _ _ i1; clear i1; have b2 := b1.trans (h2.mono b1.size); clear c0 c1 c2 c3 c4 z1; obtain ⟨c0, c1, c2, c3, c4, z1⟩ := boxesB b2; have z0 : w.heap.size < w2.heap.size := (by omega); have m2 := mon_below (Nat.le_refl _) h2 m1)))
    | (go_at_call 15; refine (date_yes _ _ (mon_alloc m5) (by omega) fr).mono ?_; rintro e w6 ⟨Y6, M6, D6, rfl, e6, n6, h6⟩; obtain ⟨rfl, rfl, rfl⟩ := DT.out _ _ _ e6 n6; clear e6 n6))
  go_ret
  exact ⟨rfl, ((((((Below.refl _ _).alloc (Nat.le_refl _) _).alloc (by simp) _).trans (b5.mono (by simp; omega))).alloc (by omega) _).trans (h6.mono (by simp; omega))).alloc (by have := h6.size; simp at this; omega) _⟩
end Go.Proofs.YtceomklkicpmoaaDoor
