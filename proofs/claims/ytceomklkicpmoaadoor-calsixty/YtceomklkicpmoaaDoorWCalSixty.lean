/-
  WALK: the law CalSixty.
-/
import Derived.Test.YtceomklkicpmoaaDoorWCal3b
namespace Go.Proofs.YtceomklkicpmoaaDoor
open Go.RowKit
open Cal
set_option linter.unusedVariables false
set_option linter.unusedSimpArgs false

theorem num_any (e : Int) (w : World) : Calls Tryd.prog 12 #[.int .i64 e] w fun r w' => r = .returned (.int .i64 e) ∧ w' = w := by
  go_enter Tryd.func12, Tryd.ntmps12
  go_wp2
  go_ret
  exact ⟨rfl, rfl⟩

abbrev three (w : World) (t : TypeId) (y m d y' m' d' y'' m'' d'' : Int) : World :=
  ((w.alloc (.cells #[.int .i64 y, .int .i64 m, .int .i64 d] t)).alloc (.cells #[.int .i64 y', .int .i64 m', .int .i64 d'] t)).alloc (.cells #[.int .i64 y'', .int .i64 m'', .int .i64 d''] t)
theorem boxes3 {w w2 : World} {t : TypeId} {y m d y' m' d' y'' m'' d'' : Int} (hb : Below (three w t y m d y' m' d' y'' m'' d'').heap.size (three w t y m d y' m' d' y'' m'' d'') w2) :
    w2.cell? ⟨w.heap.size, 0, none⟩ = some (.int .i64 y) ∧ w2.cell? ⟨w.heap.size, 1, none⟩ = some (.int .i64 m) ∧ w2.cell? ⟨w.heap.size, 2, none⟩ = some (.int .i64 d) ∧
    w2.cell? ⟨w.heap.size + 1, 0, none⟩ = some (.int .i64 y') ∧ w2.cell? ⟨w.heap.size + 1, 1, none⟩ = some (.int .i64 m') ∧ w2.cell? ⟨w.heap.size + 1, 2, none⟩ = some (.int .i64 d') ∧
    w2.cell? ⟨w.heap.size + 1 + 1, 0, none⟩ = some (.int .i64 y'') ∧ w2.cell? ⟨w.heap.size + 1 + 1, 1, none⟩ = some (.int .i64 m'') ∧ w2.cell? ⟨w.heap.size + 1 + 1, 2, none⟩ = some (.int .i64 d'') := by
  obtain ⟨hc, _⟩ := bcell hb
  refine ⟨?_, ?_, ?_, ?_, ?_, ?_, ?_, ?_, ?_⟩ <;> (rw [hc _ _ (by simp <;> omega)]; go_simp)
theorem th_bd (y m d y' m' d' : Int) : -200000 ≤ thV y m d y' m' d' ∧ thV y m d y' m' d' ≤ 200000 := by
  rcases ex_part y m d y' m' d' with ⟨a, b⟩ | h
  · rw [(th_yes a b).1]
    obtain ⟨p1, p2, p3, p4, p5, p6⟩ := ex_out a
    obtain ⟨q1, q2, q3, q4, q5, q6⟩ := ex_out b
    have l1 := (len_bd y m).2
    have l2 := (len_bd y' m').2
    unfold thi
    split <;> split <;> omega
  · rw [(th_no h).1]; omega

set_option maxHeartbeats 2000000 in
set_option maxRecDepth 100000 in
theorem sixty_a (y m d y' m' d' y'' m'' d'' : Int) (w : World) (hM : Mon w) (h : exB y m d = false ∨ exB y' m' d' = false) :
    Calls Tryd.prog 3 #[.agg #[.int .i64 y, .int .i64 m, .int .i64 d], .agg #[.int .i64 y', .int .i64 m', .int .i64 d'], .agg #[.int .i64 y'', .int .i64 m'', .int .i64 d'']] w fun e w' => e = .returned (.bool true) ∧ Below w.heap.size w w' := by
  have V1 := Lib.hid (p := thV 2024 1 31 2025 1 30 = 360) (by decide)
  have E1 := Lib.hid (p := thE 2024 1 31 2025 1 30 = 0) (by decide)
  have V2 := Lib.hid (p := thV y m d y' m' d' = 0) ((th_no h).1)
  have E2 := Lib.hid (p := thE y m d y' m' d' = 21) ((th_no h).2)
  obtain ⟨v3, V3⟩ : ∃ n, RowKit.Hid (thV y' m' d' y'' m'' d'' = n) := ⟨_, rfl⟩
  obtain ⟨e3, E3⟩ : ∃ n, RowKit.Hid (thE y' m' d' y'' m'' d'' = n) := ⟨_, rfl⟩
  obtain ⟨v4, V4⟩ : ∃ n, RowKit.Hid (thV y m d y'' m'' d'' = n) := ⟨_, rfl⟩
  obtain ⟨e4, E4⟩ : ∃ n, RowKit.Hid (thE y m d y'' m'' d'' = n) := ⟨_, rfl⟩
  obtain ⟨v5, V5⟩ : ∃ n, RowKit.Hid (thV y' m' d' y m d = n) := ⟨_, rfl⟩
  obtain ⟨e5, E5⟩ : ∃ n, RowKit.Hid (thE y' m' d' y m d = n) := ⟨_, rfl⟩
  clear h
  go_enter Tryd.func3, Tryd.ntmps3
  go_wp2_with (first
    | (go_at_call 12; refine (num_any _ _).mono ?_; rintro e w' ⟨rfl, rfl⟩)
    | (go_at_call 11; (first
      | (have q := b4; refine (thirty_any _ _ _ _ _ _ _ m4).mono ?_; rintro e w5 ⟨rfl, h5⟩; have b5 := b4.trans (h5.mono b4.size); have m5 := mon_below (Nat.le_refl _) h5 m4; clear q; obtain ⟨c50, c51, c52, c53, c54, c55, c56, c57, c58⟩ := boxes3 b5; rw [V5.out, E5.out])
      | (have q := b3; refine (thirty_any _ _ _ _ _ _ _ m3).mono ?_; rintro e w4 ⟨rfl, h4⟩; have b4 := b3.trans (h4.mono b3.size); have m4 := mon_below (Nat.le_refl _) h4 m3; clear q; obtain ⟨c40, c41, c42, c43, c44, c45, c46, c47, c48⟩ := boxes3 b4; rw [V4.out, E4.out])
      | (have q := b2; refine (thirty_any _ _ _ _ _ _ _ m2).mono ?_; rintro e w3 ⟨rfl, h3⟩; have b3 := b2.trans (h3.mono b2.size); have m3 := mon_below (Nat.le_refl _) h3 m2; clear q; obtain ⟨c30, c31, c32, c33, c34, c35, c36, c37, c38⟩ := boxes3 b3; rw [V3.out, E3.out])
      | (have q := b1; refine (thirty_any _ _ _ _ _ _ _ m1).mono ?_; rintro e w2 ⟨rfl, h2⟩; have b2 := b1.trans (h2.mono b1.size); have m2 := mon_below (Nat.le_refl _) h2 m1; clear q; obtain ⟨c20, c21, c22, c23, c24, c25, c26, c27, c28⟩ := boxes3 b2; rw [V2.out, E2.out])
      | (refine (thirty_any _ _ _ _ _ _ _ (mon_alloc (mon_alloc (mon_alloc hM)))).mono ?_; rintro e w1 ⟨rfl, b1⟩; have m1 := mon_below (Nat.le_refl _) b1 (mon_alloc (mon_alloc (mon_alloc hM))); obtain ⟨c10, c11, c12, c13, c14, c15, c16, c17, c18⟩ := boxes3 b1; rw [V1.out, E1.out]))))
  go_ret
  exact ⟨rfl, ((((Below.refl _ _).alloc (Nat.le_refl _) _).alloc (by simp) _).alloc (by simp; omega) _).trans (b5.mono (by simp; omega))⟩

set_option maxHeartbeats 2000000 in
set_option maxRecDepth 100000 in
theorem sixty_b (y m d y' m' d' y'' m'' d'' : Int) (w : World) (hM : Mon w) (ha : exB y m d = true) (hb : exB y' m' d' = true) (hc : exB y'' m'' d'' = false) :
    Calls Tryd.prog 3 #[.agg #[.int .i64 y, .int .i64 m, .int .i64 d], .agg #[.int .i64 y', .int .i64 m', .int .i64 d'], .agg #[.int .i64 y'', .int .i64 m'', .int .i64 d'']] w fun e w' => e = .returned (.bool true) ∧ Below w.heap.size w w' := by
  have V1 := Lib.hid (p := thV 2024 1 31 2025 1 30 = 360) (by decide)
  have E1 := Lib.hid (p := thE 2024 1 31 2025 1 30 = 0) (by decide)
  have E2 := Lib.hid (p := thE y m d y' m' d' = 0) ((th_yes ha hb).2)
  have V3 := Lib.hid (p := thV y' m' d' y'' m'' d'' = 0) ((th_no (.inr hc)).1)
  have E3 := Lib.hid (p := thE y' m' d' y'' m'' d'' = 21) ((th_no (.inr hc)).2)
  have V4 := Lib.hid (p := thV y m d y'' m'' d'' = 0) ((th_no (.inr hc)).1)
  have E4 := Lib.hid (p := thE y m d y'' m'' d'' = 21) ((th_no (.inr hc)).2)
  have E5 := Lib.hid (p := thE y' m' d' y m d = 0) ((th_yes hb ha).2)
  obtain ⟨v2, V2⟩ : ∃ n, RowKit.Hid (thV y m d y' m' d' = n) := ⟨_, rfl⟩
  obtain ⟨v5, V5⟩ : ∃ n, RowKit.Hid (thV y' m' d' y m d = n) := ⟨_, rfl⟩
  clear ha hb hc
  by_cases g1 : 30 < d <;> by_cases g2 : 30 < d' <;> by_cases g3 : 30 < d''
  all_goals
    go_enter Tryd.func3, Tryd.ntmps3
    go_wp2_with (first
      | (go_at_call 12; refine (num_any _ _).mono ?_; rintro e w' ⟨rfl, rfl⟩)
      | (go_at_call 11; (first
        | (have q := b4; refine (thirty_any _ _ _ _ _ _ _ m4).mono ?_; rintro e w5 ⟨rfl, h5⟩; have b5 := b4.trans (h5.mono b4.size); have m5 := mon_below (Nat.le_refl _) h5 m4; clear q; obtain ⟨c50, c51, c52, c53, c54, c55, c56, c57, c58⟩ := boxes3 b5; rw [V5.out, E5.out])
        | (have q := b3; refine (thirty_any _ _ _ _ _ _ _ m3).mono ?_; rintro e w4 ⟨rfl, h4⟩; have b4 := b3.trans (h4.mono b3.size); have m4 := mon_below (Nat.le_refl _) h4 m3; clear q; obtain ⟨c40, c41, c42, c43, c44, c45, c46, c47, c48⟩ := boxes3 b4; rw [V4.out, E4.out])
        | (have q := b2; refine (thirty_any _ _ _ _ _ _ _ m2).mono ?_; rintro e w3 ⟨rfl, h3⟩; have b3 := b2.trans (h3.mono b2.size); have m3 := mon_below (Nat.le_refl _) h3 m2; clear q; obtain ⟨c30, c31, c32, c33, c34, c35, c36, c37, c38⟩ := boxes3 b3; rw [V3.out, E3.out])
        | (have q := b1; refine (thirty_any _ _ _ _ _ _ _ m1).mono ?_; rintro e w2 ⟨rfl, h2⟩; have b2 := b1.trans (h2.mono b1.size); have m2 := mon_below (Nat.le_refl _) h2 m1; clear q; obtain ⟨c20, c21, c22, c23, c24, c25, c26, c27, c28⟩ := boxes3 b2; rw [V2.out, E2.out])
        | (refine (thirty_any _ _ _ _ _ _ _ (mon_alloc (mon_alloc (mon_alloc hM)))).mono ?_; rintro e w1 ⟨rfl, b1⟩; have m1 := mon_below (Nat.le_refl _) b1 (mon_alloc (mon_alloc (mon_alloc hM))); obtain ⟨c10, c11, c12, c13, c14, c15, c16, c17, c18⟩ := boxes3 b1; rw [V1.out, E1.out]))))
    go_ret
    exact ⟨rfl, ((((Below.refl _ _).alloc (Nat.le_refl _) _).alloc (by simp) _).alloc (by simp; omega) _).trans (b5.mono (by simp; omega))⟩

set_option maxHeartbeats 2000000 in
set_option maxRecDepth 100000 in
theorem sixty_c (y m d y' m' d' y'' m'' d'' : Int) (w : World) (hM : Mon w) (ha : exB y m d = true) (hb : exB y' m' d' = true) (hc : exB y'' m'' d'' = true) (g : 30 < d ∨ 30 < d' ∨ 30 < d'') :
    Calls Tryd.prog 3 #[.agg #[.int .i64 y, .int .i64 m, .int .i64 d], .agg #[.int .i64 y', .int .i64 m', .int .i64 d'], .agg #[.int .i64 y'', .int .i64 m'', .int .i64 d'']] w fun e w' => e = .returned (.bool true) ∧ Below w.heap.size w w' := by
  have V1 := Lib.hid (p := thV 2024 1 31 2025 1 30 = 360) (by decide)
  have E1 := Lib.hid (p := thE 2024 1 31 2025 1 30 = 0) (by decide)
  have E2 := Lib.hid (p := thE y m d y' m' d' = 0) ((th_yes ha hb).2)
  have E3 := Lib.hid (p := thE y' m' d' y'' m'' d'' = 0) ((th_yes hb hc).2)
  have E4 := Lib.hid (p := thE y m d y'' m'' d'' = 0) ((th_yes ha hc).2)
  have E5 := Lib.hid (p := thE y' m' d' y m d = 0) ((th_yes hb ha).2)
  obtain ⟨v2, V2⟩ : ∃ n, RowKit.Hid (thV y m d y' m' d' = n) := ⟨_, rfl⟩
  obtain ⟨v3, V3⟩ : ∃ n, RowKit.Hid (thV y' m' d' y'' m'' d'' = n) := ⟨_, rfl⟩
  obtain ⟨v4, V4⟩ : ∃ n, RowKit.Hid (thV y m d y'' m'' d'' = n) := ⟨_, rfl⟩
  obtain ⟨v5, V5⟩ : ∃ n, RowKit.Hid (thV y' m' d' y m d = n) := ⟨_, rfl⟩
  clear ha hb hc
  by_cases g1 : 30 < d <;> by_cases g2 : 30 < d' <;> by_cases g3 : 30 < d''
  all_goals first
    | (exfalso; omega)
    | skip
  all_goals
    clear g
    go_enter Tryd.func3, Tryd.ntmps3
    go_wp2_with (first
      | (go_at_call 12; refine (num_any _ _).mono ?_; rintro e w' ⟨rfl, rfl⟩)
      | (go_at_call 11; (first
        | (have q := b4; refine (thirty_any _ _ _ _ _ _ _ m4).mono ?_; rintro e w5 ⟨rfl, h5⟩; have b5 := b4.trans (h5.mono b4.size); have m5 := mon_below (Nat.le_refl _) h5 m4; clear q; obtain ⟨c50, c51, c52, c53, c54, c55, c56, c57, c58⟩ := boxes3 b5; rw [V5.out, E5.out])
        | (have q := b3; refine (thirty_any _ _ _ _ _ _ _ m3).mono ?_; rintro e w4 ⟨rfl, h4⟩; have b4 := b3.trans (h4.mono b3.size); have m4 := mon_below (Nat.le_refl _) h4 m3; clear q; obtain ⟨c40, c41, c42, c43, c44, c45, c46, c47, c48⟩ := boxes3 b4; rw [V4.out, E4.out])
        | (have q := b2; refine (thirty_any _ _ _ _ _ _ _ m2).mono ?_; rintro e w3 ⟨rfl, h3⟩; have b3 := b2.trans (h3.mono b2.size); have m3 := mon_below (Nat.le_refl _) h3 m2; clear q; obtain ⟨c30, c31, c32, c33, c34, c35, c36, c37, c38⟩ := boxes3 b3; rw [V3.out, E3.out])
        | (have q := b1; refine (thirty_any _ _ _ _ _ _ _ m1).mono ?_; rintro e w2 ⟨rfl, h2⟩; have b2 := b1.trans (h2.mono b1.size); have m2 := mon_below (Nat.le_refl _) h2 m1; clear q; obtain ⟨c20, c21, c22, c23, c24, c25, c26, c27, c28⟩ := boxes3 b2; rw [V2.out, E2.out])
        | (refine (thirty_any _ _ _ _ _ _ _ (mon_alloc (mon_alloc (mon_alloc hM)))).mono ?_; rintro e w1 ⟨rfl, b1⟩; have m1 := mon_below (Nat.le_refl _) b1 (mon_alloc (mon_alloc (mon_alloc hM))); obtain ⟨c10, c11, c12, c13, c14, c15, c16, c17, c18⟩ := boxes3 b1; rw [V1.out, E1.out]))))
    go_ret
    exact ⟨rfl, ((((Below.refl _ _).alloc (Nat.le_refl _) _).alloc (by simp) _).alloc (by simp; omega) _).trans (b5.mono (by simp; omega))⟩

set_option maxHeartbeats 2000000 in
set_option maxRecDepth 100000 in
theorem sixty_d (y m d y' m' d' y'' m'' d'' : Int) (w : World) (hM : Mon w) (ha : exB y m d = true) (hb : exB y' m' d' = true) (hc : exB y'' m'' d'' = true) (g1 : d ≤ 30) (g2 : d' ≤ 30) (g3 : d'' ≤ 30) :
    Calls Tryd.prog 3 #[.agg #[.int .i64 y, .int .i64 m, .int .i64 d], .agg #[.int .i64 y', .int .i64 m', .int .i64 d'], .agg #[.int .i64 y'', .int .i64 m'', .int .i64 d'']] w fun e w' => e = .returned (.bool true) ∧ Below w.heap.size w w' := by
  have V1 := Lib.hid (p := thV 2024 1 31 2025 1 30 = 360) (by decide)
  have E1 := Lib.hid (p := thE 2024 1 31 2025 1 30 = 0) (by decide)
  have T : ∀ a b c a' b' c' : Int, c ≤ 30 → c' ≤ 30 → thi a b c a' b' c' = 360 * (a' - a) + 30 * (b' - b) + c' - c := fun a b c a' b' c' u v => by
    unfold thi; rw [if_neg (by omega), if_neg (by omega)]
  have E2 := Lib.hid (p := thE y m d y' m' d' = 0) ((th_yes ha hb).2)
  have E3 := Lib.hid (p := thE y' m' d' y'' m'' d'' = 0) ((th_yes hb hc).2)
  have E4 := Lib.hid (p := thE y m d y'' m'' d'' = 0) ((th_yes ha hc).2)
  have E5 := Lib.hid (p := thE y' m' d' y m d = 0) ((th_yes hb ha).2)
  have V4 := Lib.hid (p := thV y m d y'' m'' d'' = thV y m d y' m' d' + thV y' m' d' y'' m'' d'') (by rw [(th_yes ha hc).1, (th_yes ha hb).1, (th_yes hb hc).1, T _ _ _ _ _ _ g1 g3, T _ _ _ _ _ _ g1 g2, T _ _ _ _ _ _ g2 g3]; omega)
  have V5 := Lib.hid (p := thV y' m' d' y m d = -thV y m d y' m' d') (by rw [(th_yes hb ha).1, (th_yes ha hb).1, T _ _ _ _ _ _ g2 g1, T _ _ _ _ _ _ g1 g2]; omega)
  have i2 := th_bd y m d y' m' d'
  have i3 := th_bd y' m' d' y'' m'' d''
  obtain ⟨v2, V2⟩ : ∃ n, RowKit.Hid (thV y m d y' m' d' = n) := ⟨_, rfl⟩
  obtain ⟨v3, V3⟩ : ∃ n, RowKit.Hid (thV y' m' d' y'' m'' d'' = n) := ⟨_, rfl⟩
  rw [V2.out] at V4 V5 i2
  rw [V3.out] at V4 i3
  obtain ⟨i2a, i2b⟩ := i2
  obtain ⟨i3a, i3b⟩ := i3
  clear ha hb hc T
  go_enter Tryd.func3, Tryd.ntmps3
  go_wp2_with (first
    | (go_at_call 12; refine (num_any _ _).mono ?_; rintro e w' ⟨rfl, rfl⟩)
    | (go_at_call 11; (first
      | (have q := b4; refine (thirty_any _ _ _ _ _ _ _ m4).mono ?_; rintro e w5 ⟨rfl, h5⟩; have b5 := b4.trans (h5.mono b4.size); have m5 := mon_below (Nat.le_refl _) h5 m4; clear q; obtain ⟨c50, c51, c52, c53, c54, c55, c56, c57, c58⟩ := boxes3 b5; rw [V5.out, E5.out])
      | (have q := b3; refine (thirty_any _ _ _ _ _ _ _ m3).mono ?_; rintro e w4 ⟨rfl, h4⟩; have b4 := b3.trans (h4.mono b3.size); have m4 := mon_below (Nat.le_refl _) h4 m3; clear q; obtain ⟨c40, c41, c42, c43, c44, c45, c46, c47, c48⟩ := boxes3 b4; rw [V4.out, E4.out])
      | (have q := b2; refine (thirty_any _ _ _ _ _ _ _ m2).mono ?_; rintro e w3 ⟨rfl, h3⟩; have b3 := b2.trans (h3.mono b2.size); have m3 := mon_below (Nat.le_refl _) h3 m2; clear q; obtain ⟨c30, c31, c32, c33, c34, c35, c36, c37, c38⟩ := boxes3 b3; rw [V3.out, E3.out])
      | (have q := b1; refine (thirty_any _ _ _ _ _ _ _ m1).mono ?_; rintro e w2 ⟨rfl, h2⟩; have b2 := b1.trans (h2.mono b1.size); have m2 := mon_below (Nat.le_refl _) h2 m1; clear q; obtain ⟨c20, c21, c22, c23, c24, c25, c26, c27, c28⟩ := boxes3 b2; rw [V2.out, E2.out])
      | (refine (thirty_any _ _ _ _ _ _ _ (mon_alloc (mon_alloc (mon_alloc hM)))).mono ?_; rintro e w1 ⟨rfl, b1⟩; have m1 := mon_below (Nat.le_refl _) b1 (mon_alloc (mon_alloc (mon_alloc hM))); obtain ⟨c10, c11, c12, c13, c14, c15, c16, c17, c18⟩ := boxes3 b1; rw [V1.out, E1.out]))))
  go_ret
  exact ⟨ret_bool (by first | rfl | simp), ((((Below.refl _ _).alloc (Nat.le_refl _) _).alloc (by simp) _).alloc (by simp; omega) _).trans (b5.mono (by simp; omega))⟩

theorem calSixty_walk (y m d y' m' d' y'' m'' d'' : Int) (w : World) (hM : Mon w) :
    Calls Tryd.prog 3 #[.agg #[.int .i64 y, .int .i64 m, .int .i64 d], .agg #[.int .i64 y', .int .i64 m', .int .i64 d'], .agg #[.int .i64 y'', .int .i64 m'', .int .i64 d'']] w fun e w' => e = .returned (.bool true) ∧ Below w.heap.size w w' := by
  rcases ex_part y m d y' m' d' with ⟨a, b⟩ | h
  · cases c : exB y'' m'' d'' with
    | false => exact sixty_b _ _ _ _ _ _ _ _ _ w hM a b c
    | true =>
      by_cases g : 30 < d ∨ 30 < d' ∨ 30 < d''
      · exact sixty_c _ _ _ _ _ _ _ _ _ w hM a b c g
      · exact sixty_d _ _ _ _ _ _ _ _ _ w hM a b c (by omega) (by omega) (by omega)
  · exact sixty_a _ _ _ _ _ _ _ _ _ w hM h
end Go.Proofs.YtceomklkicpmoaaDoor
