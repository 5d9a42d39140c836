/-
  WALKS: Day, Date, Weekday (the document's), and the law CalNumbers.
-/
import Derived.Test.YtpeglcnenagkbaaDoorWCal4
namespace Go.Proofs.YtpeglcnenagkbaaDoor
open Go.RowKit
open Cal
set_option linter.unusedVariables false
set_option linter.unusedSimpArgs false

theorem ret_2b {k k' : IntKind} {a b c : Int} (h : a = b) : Ending.returned (.tuple #[.int k a, .int k' c]) = .returned (.tuple #[.int k b, .int k' c]) := by rw [h]
theorem lenR_in {y m : Int} (h1 : 1 ≤ m) (h2 : m ≤ 12) : lenR y m = len y m := by unfold lenR; rw [if_pos ⟨h1, h2⟩]

set_option maxHeartbeats 1000000 in
theorem refDay_any (y m d : Int) (w : World) :
    Calls Tryd.prog 43 #[.agg #[.int .i64 y, .int .i64 m, .int .i64 d]] w fun e w' => e = .returned (.tuple #[.int .i64 (dayV y m d), .int .i64 (dayE y m d)]) ∧ Below w.heap.size w w' := by
  cases h : exB y m d with
  | false =>
    rw [(day_f h).1, (day_f h).2]
    go_enter Tryd.func43, Tryd.ntmps43
    go_wp2_with (go_at_call 56; refine (is_any _ _ _ _).mono ?_; rintro e w1 ⟨rfl, hb⟩; rw [h])
    go_ret2
    exact ⟨rfl, ((Below.refl _ _).alloc (Nat.le_refl _) _).trans (hb.mono (by simp))⟩
  | true =>
    rw [(day_t h).1, (day_t h).2]
    obtain ⟨h1, h2, h3, h4, h5, h6⟩ := ex_out h
    have l := (len_bd y m).2
    have h7 : d ≤ 31 := by omega
    have yb := ys_bd y h1 (by omega)
    obtain ⟨yb1, yb2⟩ := yb
    clear h6 l
    go_enter Tryd.func43, Tryd.ntmps43
    go_wp2_with (go_at_call 56; refine (is_any _ _ _ _).mono ?_; rintro e w1 ⟨rfl, hb⟩; rw [h]; obtain ⟨c0, c1, c2⟩ := boxOne hb; clear h)
    go_loop [5, 6] (fun s t => ∃ k : Int, 1900 ≤ k ∧ k ≤ y ∧ t = .int .i64 k ∧ s = .int .i64 (ys k + d - 1)) (fun _ t => (y - intOf t).toNat)
    case atStart => exact ⟨1900, by omega, by omega, rfl, by rw [ys_1900]; go_num⟩
    case round =>
      obtain ⟨k, k1, k2, rfl, rfl⟩ := hrel
      have kb := ys_bd k k1 (by omega)
      obtain ⟨kb1, kb2⟩ := kb
      have lb := lp_01 k
      obtain ⟨lb1, lb2⟩ := lb
      by_cases hlt : k < y
      · have sx := Lib.hid (ys_succ k)
        go_wp2_with (go_at_call 57; refine (year_any _ _ (by omega) (by omega)).mono ?_; rintro e w' ⟨rfl, rfl⟩)
        go_round
        case rel => exact ⟨k + 1, by omega, by omega, rfl, by rw [sx.out]; go_num⟩
        case measure => simp [intOf]; omega
      · obtain rfl : k = y := by omega
        go_wp2
        go_loop [5, 7] (fun s t => ∃ j : Int, 1 ≤ j ∧ j ≤ m ∧ t = .int .i64 j ∧ s = .int .i64 (ys k + d - 1 + cum k j)) (fun _ t => (m - intOf t).toNat)
        case atStart => exact ⟨1, by omega, by omega, rfl, by rw [cum_1]; go_num⟩
        case round =>
          obtain ⟨j, j1, j2, rfl, rfl⟩ := hrel
          have cb := cum_bd k j
          have nb := len_bd k j
          obtain ⟨cb1, cb2⟩ := cb
          obtain ⟨nb1, nb2⟩ := nb
          by_cases hj : j < m
          · have cs := Lib.hid (cum_succ k j j1 (by omega))
            have lr := Lib.hid (lenR_in (y := k) j1 (show j ≤ 12 by omega))
            go_wp2_with (go_at_call 58; refine (length_any _ _ _ (by omega) (by omega)).mono ?_; rintro e w' ⟨rfl, rfl⟩; rw [lr.out])
            go_round
            case rel => exact ⟨j + 1, by omega, by omega, rfl, by rw [cs.out]; go_num⟩
            case measure => simp [intOf]; omega
          · obtain rfl : j = m := by omega
            go_wp2
            go_ret2
            exact ⟨ret_2b (by unfold num; omega), ((Below.refl _ _).alloc (Nat.le_refl _) _).trans (hb.mono (by simp))⟩

set_option maxHeartbeats 1000000 in
theorem refDate_no (n : Int) (w : World) (h : n < 0 ∨ 109573 ≤ n) :
    Calls Tryd.prog 59 #[.int .i64 n] w fun e w' => e = .returned (.tuple #[.agg #[.int .i64 0, .int .i64 0, .int .i64 0], .int .i64 2]) ∧ Below w.heap.size w w' := by
  rcases h with h | h
  · go_enter Tryd.func59, Tryd.ntmps59
    go_wp2
    exact bodyPost_ret (v := .tuple #[.agg #[.int .i64 0, .int .i64 0, .int .i64 0], .int .i64 2]) (by simp [results, Tryd.results59, go_sem]) rfl ⟨rfl, ((Below.refl _ _).alloc (Nat.le_refl _) _)⟩
  · have h' : ¬ n < 0 := by omega
    go_enter Tryd.func59, Tryd.ntmps59
    go_wp2
    exact bodyPost_ret (v := .tuple #[.agg #[.int .i64 0, .int .i64 0, .int .i64 0], .int .i64 2]) (by simp [results, Tryd.results59, go_sem]) rfl ⟨rfl, ((Below.refl _ _).alloc (Nat.le_refl _) _)⟩

set_option maxHeartbeats 2000000 in
theorem refDate_yes (n : Int) (w : World) (h0 : 0 ≤ n) (h1 : n < 109573) :
    Calls Tryd.prog 59 #[.int .i64 n] w fun e w' => ∃ y m d : Int, e = .returned (.tuple #[.agg #[.int .i64 y, .int .i64 m, .int .i64 d], .int .i64 0]) ∧ exB y m d = true ∧ num y m d = n ∧ Below w.heap.size w w' := by
  go_enter Tryd.func59, Tryd.ntmps59
  go_wp2
  go_loopw [0] (fun t W => ∃ y : Int, 1900 ≤ y ∧ ys y ≤ n ∧ t = .int .i64 (n - ys y) ∧ W = (w.alloc (.cells #[.int .i64 0, .int .i64 0, .int .i64 0] 35)).alloc (.cells #[.int .i64 y, .int .i64 1, .int .i64 1] 35)) (fun t _ => (intOf t).toNat)
  case atStart => exact ⟨1900, by omega, by rw [ys_1900]; omega, by rw [ys_1900]; go_num, rfl⟩
  case round =>
    obtain ⟨y, y1, y3, rfl, rfl⟩ := hrel
    have y2 := ys_of_lt y3 h1
    have sx := Lib.hid (ys_succ y)
    have lb := lp_01 y
    obtain ⟨lb1, lb2⟩ := lb
    have kb := ys_bd y y1 (by omega)
    obtain ⟨kb1, kb2⟩ := kb
    by_cases hc : 365 + lp y ≤ n - ys y
    · go_wp2_with (go_at_call 57; refine (year_any _ _ (by omega) (by omega)).mono ?_; rintro e w' ⟨rfl, rfl⟩)
      go_roundw
      case rel => exact ⟨y + 1, by omega, by rw [sx.out]; omega, by rw [sx.out]; go_num, rfl⟩
      case measure => simp [intOf]; omega
    · go_wp2_with (go_at_call 57; refine (year_any _ _ (by omega) (by omega)).mono ?_; rintro e w' ⟨rfl, rfl⟩)
      go_loopw [0] (fun t W => ∃ m : Int, 1 ≤ m ∧ m ≤ 12 ∧ 0 ≤ n - ys y - cum y m ∧ t = .int .i64 (n - ys y - cum y m) ∧ W = (w.alloc (.cells #[.int .i64 0, .int .i64 0, .int .i64 0] 35)).alloc (.cells #[.int .i64 y, .int .i64 m, .int .i64 1] 35)) (fun t _ => (intOf t).toNat)
      case atStart => exact ⟨1, by omega, by omega, by rw [cum_1]; omega, by rw [cum_1]; go_num, rfl⟩
      case round =>
        obtain ⟨m, m1, m2, hr, rfl, rfl⟩ := hrel
        have cb := cum_bd y m
        have nb := len_bd y m
        obtain ⟨cb1, cb2⟩ := cb
        obtain ⟨nb1, nb2⟩ := nb
        have cs := Lib.hid (cum_succ y m m1 m2)
        have lr := Lib.hid (lenR_in (y := y) m1 m2)
        by_cases hc2 : len y m ≤ n - ys y - cum y m
        · have hm : m < 12 := by
            by_cases e : m = 12
            · subst e
              have c13 := cs.out
              have h13 : cum y (12 + 1) = 365 + lp y := cum_13 y
              omega
            · omega
          go_wp2_with (go_at_call 58; refine (length_any _ _ _ (by omega) (by omega)).mono ?_; rintro e w' ⟨rfl, rfl⟩; rw [lr.out])
          go_roundw
          case rel => exact ⟨m + 1, by omega, by omega, by rw [cs.out]; omega, by rw [cs.out]; go_num, rfl⟩
          case measure => simp [intOf]; omega
        · go_wp2_with (go_at_call 58; refine (length_any _ _ _ (by omega) (by omega)).mono ?_; rintro e w' ⟨rfl, rfl⟩; rw [lr.out])
          refine bodyPost_ret (v := .tuple #[.agg #[.int .i64 y, .int .i64 m, .int .i64 (n - ys y - cum y m + 1)], .int .i64 0]) (by simp [results, Tryd.results59, go_sem]) rfl ⟨y, m, _, rfl, ex_of n y m y1 y2 m1 m2 hr (by omega), num_of n y m, ?_⟩
          exact ((Below.refl _ _).alloc (Nat.le_refl _) _).alloc (by simp) _

end Go.Proofs.YtpeglcnenagkbaaDoor
