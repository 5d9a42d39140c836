/-
  WALKS: number, Day, Date, Weekday (the program's).
-/
import Derived.Test.YtpeglcnenagkbaaDoorWCal2
import Derived.Lib.Hide
namespace Go.Proofs.YtpeglcnenagkbaaDoor
open Go.RowKit
open Cal
set_option linter.unusedVariables false
set_option linter.unusedSimpArgs false

set_option maxHeartbeats 1000000 in
theorem number_any (y m d : Int) (w : World) (hM : Mon w) (h : exB y m d = true) :
    Calls Tryd.prog 38 #[.agg #[.int .i64 y, .int .i64 m, .int .i64 d]] w fun e w' => e = .returned (.int .i64 (num y m d)) ∧ Below w.heap.size w w' := by
  obtain ⟨h1, h2, h3, h4, h5, h6⟩ := ex_out h
  have l := (len_bd y m).2
  have h7 : d ≤ 31 := by omega
  have yb := ys_bd y h1 (by omega)
  obtain ⟨yb1, yb2⟩ := yb
  clear h6 l h
  go_enter Tryd.func38, Tryd.ntmps38
  go_wp2
  go_quiet ((go_at_call 53; exact Calls.quiet_of_same (yearStart_any _ _ (by omega) (by omega))))
  go_wp2
  go_loop [3, 4] (fun s t => ∃ k : Int, 1 ≤ k ∧ k ≤ m ∧ t = .int .i64 k ∧ s = .int .i64 (ys y + d - 1 + cum y k)) (fun _ t => (m - intOf t).toNat)
  case atStart => exact ⟨1, by omega, by omega, rfl, by rw [cum_1]; go_num⟩
  case round =>
    obtain ⟨k, k1, k2, rfl, rfl⟩ := hrel
    have cb := cum_bd y k
    have lb := len_bd y k
    obtain ⟨cb1, cb2⟩ := cb
    obtain ⟨lb1, lb2⟩ := lb
    by_cases hlt : k < m
    · have cs := Lib.hid (cum_succ y k k1 (by omega))
      go_wp2_with (go_at_call 52; refine (monthLength_any _ _ _ (mon_drew (mon_alloc hM)) (by omega) (by omega) (by omega) (by omega)).mono ?_; rintro e w' ⟨rfl, rfl⟩)
      go_round
      case rel => exact ⟨k + 1, by omega, by omega, rfl, by rw [cs.out]; go_num⟩
      case measure => simp [intOf]; omega
    · obtain rfl : k = m := by omega
      go_wp2
      go_ret
      exact ⟨ret_int (by unfold num; omega), below_dr ((Below.refl _ _).alloc (Nat.le_refl _) _) _⟩

def dayV (y m d : Int) : Int := if exB y m d = true then num y m d else 0
def dayE (y m d : Int) : Int := if exB y m d = true then 0 else 21
theorem day_t {y m d : Int} (h : exB y m d = true) : dayV y m d = num y m d ∧ dayE y m d = 0 := by unfold dayV dayE; rw [if_pos h, if_pos h]; exact ⟨rfl, rfl⟩
theorem day_f {y m d : Int} (h : exB y m d = false) : dayV y m d = 0 ∧ dayE y m d = 21 := by unfold dayV dayE; rw [h]; exact ⟨rfl, rfl⟩

theorem boxOne {w w2 : World} {t : TypeId} {y m d : Int} (hb : Below (w.alloc (.cells #[.int .i64 y, .int .i64 m, .int .i64 d] t)).heap.size (w.alloc (.cells #[.int .i64 y, .int .i64 m, .int .i64 d] t)) w2) :
    w2.cell? ⟨w.heap.size, 0, none⟩ = some (.int .i64 y) ∧ w2.cell? ⟨w.heap.size, 1, none⟩ = some (.int .i64 m) ∧ w2.cell? ⟨w.heap.size, 2, none⟩ = some (.int .i64 d) := by
  obtain ⟨hc, _⟩ := bcell hb
  refine ⟨?_, ?_, ?_⟩ <;> (rw [hc _ _ (by simp)]; go_simp)

set_option maxHeartbeats 1000000 in
theorem day_any (y m d : Int) (w : World) (hM : Mon w) :
    Calls Tryd.prog 17 #[.agg #[.int .i64 y, .int .i64 m, .int .i64 d]] w fun e w' => e = .returned (.tuple #[.int .i64 (dayV y m d), .int .i64 (dayE y m d)]) ∧ Below w.heap.size w w' := by
  cases h : exB y m d with
  | false =>
    rw [(day_f h).1, (day_f h).2]
    go_enter Tryd.func17, Tryd.ntmps17
    go_wp2_with (go_at_call 37; refine (exists_any _ _ _ _ (mon_alloc hM)).mono ?_; rintro e w1 ⟨rfl, hb⟩; rw [h])
    go_ret2
    exact ⟨rfl, ((Below.refl _ _).alloc (Nat.le_refl _) _).trans (hb.mono (by simp))⟩
  | true =>
    rw [(day_t h).1, (day_t h).2]
    go_enter Tryd.func17, Tryd.ntmps17
    go_wp2_with (first
      | (go_at_call 37; refine (exists_any _ _ _ _ (mon_alloc hM)).mono ?_; rintro e w1 ⟨rfl, hb⟩; rw [h]; obtain ⟨k0, k1, k2⟩ := boxOne hb; have hM1 := mon_below (Nat.le_refl _) hb (mon_alloc hM))
      | (go_at_call 38; refine (number_any _ _ _ _ hM1 h).mono ?_; rintro e w2 ⟨rfl, hb2⟩))
    go_ret2
    exact ⟨rfl, ((Below.refl _ _).alloc (Nat.le_refl _) _).trans ((hb.trans (hb2.mono hb.size)).mono (by simp))⟩

set_option maxHeartbeats 1000000 in
theorem date_no (n : Int) (w : World) (h : n < 0 ∨ 109573 ≤ n) :
    Calls Tryd.prog 39 #[.int .i64 n] w fun e w' => e = .returned (.tuple #[.agg #[.int .i64 0, .int .i64 0, .int .i64 0], .int .i64 2]) ∧ Below w.heap.size w w' := by
  have hi : inC n = false := by unfold inC; refine decide_eq_false ?_; omega
  clear h
  go_enter Tryd.func39, Tryd.ntmps39
  go_wp2_with (go_at_call 28; refine (inCalendar_any _ _).mono ?_; rintro e w' ⟨rfl, rfl⟩; rw [hi])
  exact bodyPost_ret (v := .tuple #[.agg #[.int .i64 0, .int .i64 0, .int .i64 0], .int .i64 2]) (by simp [results, Tryd.results39, go_sem]) rfl ⟨rfl, ((Below.refl _ _).alloc (Nat.le_refl _) _)⟩

set_option maxHeartbeats 2000000 in
theorem date_yes (n : Int) (w : World) (hM : Mon w) (h0 : 0 ≤ n) (h1 : n < 109573) :
    Calls Tryd.prog 39 #[.int .i64 n] w fun e w' => ∃ y m d : Int, e = .returned (.tuple #[.agg #[.int .i64 y, .int .i64 m, .int .i64 d], .int .i64 0]) ∧ exB y m d = true ∧ num y m d = n ∧ Below w.heap.size w w' := by
  have hi : inC n = true := by unfold inC; exact decide_eq_true ⟨h0, h1⟩
  have g0 := ys_guess n h0
  go_enter Tryd.func39, Tryd.ntmps39
  go_wp2_with (go_at_call 28; refine (inCalendar_any _ _).mono ?_; rintro e w' ⟨rfl, rfl⟩; rw [hi])
  go_loop [4] (fun t => ∃ y : Int, 1900 ≤ y ∧ ys y ≤ n ∧ t = .int .i64 y) (fun t => (2200 - intOf t).toNat)
  case atStart => exact ⟨_, by omega, g0, rfl⟩
  case round =>
    obtain ⟨y, y1, y3, rfl⟩ := hrel
    have y2 := ys_of_lt y3 h1
    by_cases hc : ys (y + 1) ≤ n
    · go_wp2_with (go_at_call 53; refine (yearStart_any _ _ (by omega) (by omega)).mono ?_; rintro e w' ⟨rfl, rfl⟩)
      go_round
      case rel => exact ⟨y + 1, by omega, hc, rfl⟩
      case measure => simp [intOf]; omega
    · have hb := ys_bd y y1 (by omega)
      obtain ⟨hb1, hb2⟩ := hb
      have hs := Lib.hid (ys_succ y)
      have hl := lp_01 y
      clear g0
      go_wp2_with (go_at_call 53; refine (yearStart_any _ _ (by omega) (by omega)).mono ?_; rintro e w' ⟨rfl, rfl⟩)
      go_loop [5, 6] (fun r k => ∃ m : Int, 1 ≤ m ∧ m ≤ 12 ∧ k = .int .i64 m ∧ 0 ≤ n - ys y - cum y m ∧ r = .int .i64 (n - ys y - cum y m)) (fun _ k => (12 - intOf k).toNat)
      case atStart => exact ⟨1, by omega, by omega, rfl, by rw [cum_1]; omega, by rw [cum_1]; go_num⟩
      case round =>
        obtain ⟨m, m1, m2, rfl, hr, rfl⟩ := hrel
        have cb := cum_bd y m
        have lb := len_bd y m
        obtain ⟨cb1, cb2⟩ := cb
        obtain ⟨lb1, lb2⟩ := lb
        have cs := Lib.hid (cum_succ y m m1 m2)
        by_cases hc2 : len y m ≤ n - ys y - cum y m
        · have hm : m < 12 := by
            by_cases e : m = 12
            · subst e
              have c13 := cs.out
              have h13 : cum y (12 + 1) = 365 + lp y := cum_13 y
              have := hs.out
              omega
            · omega
          go_wp2_with (go_at_call 52; refine (monthLength_any _ _ _ (mon_alloc hM) (by omega) (by omega) (by omega) (by omega)).mono ?_; rintro e w' ⟨rfl, rfl⟩)
          go_round
          case rel => exact ⟨m + 1, by omega, by omega, rfl, by rw [cs.out]; omega, by rw [cs.out]; go_num⟩
          case measure => simp [intOf]; omega
        · go_wp2_with (go_at_call 52; refine (monthLength_any _ _ _ (mon_alloc hM) (by omega) (by omega) (by omega) (by omega)).mono ?_; rintro e w' ⟨rfl, rfl⟩)
          refine bodyPost_ret (v := .tuple #[.agg #[.int .i64 y, .int .i64 m, .int .i64 (n - ys y - cum y m + 1)], .int .i64 0]) (by simp [results, Tryd.results39, go_sem]) rfl ⟨y, m, _, rfl, ex_of n y m y1 y2 m1 m2 hr (by omega), num_of n y m, ?_⟩
          exact (Below.refl _ _).alloc (Nat.le_refl _) _

def wkV (n : Int) : Int := if 0 ≤ n ∧ n < 109573 then n % 7 else 0
def wkE (n : Int) : Int := if 0 ≤ n ∧ n < 109573 then 0 else 2
theorem weekday_any (n : Int) (w : World) (h0 : 0 ≤ n) : Calls Tryd.prog 29 #[.int .i64 n] w fun e w' => e = .returned (.int .i64 (n % 7)) ∧ w' = w := by
  go_enter Tryd.func29, Tryd.ntmps29
  go_wp2
  go_ret
  exact ⟨rfl, rfl⟩
end Go.Proofs.YtpeglcnenagkbaaDoor
