/-
  WALKS: the document's Thirty, and the law CalThirds.
-/
import Derived.Test.YtceomklkicpmoaaDoorWCal3
namespace Go.Proofs.YtceomklkicpmoaaDoor
open Go.RowKit
open Cal
set_option linter.unusedVariables false
set_option linter.unusedSimpArgs false

theorem boxes1 {w w2 : World} {t : TypeId} {y m d : Int} (hb : Below (w.alloc (.cells #[.int .i64 y, .int .i64 m, .int .i64 d] t)).heap.size (w.alloc (.cells #[.int .i64 y, .int .i64 m, .int .i64 d] t)) w2) :
    w2.cell? ⟨w.heap.size, 0, none⟩ = some (.int .i64 y) ∧ w2.cell? ⟨w.heap.size, 1, none⟩ = some (.int .i64 m) ∧ w2.cell? ⟨w.heap.size, 2, none⟩ = some (.int .i64 d) := by
  obtain ⟨hc, _⟩ := bcell hb
  refine ⟨?_, ?_, ?_⟩ <;> (rw [hc _ _ (by simp)]; go_simp)

set_option maxHeartbeats 1000000 in
theorem refThirty_no (y m d y' m' d' : Int) (w : World) (h : exB y m d = false ∨ exB y' m' d' = false) :
    Calls Tryd.prog 13 #[.agg #[.int .i64 y, .int .i64 m, .int .i64 d], .agg #[.int .i64 y', .int .i64 m', .int .i64 d']] w fun e w' => e = .returned (.tuple #[.int .i64 0, .int .i64 21]) ∧ Below w.heap.size w w' := by
  cases a : exB y m d <;> cases b : exB y' m' d'
  case true.true => rw [a, b] at h; rcases h with h | h <;> cases h
  all_goals
    clear h
    go_enter Tryd.func13, Tryd.ntmps13
    go_wp2_with (go_at_call 27; (first
      | (have hh := hb; refine (is_any _ _ _ _).mono ?_; rintro e w2 ⟨rfl, hb2⟩; rw [b])
      | (refine (is_any _ _ _ _).mono ?_; rintro e w1 ⟨rfl, hb⟩; rw [a]; obtain ⟨k0, k1, k2, k3, k4, k5⟩ := boxes hb)))
    go_ret2
    exact ⟨rfl, (((Below.refl _ _).alloc (Nat.le_refl _) _).alloc (by simp) _).trans ((hb.trans (hb2.mono hb.size)).mono (by simp; omega))⟩

set_option maxHeartbeats 2000000 in
theorem refThirty_yes (y m d y' m' d' : Int) (w : World) (a : exB y m d = true) (b : exB y' m' d' = true) :
    Calls Tryd.prog 13 #[.agg #[.int .i64 y, .int .i64 m, .int .i64 d], .agg #[.int .i64 y', .int .i64 m', .int .i64 d']] w fun e w' => e = .returned (.tuple #[.int .i64 (thi y m d y' m' d'), .int .i64 0]) ∧ Below w.heap.size w w' := by
  obtain ⟨p1, p2, p3, p4, p5, p6⟩ := ex_out a
  obtain ⟨q1, q2, q3, q4, q5, q6⟩ := ex_out b
  have l1 := (len_bd y m).2
  have l2 := (len_bd y' m').2
  have p7 : d ≤ 31 := by omega
  have q7 : d' ≤ 31 := by omega
  clear p6 q6 l1 l2
  have hd : d ≤ 29 ∨ d = 30 ∨ d = 31 := by omega
  have hd' : d' ≤ 30 ∨ d' = 31 := by omega
  rcases hd with c1 | rfl | rfl <;> rcases hd' with c2 | rfl
  · have T : thi y m d y' m' d' = 360 * (y' - y) + 30 * (m' - m) + d' - d := by simp [thi]; try omega
    rw [T]; clear T
    go_enter Tryd.func13, Tryd.ntmps13
    go_wp2_with (go_at_call 27; (first
      | (have hh := hb; refine (is_any _ _ _ _).mono ?_; rintro e w2 ⟨rfl, hb2⟩; rw [b]; obtain ⟨j0, j1, j2, j3, j4, j5⟩ := boxes (hh.trans (hb2.mono hh.size)))
      | (refine (is_any _ _ _ _).mono ?_; rintro e w1 ⟨rfl, hb⟩; rw [a]; obtain ⟨k0, k1, k2, k3, k4, k5⟩ := boxes hb)))
    go_ret2
    exact ⟨ret_2 (by omega), (((Below.refl _ _).alloc (Nat.le_refl _) _).alloc (by simp) _).trans ((hb.trans (hb2.mono hb.size)).mono (by simp; omega))⟩
  · have T : thi y m d y' m' 31 = 360 * (y' - y) + 30 * (m' - m) + 31 - d := by simp [thi]; try omega
    rw [T]; clear T
    go_enter Tryd.func13, Tryd.ntmps13
    go_wp2_with (go_at_call 27; (first
      | (have hh := hb; refine (is_any _ _ _ _).mono ?_; rintro e w2 ⟨rfl, hb2⟩; rw [b]; obtain ⟨j0, j1, j2, j3, j4, j5⟩ := boxes (hh.trans (hb2.mono hh.size)))
      | (refine (is_any _ _ _ _).mono ?_; rintro e w1 ⟨rfl, hb⟩; rw [a]; obtain ⟨k0, k1, k2, k3, k4, k5⟩ := boxes hb)))
    go_ret2
    exact ⟨ret_2 (by omega), (((Below.refl _ _).alloc (Nat.le_refl _) _).alloc (by simp) _).trans ((hb.trans (hb2.mono hb.size)).mono (by simp; omega))⟩
  · have T : thi y m 30 y' m' d' = 360 * (y' - y) + 30 * (m' - m) + d' - 30 := by simp [thi]; try omega
    rw [T]; clear T
    go_enter Tryd.func13, Tryd.ntmps13
    go_wp2_with (go_at_call 27; (first
      | (have hh := hb; refine (is_any _ _ _ _).mono ?_; rintro e w2 ⟨rfl, hb2⟩; rw [b]; obtain ⟨j0, j1, j2, j3, j4, j5⟩ := boxes (hh.trans (hb2.mono hh.size)))
      | (refine (is_any _ _ _ _).mono ?_; rintro e w1 ⟨rfl, hb⟩; rw [a]; obtain ⟨k0, k1, k2, k3, k4, k5⟩ := boxes hb)))
    go_ret2
    exact ⟨ret_2 (by omega), (((Below.refl _ _).alloc (Nat.le_refl _) _).alloc (by simp) _).trans ((hb.trans (hb2.mono hb.size)).mono (by simp; omega))⟩
  · have T : thi y m 30 y' m' 31 = 360 * (y' - y) + 30 * (m' - m) + 30 - 30 := by simp [thi]; try omega
    rw [T]; clear T
    go_enter Tryd.func13, Tryd.ntmps13
    go_wp2_with (go_at_call 27; (first
      | (have hh := hb; refine (is_any _ _ _ _).mono ?_; rintro e w2 ⟨rfl, hb2⟩; rw [b]; obtain ⟨j0, j1, j2, j3, j4, j5⟩ := boxes (hh.trans (hb2.mono hh.size)))
      | (refine (is_any _ _ _ _).mono ?_; rintro e w1 ⟨rfl, hb⟩; rw [a]; obtain ⟨k0, k1, k2, k3, k4, k5⟩ := boxes hb)))
    go_ret2
    exact ⟨ret_2 (by omega), (((Below.refl _ _).alloc (Nat.le_refl _) _).alloc (by simp) _).trans ((hb.trans (hb2.mono hb.size)).mono (by simp; omega))⟩
  · have T : thi y m 31 y' m' d' = 360 * (y' - y) + 30 * (m' - m) + d' - 30 := by simp [thi]; try omega
    rw [T]; clear T
    go_enter Tryd.func13, Tryd.ntmps13
    go_wp2_with (go_at_call 27; (first
      | (have hh := hb; refine (is_any _ _ _ _).mono ?_; rintro e w2 ⟨rfl, hb2⟩; rw [b]; obtain ⟨j0, j1, j2, j3, j4, j5⟩ := boxes (hh.trans (hb2.mono hh.size)))
      | (refine (is_any _ _ _ _).mono ?_; rintro e w1 ⟨rfl, hb⟩; rw [a]; obtain ⟨k0, k1, k2, k3, k4, k5⟩ := boxes hb)))
    go_ret2
    exact ⟨ret_2 (by omega), (((Below.refl _ _).alloc (Nat.le_refl _) _).alloc (by simp) _).trans ((hb.trans (hb2.mono hb.size)).mono (by simp; omega))⟩
  · have T : thi y m 31 y' m' 31 = 360 * (y' - y) + 30 * (m' - m) + 30 - 30 := by simp [thi]; try omega
    rw [T]; clear T
    go_enter Tryd.func13, Tryd.ntmps13
    go_wp2_with (go_at_call 27; (first
      | (have hh := hb; refine (is_any _ _ _ _).mono ?_; rintro e w2 ⟨rfl, hb2⟩; rw [b]; obtain ⟨j0, j1, j2, j3, j4, j5⟩ := boxes (hh.trans (hb2.mono hh.size)))
      | (refine (is_any _ _ _ _).mono ?_; rintro e w1 ⟨rfl, hb⟩; rw [a]; obtain ⟨k0, k1, k2, k3, k4, k5⟩ := boxes hb)))
    go_ret2
    exact ⟨ret_2 (by omega), (((Below.refl _ _).alloc (Nat.le_refl _) _).alloc (by simp) _).trans ((hb.trans (hb2.mono hb.size)).mono (by simp; omega))⟩

/-- What Thirty answers, as one. -/
def thV (y m d y' m' d' : Int) : Int := if exB y m d = true ∧ exB y' m' d' = true then thi y m d y' m' d' else 0
def thE (y m d y' m' d' : Int) : Int := if exB y m d = true ∧ exB y' m' d' = true then 0 else 21
theorem th_no {y m d y' m' d' : Int} (h : exB y m d = false ∨ exB y' m' d' = false) : thV y m d y' m' d' = 0 ∧ thE y m d y' m' d' = 21 := by
  have : ¬ (exB y m d = true ∧ exB y' m' d' = true) := by rintro ⟨a, b⟩; rw [a, b] at h; rcases h with h | h <;> cases h
  unfold thV thE; rw [if_neg this, if_neg this]; exact ⟨rfl, rfl⟩
theorem th_yes {y m d y' m' d' : Int} (a : exB y m d = true) (b : exB y' m' d' = true) : thV y m d y' m' d' = thi y m d y' m' d' ∧ thE y m d y' m' d' = 0 := by
  unfold thV thE; rw [if_pos ⟨a, b⟩, if_pos ⟨a, b⟩]; exact ⟨rfl, rfl⟩
theorem ex_part (y m d y' m' d' : Int) : (exB y m d = true ∧ exB y' m' d' = true) ∨ (exB y m d = false ∨ exB y' m' d' = false) := by
  cases exB y m d <;> cases exB y' m' d' <;> simp

theorem thirty_any (y m d y' m' d' : Int) (w : World) (hM : Mon w) :
    Calls Tryd.prog 11 #[.agg #[.int .i64 y, .int .i64 m, .int .i64 d], .agg #[.int .i64 y', .int .i64 m', .int .i64 d']] w fun e w' => e = .returned (.tuple #[.int .i64 (thV y m d y' m' d'), .int .i64 (thE y m d y' m' d')]) ∧ Below w.heap.size w w' := by
  rcases ex_part y m d y' m' d' with ⟨a, b⟩ | h
  · rw [(th_yes a b).1, (th_yes a b).2]; exact thirty_yes _ _ _ _ _ _ w hM a b
  · rw [(th_no h).1, (th_no h).2]; exact thirty_no _ _ _ _ _ _ w hM h
theorem refThirty_any (y m d y' m' d' : Int) (w : World) :
    Calls Tryd.prog 13 #[.agg #[.int .i64 y, .int .i64 m, .int .i64 d], .agg #[.int .i64 y', .int .i64 m', .int .i64 d']] w fun e w' => e = .returned (.tuple #[.int .i64 (thV y m d y' m' d'), .int .i64 (thE y m d y' m' d')]) ∧ Below w.heap.size w w' := by
  rcases ex_part y m d y' m' d' with ⟨a, b⟩ | h
  · rw [(th_yes a b).1, (th_yes a b).2]; exact refThirty_yes _ _ _ _ _ _ w a b
  · rw [(th_no h).1, (th_no h).2]; exact refThirty_no _ _ _ _ _ _ w h

set_option maxHeartbeats 1000000 in
theorem calThirds_walk (y m d y' m' d' : Int) (w : World) (hM : Mon w) :
    Calls Tryd.prog 4 #[.agg #[.int .i64 y, .int .i64 m, .int .i64 d], .agg #[.int .i64 y', .int .i64 m', .int .i64 d']] w fun e w' => e = .returned (.bool true) ∧ Below w.heap.size w w' := by
  generalize hv : thV y m d y' m' d' = v
  generalize hx : thE y m d y' m' d' = x
  have V := Lib.hid hv
  have X := Lib.hid hx
  clear hv hx
  go_enter Tryd.func4, Tryd.ntmps4
  go_wp2_with (first
    | (go_at_call 11; refine (thirty_any _ _ _ _ _ _ _ (mon_alloc (mon_alloc hM))).mono ?_; rintro e w1 ⟨rfl, hb⟩; rw [V.out, X.out]; obtain ⟨k0, k1, k2, k3, k4, k5⟩ := boxes hb)
    | (go_at_call 13; refine (refThirty_any _ _ _ _ _ _ _).mono ?_; rintro e w2 ⟨rfl, hb2⟩; rw [V.out, X.out]))
  go_ret
  exact ⟨rfl, (((Below.refl _ _).alloc (Nat.le_refl _) _).alloc (by simp) _).trans ((hb.trans (hb2.mono hb.size)).mono (by simp; omega))⟩
end Go.Proofs.YtceomklkicpmoaaDoor
