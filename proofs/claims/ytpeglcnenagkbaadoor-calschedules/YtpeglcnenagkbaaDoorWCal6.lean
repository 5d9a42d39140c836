/-
  WALKS: isTenor, addMonths (the program's), ValidTenor (the document's).
-/
import Derived.Test.YtpeglcnenagkbaaDoorWCal5
import Derived.Deep.RegionWith
namespace Go.Proofs.YtpeglcnenagkbaaDoor
open Go.RowKit
open Cal
set_option linter.unusedVariables false
set_option linter.unusedSimpArgs false

def tenB (N u : Int) : Bool := decide (1 ≤ N ∧ N ≤ 999 ∧ 1 ≤ u ∧ u ≤ 4)
theorem ten_out {N u : Int} (h : tenB N u = true) : 1 ≤ N ∧ N ≤ 999 ∧ 1 ≤ u ∧ u ≤ 4 := of_decide_eq_true h

set_option maxHeartbeats 1000000 in
theorem isTenor_any (N u : Int) (w : World) :
    Calls Tryd.prog 32 #[.agg #[.int .i64 N, .int .i64 u]] w fun e w' => e = .returned (.bool (tenB N u)) ∧ Below w.heap.size w w' := by
  by_cases a1 : 1 ≤ N
  · by_cases a2 : N ≤ 999
    · by_cases a3 : 1 ≤ u
      · by_cases a4 : u ≤ 4
        · have e : tenB N u = true := by simp [tenB, a1, a2, a3, a4]
          rw [e]
          go_enter Tryd.func32, Tryd.ntmps32
          go_wp2
          go_ret
          exact ⟨ret_bool (by first | rfl | simp [*]), (Below.refl _ _).alloc (Nat.le_refl _) _⟩
        · have e : tenB N u = false := by simp [tenB, a4]
          have f : decide (u ≤ 4) = false := by simpa using a4
          rw [e]
          go_enter Tryd.func32, Tryd.ntmps32
          go_wp2
          go_ret
          exact ⟨ret_bool (by first | rfl | simp [*]), (Below.refl _ _).alloc (Nat.le_refl _) _⟩
      · have e : tenB N u = false := by simp [tenB, a3]
        have f : decide (1 ≤ u) = false := by simpa using a3
        rw [e]
        go_enter Tryd.func32, Tryd.ntmps32
        go_wp2
        go_ret
        exact ⟨ret_bool (by first | rfl | simp [*]), (Below.refl _ _).alloc (Nat.le_refl _) _⟩
    · have e : tenB N u = false := by simp [tenB, a2]
      have f : decide (N ≤ 999) = false := by simpa using a2
      rw [e]
      go_enter Tryd.func32, Tryd.ntmps32
      go_wp2
      go_ret
      exact ⟨ret_bool (by first | rfl | simp [*]), (Below.refl _ _).alloc (Nat.le_refl _) _⟩
  · have e : tenB N u = false := by simp [tenB, a1]
    have f : decide (1 ≤ N) = false := by simpa using a1
    rw [e]
    go_enter Tryd.func32, Tryd.ntmps32
    go_wp2
    go_ret
    exact ⟨ret_bool (by first | rfl | simp [*]), (Below.refl _ _).alloc (Nat.le_refl _) _⟩

set_option maxHeartbeats 1000000 in
theorem validTenor_any (N u : Int) (w : World) :
    Calls Tryd.prog 42 #[.agg #[.int .i64 N, .int .i64 u]] w fun e w' => e = .returned (.bool (tenB N u)) ∧ Below w.heap.size w w' := by
  by_cases a1 : 1 ≤ N
  · by_cases a2 : N ≤ 999
    · by_cases a3 : 1 ≤ u
      · by_cases a4 : u ≤ 4
        · have e : tenB N u = true := by simp [tenB, a1, a2, a3, a4]
          rw [e]
          go_enter Tryd.func42, Tryd.ntmps42
          go_wp2
          go_ret
          exact ⟨ret_bool (by first | rfl | simp [*]), (Below.refl _ _).alloc (Nat.le_refl _) _⟩
        · have e : tenB N u = false := by simp [tenB, a4]
          have f : decide (u ≤ 4) = false := by simpa using a4
          rw [e]
          go_enter Tryd.func42, Tryd.ntmps42
          go_wp2
          go_ret
          exact ⟨ret_bool (by first | rfl | simp [*]), (Below.refl _ _).alloc (Nat.le_refl _) _⟩
      · have e : tenB N u = false := by simp [tenB, a3]
        have f : decide (1 ≤ u) = false := by simpa using a3
        rw [e]
        go_enter Tryd.func42, Tryd.ntmps42
        go_wp2
        go_ret
        exact ⟨ret_bool (by first | rfl | simp [*]), (Below.refl _ _).alloc (Nat.le_refl _) _⟩
    · have e : tenB N u = false := by simp [tenB, a2]
      have f : decide (N ≤ 999) = false := by simpa using a2
      rw [e]
      go_enter Tryd.func42, Tryd.ntmps42
      go_wp2
      go_ret
      exact ⟨ret_bool (by first | rfl | simp [*]), (Below.refl _ _).alloc (Nat.le_refl _) _⟩
  · have e : tenB N u = false := by simp [tenB, a1]
    have f : decide (1 ≤ N) = false := by simpa using a1
    rw [e]
    go_enter Tryd.func42, Tryd.ntmps42
    go_wp2
    go_ret
    exact ⟨ret_bool (by first | rfl | simp [*]), (Below.refl _ _).alloc (Nat.le_refl _) _⟩

/-- The day that a month has left of a day. -/
def cutD (y m d : Int) : Int := if d ≤ len y m then d else len y m

theorem mon_drew1 {w : World} (h : Mon w) : Mon w.drew := by
  refine ⟨by simpa using h.1, fun k hk => ?_⟩
  have := h.2 k hk
  simpa using this

set_option maxHeartbeats 1000000 in
theorem addMonths_no (y m d p : Int) (w : World) (hM : Mon w) (h : exB y m d = true) (hp1 : -100000000000 ≤ p) (hp2 : p ≤ 100000000000) (a : 12 * (y - 1900) + m - 1 + p < 0 ∨ 3600 ≤ 12 * (y - 1900) + m - 1 + p) :
    Calls Tryd.prog 40 #[.agg #[.int .i64 y, .int .i64 m, .int .i64 d], .int .i64 p] w fun e w' => e = .returned (.tuple #[.agg #[.int .i64 0, .int .i64 0, .int .i64 0], .int .i64 2]) ∧ Below w.heap.size w w' := by
  obtain ⟨h1, h2, h3, h4, h5, h6⟩ := ex_out h
  clear h6 h
  rcases a with a | a
  · go_enter Tryd.func40, Tryd.ntmps40
    go_wp2
    exact bodyPost_ret (v := .tuple #[.agg #[.int .i64 0, .int .i64 0, .int .i64 0], .int .i64 2]) (by simp [results, Tryd.results40, go_sem]) rfl ⟨rfl, ((Below.refl _ _).alloc (Nat.le_refl _) _).alloc (by simp) _⟩
  · have a' : ¬ 12 * (y - 1900) + m - 1 + p < 0 := by omega
    go_enter Tryd.func40, Tryd.ntmps40
    go_wp2
    exact bodyPost_ret (v := .tuple #[.agg #[.int .i64 0, .int .i64 0, .int .i64 0], .int .i64 2]) (by simp [results, Tryd.results40, go_sem]) rfl ⟨rfl, ((Below.refl _ _).alloc (Nat.le_refl _) _).alloc (by simp) _⟩

set_option maxHeartbeats 1000000 in
theorem addMonths_yes (y m d p q : Int) (w : World) (hM : Mon w) (h : exB y m d = true) (hp1 : -100000000000 ≤ p) (hp2 : p ≤ 100000000000) (hq : q = 12 * (y - 1900) + m - 1 + p) (a1 : 0 ≤ q) (a2 : q < 3600) :
    Calls Tryd.prog 40 #[.agg #[.int .i64 y, .int .i64 m, .int .i64 d], .int .i64 p] w fun e w' => e = .returned (.tuple #[.agg #[.int .i64 (1900 + q / 12), .int .i64 (q % 12 + 1), .int .i64 (cutD (1900 + q / 12) (q % 12 + 1) d)], .int .i64 0]) ∧ Below w.heap.size w w' := by
  obtain ⟨h1, h2, h3, h4, h5, h6⟩ := ex_out h
  clear h6 h
  subst hq
  generalize hY : 1900 + (12 * (y - 1900) + m - 1 + p) / 12 = Y
  generalize hN : (12 * (y - 1900) + m - 1 + p) % 12 + 1 = M
  have Y1 : 1900 ≤ Y := by omega
  have Y2 : Y ≤ 2199 := by omega
  have M1 : 1 ≤ M := by omega
  have M2 : M ≤ 12 := by omega
  have E1 := Lib.hid hY
  have E2 := Lib.hid hN
  clear hY hN
  by_cases c : d ≤ len Y M
  · rw [show cutD Y M d = d by unfold cutD; rw [if_pos c]]
    have lb := len_bd Y M
    obtain ⟨lb1, lb2⟩ := lb
    go_enter Tryd.func40, Tryd.ntmps40
    go_wp2
    rw [E1.out, E2.out]
    go_region_with (go_at_call 52; refine (monthLength_any _ _ _ (mon_drew1 (mon_alloc (mon_alloc hM))) (by omega) (by omega) (by omega) (by omega)).mono ?_; rintro e w' ⟨rfl, rfl⟩)
    all_goals
      go_wp2
      exact bodyPost_ret (v := .tuple #[.agg #[.int .i64 Y, .int .i64 M, .int .i64 (d)], .int .i64 0]) (by simp [results, Tryd.results40, go_sem]) rfl ⟨rfl, (((Below.refl _ _).alloc (Nat.le_refl _) _).alloc (by simp) _).drew⟩
  · rw [show cutD Y M d = len Y M by unfold cutD; rw [if_neg c]]
    have lb := len_bd Y M
    obtain ⟨lb1, lb2⟩ := lb
    go_enter Tryd.func40, Tryd.ntmps40
    go_wp2
    rw [E1.out, E2.out]
    go_region_with (go_at_call 52; refine (monthLength_any _ _ _ (mon_drew1 (mon_alloc (mon_alloc hM))) (by omega) (by omega) (by omega) (by omega)).mono ?_; rintro e w' ⟨rfl, rfl⟩)
    all_goals
      go_wp2
      exact bodyPost_ret (v := .tuple #[.agg #[.int .i64 Y, .int .i64 M, .int .i64 (len Y M)], .int .i64 0]) (by simp [results, Tryd.results40, go_sem]) rfl ⟨rfl, (((Below.refl _ _).alloc (Nat.le_refl _) _).alloc (by simp) _).drew⟩
end Go.Proofs.YtpeglcnenagkbaaDoor
