/-
  WALKS: Thirty (the program's and the document's), and the two laws on it.
-/
import Derived.Test.YtceomklkicpmoaaDoorWCal2
import Derived.Lib.ItoaMem
namespace Go.Proofs.YtceomklkicpmoaaDoor
open Go.RowKit
open Cal
set_option linter.unusedVariables false
set_option linter.unusedSimpArgs false

theorem ret_2 {k k' : IntKind} {a b c : Int} (h : a = b) : Ending.returned (.tuple #[.int k a, .int k' c]) = .returned (.tuple #[.int k b, .int k' c]) := by rw [h]

def thi (y m d y' m' d' : Int) : Int := 360 * (y' - y) + 30 * (m' - m) + (if d' = 31 ∧ 30 ≤ d then 30 else d') - (if d = 31 then 30 else d)

set_option maxHeartbeats 1000000 in
theorem thirty_no (y m d y' m' d' : Int) (w : World) (hM : Mon w) (h : exB y m d = false ∨ exB y' m' d' = false) :
    Calls Tryd.prog 11 #[.agg #[.int .i64 y, .int .i64 m, .int .i64 d], .agg #[.int .i64 y', .int .i64 m', .int .i64 d']] w fun e w' => e = .returned (.tuple #[.int .i64 0, .int .i64 21]) ∧ Below w.heap.size w w' := by
  cases a : exB y m d with
  | false =>
    clear h
    go_enter Tryd.func11, Tryd.ntmps11
    go_wp2_with (go_at_call 26; refine (exists_any _ _ _ _ (mon_alloc (mon_alloc hM))).mono ?_; rintro e w1 ⟨rfl, hb⟩; rw [a])
    go_ret2
    exact ⟨rfl, (((Below.refl _ _).alloc (Nat.le_refl _) _).alloc (by simp) _).trans (hb.mono (by simp; omega))⟩
  | true =>
    have b : exB y' m' d' = false := by rcases h with h | h; · rw [a] at h; cases h
                                        · exact h
    clear h
    go_enter Tryd.func11, Tryd.ntmps11
    go_wp2_with (go_at_call 26; (first
      | (have hh := hb; refine (exists_any _ _ _ _ hM1).mono ?_; rintro e w2 ⟨rfl, hb2⟩; rw [b])
      | (refine (exists_any _ _ _ _ (mon_alloc (mon_alloc hM))).mono ?_; rintro e w1 ⟨rfl, hb⟩; rw [a]; have hM1 := mon_below (Nat.le_refl _) hb (mon_alloc (mon_alloc hM)); obtain ⟨hc, hf⟩ := bcell hb)))
    go_ret2
    refine ⟨rfl, ((((Below.refl _ _).alloc (Nat.le_refl _) _).alloc (by simp) _).trans (hb.mono (by simp; omega))).trans (hb2.mono ?_)⟩
    have := hb.size; simp at this; omega

/-- Two boxed dates, read later. -/
theorem boxes {w w2 : World} {t : TypeId} {y m d y' m' d' : Int}
    (hb : Below ((w.alloc (.cells #[.int .i64 y, .int .i64 m, .int .i64 d] t)).alloc (.cells #[.int .i64 y', .int .i64 m', .int .i64 d'] t)).heap.size ((w.alloc (.cells #[.int .i64 y, .int .i64 m, .int .i64 d] t)).alloc (.cells #[.int .i64 y', .int .i64 m', .int .i64 d'] t)) w2) :
    w2.cell? ⟨w.heap.size, 0, none⟩ = some (.int .i64 y) ∧ w2.cell? ⟨w.heap.size, 1, none⟩ = some (.int .i64 m) ∧ w2.cell? ⟨w.heap.size, 2, none⟩ = some (.int .i64 d) ∧
    w2.cell? ⟨w.heap.size + 1, 0, none⟩ = some (.int .i64 y') ∧ w2.cell? ⟨w.heap.size + 1, 1, none⟩ = some (.int .i64 m') ∧ w2.cell? ⟨w.heap.size + 1, 2, none⟩ = some (.int .i64 d') := by
  obtain ⟨hc, _⟩ := bcell hb
  refine ⟨?_, ?_, ?_, ?_, ?_, ?_⟩ <;> (rw [hc _ _ (by simp <;> omega)]; go_simp)

set_option maxHeartbeats 2000000 in
theorem thirty_yes (y m d y' m' d' : Int) (w : World) (hM : Mon w) (a : exB y m d = true) (b : exB y' m' d' = true) :
    Calls Tryd.prog 11 #[.agg #[.int .i64 y, .int .i64 m, .int .i64 d], .agg #[.int .i64 y', .int .i64 m', .int .i64 d']] w fun e w' => e = .returned (.tuple #[.int .i64 (thi y m d y' m' d'), .int .i64 0]) ∧ Below w.heap.size w w' := by
  obtain ⟨p1, p2, p3, p4, p5, p6⟩ := ex_out a
  obtain ⟨q1, q2, q3, q4, q5, q6⟩ := ex_out b
  have l1 := (len_bd y m).2
  have l2 := (len_bd y' m').2
  have p7 : d ≤ 31 := by omega
  have q7 : d' ≤ 31 := by omega
  clear p6 q6 l1 l2
  have hd : d ≤ 29 ∨ d = 30 ∨ d = 31 := by omega
  have hd' : d' ≤ 30 ∨ d' = 31 := by omega
  rcases hd with c1 | rfl | rfl <;> rcases hd' with c2 | rfl
  · have T : thi y m d y' m' d' = 360 * (y' - y) + 30 * (m' - m) + d' - d := by simp [thi]; try omega
    rw [T]; clear T
    go_enter Tryd.func11, Tryd.ntmps11
    go_wp2_with (go_at_call 26; (first
      | (have hh := hb; refine (exists_any _ _ _ _ hM1).mono ?_; rintro e w2 ⟨rfl, hb2⟩; rw [b])
      | (refine (exists_any _ _ _ _ (mon_alloc (mon_alloc hM))).mono ?_; rintro e w1 ⟨rfl, hb⟩; rw [a]; have hM1 := mon_below (Nat.le_refl _) hb (mon_alloc (mon_alloc hM)); obtain ⟨hc, hf⟩ := bcell hb)))
    have hB := hb.trans (hb2.mono hb.size)
    clear hb hb2 hc hf hM1 hh
    obtain ⟨k0, k1, k2, k3, k4, k5⟩ := boxes hB
    have HB := Lib.hid hB
    clear hB
    go_region
    all_goals
      go_wp2
      go_ret2
      exact ⟨ret_2 (by omega), (((Below.refl _ _).alloc (Nat.le_refl _) _).alloc (by simp) _).trans (((below_dr HB.out 1)).mono (by simp; omega))⟩
  · have T : thi y m d y' m' 31 = 360 * (y' - y) + 30 * (m' - m) + 31 - d := by simp [thi]; try omega
    rw [T]; clear T
    go_enter Tryd.func11, Tryd.ntmps11
    go_wp2_with (go_at_call 26; (first
      | (have hh := hb; refine (exists_any _ _ _ _ hM1).mono ?_; rintro e w2 ⟨rfl, hb2⟩; rw [b])
      | (refine (exists_any _ _ _ _ (mon_alloc (mon_alloc hM))).mono ?_; rintro e w1 ⟨rfl, hb⟩; rw [a]; have hM1 := mon_below (Nat.le_refl _) hb (mon_alloc (mon_alloc hM)); obtain ⟨hc, hf⟩ := bcell hb)))
    have hB := hb.trans (hb2.mono hb.size)
    clear hb hb2 hc hf hM1 hh
    obtain ⟨k0, k1, k2, k3, k4, k5⟩ := boxes hB
    have HB := Lib.hid hB
    clear hB
    go_region
    all_goals
      go_wp2
      go_ret2
      exact ⟨ret_2 (by omega), (((Below.refl _ _).alloc (Nat.le_refl _) _).alloc (by simp) _).trans (((below_dr HB.out 1)).mono (by simp; omega))⟩
  · have T : thi y m 30 y' m' d' = 360 * (y' - y) + 30 * (m' - m) + d' - 30 := by simp [thi]; try omega
    rw [T]; clear T
    go_enter Tryd.func11, Tryd.ntmps11
    go_wp2_with (go_at_call 26; (first
      | (have hh := hb; refine (exists_any _ _ _ _ hM1).mono ?_; rintro e w2 ⟨rfl, hb2⟩; rw [b])
      | (refine (exists_any _ _ _ _ (mon_alloc (mon_alloc hM))).mono ?_; rintro e w1 ⟨rfl, hb⟩; rw [a]; have hM1 := mon_below (Nat.le_refl _) hb (mon_alloc (mon_alloc hM)); obtain ⟨hc, hf⟩ := bcell hb)))
    have hB := hb.trans (hb2.mono hb.size)
    clear hb hb2 hc hf hM1 hh
    obtain ⟨k0, k1, k2, k3, k4, k5⟩ := boxes hB
    have HB := Lib.hid hB
    clear hB
    go_region
    all_goals
      go_wp2
      go_ret2
      exact ⟨ret_2 (by omega), (((Below.refl _ _).alloc (Nat.le_refl _) _).alloc (by simp) _).trans (((below_dr HB.out 1)).mono (by simp; omega))⟩
  · have T : thi y m 30 y' m' 31 = 360 * (y' - y) + 30 * (m' - m) + 30 - 30 := by simp [thi]; try omega
    rw [T]; clear T
    go_enter Tryd.func11, Tryd.ntmps11
    go_wp2_with (go_at_call 26; (first
      | (have hh := hb; refine (exists_any _ _ _ _ hM1).mono ?_; rintro e w2 ⟨rfl, hb2⟩; rw [b])
      | (refine (exists_any _ _ _ _ (mon_alloc (mon_alloc hM))).mono ?_; rintro e w1 ⟨rfl, hb⟩; rw [a]; have hM1 := mon_below (Nat.le_refl _) hb (mon_alloc (mon_alloc hM)); obtain ⟨hc, hf⟩ := bcell hb)))
    have hB := hb.trans (hb2.mono hb.size)
    clear hb hb2 hc hf hM1 hh
    obtain ⟨k0, k1, k2, k3, k4, k5⟩ := boxes hB
    have HB := Lib.hid hB
    clear hB
    go_region
    all_goals
      go_wp2
      go_ret2
      exact ⟨ret_2 (by omega), (((Below.refl _ _).alloc (Nat.le_refl _) _).alloc (by simp) _).trans (((below_dr HB.out 1)).mono (by simp; omega))⟩
  · have T : thi y m 31 y' m' d' = 360 * (y' - y) + 30 * (m' - m) + d' - 30 := by simp [thi]; try omega
    rw [T]; clear T
    go_enter Tryd.func11, Tryd.ntmps11
    go_wp2_with (go_at_call 26; (first
      | (have hh := hb; refine (exists_any _ _ _ _ hM1).mono ?_; rintro e w2 ⟨rfl, hb2⟩; rw [b])
      | (refine (exists_any _ _ _ _ (mon_alloc (mon_alloc hM))).mono ?_; rintro e w1 ⟨rfl, hb⟩; rw [a]; have hM1 := mon_below (Nat.le_refl _) hb (mon_alloc (mon_alloc hM)); obtain ⟨hc, hf⟩ := bcell hb)))
    have hB := hb.trans (hb2.mono hb.size)
    clear hb hb2 hc hf hM1 hh
    obtain ⟨k0, k1, k2, k3, k4, k5⟩ := boxes hB
    have HB := Lib.hid hB
    clear hB
    go_region
    all_goals
      go_wp2
      go_ret2
      exact ⟨ret_2 (by omega), (((Below.refl _ _).alloc (Nat.le_refl _) _).alloc (by simp) _).trans (((below_dr HB.out 1)).mono (by simp; omega))⟩
  · have T : thi y m 31 y' m' 31 = 360 * (y' - y) + 30 * (m' - m) + 30 - 30 := by simp [thi]; try omega
    rw [T]; clear T
    go_enter Tryd.func11, Tryd.ntmps11
    go_wp2_with (go_at_call 26; (first
      | (have hh := hb; refine (exists_any _ _ _ _ hM1).mono ?_; rintro e w2 ⟨rfl, hb2⟩; rw [b])
      | (refine (exists_any _ _ _ _ (mon_alloc (mon_alloc hM))).mono ?_; rintro e w1 ⟨rfl, hb⟩; rw [a]; have hM1 := mon_below (Nat.le_refl _) hb (mon_alloc (mon_alloc hM)); obtain ⟨hc, hf⟩ := bcell hb)))
    have hB := hb.trans (hb2.mono hb.size)
    clear hb hb2 hc hf hM1 hh
    obtain ⟨k0, k1, k2, k3, k4, k5⟩ := boxes hB
    have HB := Lib.hid hB
    clear hB
    go_region
    all_goals
      go_wp2
      go_ret2
      exact ⟨ret_2 (by omega), (((Below.refl _ _).alloc (Nat.le_refl _) _).alloc (by simp) _).trans (((below_dr HB.out 1)).mono (by simp; omega))⟩
end Go.Proofs.YtceomklkicpmoaaDoor
