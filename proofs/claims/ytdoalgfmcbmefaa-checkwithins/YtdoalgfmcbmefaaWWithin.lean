/-
  WITHIN (own work): the program's and the document's answer, decided.
-/
import Derived.Test.YtdoalgfmcbmefaaRows
import Derived.WalkKit
import Derived.RowKit
import Derived.Below
import Derived.OpenShut
import Derived.RowKit3
namespace Go.Proofs.Ytdoalgfmcbmefaa
open Go.RowKit

def wNeg (x0 x1 x2 x3 x4 x5 x6 : Int) : Prop := x0 < 0 ∨ x1 < 0 ∨ x2 < 0 ∨ x3 < 0 ∨ x4 < 0 ∨ x5 < 0 ∨ x6 < 0
def wOver (x0 x1 x2 x3 x4 x5 x6 : Int) : Prop := 64 < x0 ∨ 3660 < x1 ∨ 2048 < x2 ∨ 16384 < x3 ∨ 512 < x4 ∨ 64 < x5 ∨ 2097152 < x6
instance (x0 x1 x2 x3 x4 x5 x6 : Int) : Decidable (wNeg x0 x1 x2 x3 x4 x5 x6) := by unfold wNeg; infer_instance
instance (x0 x1 x2 x3 x4 x5 x6 : Int) : Decidable (wOver x0 x1 x2 x3 x4 x5 x6) := by unfold wOver; infer_instance
def wIn (x0 x1 x2 x3 x4 x5 x6 : Int) : Int := if wNeg x0 x1 x2 x3 x4 x5 x6 then 1 else if wOver x0 x1 x2 x3 x4 x5 x6 then 82 else 0

theorem min_seven (x0 x1 x2 x3 x4 x5 x6 : Int) : ∃ m : Int, (m < 0 ↔ wNeg x0 x1 x2 x3 x4 x5 x6) ∧ ∀ {P : Program} (w : World) (ts : Array TypeId) (t : TypeId),
    (Builtin.min_ ts t #[.int .i64 x0, .int .i64 x1, .int .i64 x2, .int .i64 x3, .int .i64 x4, .int .i64 x5, .int .i64 x6]).run P w = .ok (.int .i64 m) w := by
  obtain ⟨m1, h1⟩ : ∃ m : Int, m = if x1 < x0 then x1 else x0 := ⟨_, rfl⟩
  obtain ⟨m2, h2⟩ : ∃ m : Int, m = if x2 < m1 then x2 else m1 := ⟨_, rfl⟩
  obtain ⟨m3, h3⟩ : ∃ m : Int, m = if x3 < m2 then x3 else m2 := ⟨_, rfl⟩
  obtain ⟨m4, h4⟩ : ∃ m : Int, m = if x4 < m3 then x4 else m3 := ⟨_, rfl⟩
  obtain ⟨m5, h5⟩ : ∃ m : Int, m = if x5 < m4 then x5 else m4 := ⟨_, rfl⟩
  obtain ⟨m6, h6⟩ : ∃ m : Int, m = if x6 < m5 then x6 else m5 := ⟨_, rfl⟩
  refine ⟨m6, ?_, fun w ts t => ?_⟩
  · have e1 : m1 < 0 ↔ (x0 < 0 ∨ x1 < 0) := by rw [h1]; split <;> omega
    have e2 : m2 < 0 ↔ (m1 < 0 ∨ x2 < 0) := by rw [h2]; split <;> omega
    have e3 : m3 < 0 ↔ (m2 < 0 ∨ x3 < 0) := by rw [h3]; split <;> omega
    have e4 : m4 < 0 ↔ (m3 < 0 ∨ x4 < 0) := by rw [h4]; split <;> omega
    have e5 : m5 < 0 ↔ (m4 < 0 ∨ x5 < 0) := by rw [h5]; split <;> omega
    have e6 : m6 < 0 ↔ (m5 < 0 ∨ x6 < 0) := by rw [h6]; split <;> omega
    unfold wNeg
    rw [e6, e5, e4, e3, e2, e1]
    simp only [or_assoc]
  · simp [Builtin.min_, Builtin.min2, ← h1, ← h2, ← h3, ← h4, ← h5, ← h6]

theorem w_cases (x0 x1 x2 x3 x4 x5 x6 : Int) : (x0 < 0) ∨ (0 ≤ x0 ∧ x1 < 0) ∨ (0 ≤ x0 ∧ 0 ≤ x1 ∧ x2 < 0) ∨ (0 ≤ x0 ∧ 0 ≤ x1 ∧ 0 ≤ x2 ∧ x3 < 0) ∨ (0 ≤ x0 ∧ 0 ≤ x1 ∧ 0 ≤ x2 ∧ 0 ≤ x3 ∧ x4 < 0) ∨ (0 ≤ x0 ∧ 0 ≤ x1 ∧ 0 ≤ x2 ∧ 0 ≤ x3 ∧ 0 ≤ x4 ∧ x5 < 0) ∨ (0 ≤ x0 ∧ 0 ≤ x1 ∧ 0 ≤ x2 ∧ 0 ≤ x3 ∧ 0 ≤ x4 ∧ 0 ≤ x5 ∧ x6 < 0) ∨ (0 ≤ x0 ∧ 0 ≤ x1 ∧ 0 ≤ x2 ∧ 0 ≤ x3 ∧ 0 ≤ x4 ∧ 0 ≤ x5 ∧ 0 ≤ x6 ∧ 64 < x0) ∨ (0 ≤ x0 ∧ 0 ≤ x1 ∧ 0 ≤ x2 ∧ 0 ≤ x3 ∧ 0 ≤ x4 ∧ 0 ≤ x5 ∧ 0 ≤ x6 ∧ x0 ≤ 64 ∧ 3660 < x1) ∨ (0 ≤ x0 ∧ 0 ≤ x1 ∧ 0 ≤ x2 ∧ 0 ≤ x3 ∧ 0 ≤ x4 ∧ 0 ≤ x5 ∧ 0 ≤ x6 ∧ x0 ≤ 64 ∧ x1 ≤ 3660 ∧ 2048 < x2) ∨ (0 ≤ x0 ∧ 0 ≤ x1 ∧ 0 ≤ x2 ∧ 0 ≤ x3 ∧ 0 ≤ x4 ∧ 0 ≤ x5 ∧ 0 ≤ x6 ∧ x0 ≤ 64 ∧ x1 ≤ 3660 ∧ x2 ≤ 2048 ∧ 16384 < x3) ∨ (0 ≤ x0 ∧ 0 ≤ x1 ∧ 0 ≤ x2 ∧ 0 ≤ x3 ∧ 0 ≤ x4 ∧ 0 ≤ x5 ∧ 0 ≤ x6 ∧ x0 ≤ 64 ∧ x1 ≤ 3660 ∧ x2 ≤ 2048 ∧ x3 ≤ 16384 ∧ 512 < x4) ∨ (0 ≤ x0 ∧ 0 ≤ x1 ∧ 0 ≤ x2 ∧ 0 ≤ x3 ∧ 0 ≤ x4 ∧ 0 ≤ x5 ∧ 0 ≤ x6 ∧ x0 ≤ 64 ∧ x1 ≤ 3660 ∧ x2 ≤ 2048 ∧ x3 ≤ 16384 ∧ x4 ≤ 512 ∧ 64 < x5) ∨ (0 ≤ x0 ∧ 0 ≤ x1 ∧ 0 ≤ x2 ∧ 0 ≤ x3 ∧ 0 ≤ x4 ∧ 0 ≤ x5 ∧ 0 ≤ x6 ∧ x0 ≤ 64 ∧ x1 ≤ 3660 ∧ x2 ≤ 2048 ∧ x3 ≤ 16384 ∧ x4 ≤ 512 ∧ x5 ≤ 64 ∧ 2097152 < x6) ∨ (0 ≤ x0 ∧ 0 ≤ x1 ∧ 0 ≤ x2 ∧ 0 ≤ x3 ∧ 0 ≤ x4 ∧ 0 ≤ x5 ∧ 0 ≤ x6 ∧ x0 ≤ 64 ∧ x1 ≤ 3660 ∧ x2 ≤ 2048 ∧ x3 ≤ 16384 ∧ x4 ≤ 512 ∧ x5 ≤ 64 ∧ x6 ≤ 2097152) := by
  by_cases q0 : x0 < 0
  · exact .inl (by omega)
  by_cases q1 : x1 < 0
  · exact .inr (.inl (⟨by omega, by omega⟩))
  by_cases q2 : x2 < 0
  · exact .inr (.inr (.inl (⟨by omega, by omega, by omega⟩)))
  by_cases q3 : x3 < 0
  · exact .inr (.inr (.inr (.inl (⟨by omega, by omega, by omega, by omega⟩))))
  by_cases q4 : x4 < 0
  · exact .inr (.inr (.inr (.inr (.inl (⟨by omega, by omega, by omega, by omega, by omega⟩)))))
  by_cases q5 : x5 < 0
  · exact .inr (.inr (.inr (.inr (.inr (.inl (⟨by omega, by omega, by omega, by omega, by omega, by omega⟩))))))
  by_cases q6 : x6 < 0
  · exact .inr (.inr (.inr (.inr (.inr (.inr (.inl (⟨by omega, by omega, by omega, by omega, by omega, by omega, by omega⟩)))))))
  by_cases q7 : 64 < x0
  · exact .inr (.inr (.inr (.inr (.inr (.inr (.inr (.inl (⟨by omega, by omega, by omega, by omega, by omega, by omega, by omega, by omega⟩))))))))
  by_cases q8 : 3660 < x1
  · exact .inr (.inr (.inr (.inr (.inr (.inr (.inr (.inr (.inl (⟨by omega, by omega, by omega, by omega, by omega, by omega, by omega, by omega, by omega⟩)))))))))
  by_cases q9 : 2048 < x2
  · exact .inr (.inr (.inr (.inr (.inr (.inr (.inr (.inr (.inr (.inl (⟨by omega, by omega, by omega, by omega, by omega, by omega, by omega, by omega, by omega, by omega⟩))))))))))
  by_cases q10 : 16384 < x3
  · exact .inr (.inr (.inr (.inr (.inr (.inr (.inr (.inr (.inr (.inr (.inl (⟨by omega, by omega, by omega, by omega, by omega, by omega, by omega, by omega, by omega, by omega, by omega⟩)))))))))))
  by_cases q11 : 512 < x4
  · exact .inr (.inr (.inr (.inr (.inr (.inr (.inr (.inr (.inr (.inr (.inr (.inl (⟨by omega, by omega, by omega, by omega, by omega, by omega, by omega, by omega, by omega, by omega, by omega, by omega⟩))))))))))))
  by_cases q12 : 64 < x5
  · exact .inr (.inr (.inr (.inr (.inr (.inr (.inr (.inr (.inr (.inr (.inr (.inr (.inl (⟨by omega, by omega, by omega, by omega, by omega, by omega, by omega, by omega, by omega, by omega, by omega, by omega, by omega⟩)))))))))))))
  by_cases q13 : 2097152 < x6
  · exact .inr (.inr (.inr (.inr (.inr (.inr (.inr (.inr (.inr (.inr (.inr (.inr (.inr (.inl (⟨by omega, by omega, by omega, by omega, by omega, by omega, by omega, by omega, by omega, by omega, by omega, by omega, by omega, by omega⟩))))))))))))))
  exact .inr (.inr (.inr (.inr (.inr (.inr (.inr (.inr (.inr (.inr (.inr (.inr (.inr (.inr (⟨by omega, by omega, by omega, by omega, by omega, by omega, by omega, by omega, by omega, by omega, by omega, by omega, by omega, by omega⟩))))))))))))))

set_option maxHeartbeats 4000000 in
theorem within_any (x0 x1 x2 x3 x4 x5 x6 : Int) (w : World) :
    Calls Try.prog 4 #[.agg #[.int .i64 x0, .int .i64 x1, .int .i64 x2, .int .i64 x3, .int .i64 x4, .int .i64 x5, .int .i64 x6]] w fun e w' => e = .returned (.int .i64 (wIn x0 x1 x2 x3 x4 x5 x6)) ∧ Below w.heap.size w w' := by
  rcases w_cases x0 x1 x2 x3 x4 x5 x6 with ⟨h0⟩ | ⟨h0, h1⟩ | ⟨h0, h1, h2⟩ | ⟨h0, h1, h2, h3⟩ | ⟨h0, h1, h2, h3, h4⟩ | ⟨h0, h1, h2, h3, h4, h5⟩ | ⟨h0, h1, h2, h3, h4, h5, h6⟩ | ⟨h0, h1, h2, h3, h4, h5, h6, h7⟩ | ⟨h0, h1, h2, h3, h4, h5, h6, h7, h8⟩ | ⟨h0, h1, h2, h3, h4, h5, h6, h7, h8, h9⟩ | ⟨h0, h1, h2, h3, h4, h5, h6, h7, h8, h9, h10⟩ | ⟨h0, h1, h2, h3, h4, h5, h6, h7, h8, h9, h10, h11⟩ | ⟨h0, h1, h2, h3, h4, h5, h6, h7, h8, h9, h10, h11, h12⟩ | ⟨h0, h1, h2, h3, h4, h5, h6, h7, h8, h9, h10, h11, h12, h13⟩ | ⟨h0, h1, h2, h3, h4, h5, h6, h7, h8, h9, h10, h11, h12, h13⟩
  · have hv : wIn x0 x1 x2 x3 x4 x5 x6 = 1 := if_pos (by unfold wNeg; omega)
    rw [hv]
    have k0 : x0 < 0 := h0
    obtain ⟨m, hm, hrun⟩ := min_seven x0 x1 x2 x3 x4 x5 x6
    have hk : m < 0 := by have := hm; unfold wNeg at this; omega
    clear hm
    go_enter Try.func4, Try.ntmps4
    go_wp2
    all_goals first | (exfalso; omega) | (go_ret; exact ⟨rfl, by repeat (first | exact (Below.refl _ _).alloc (Nat.le_refl _) _ | apply Below.drew)⟩)
  · have hv : wIn x0 x1 x2 x3 x4 x5 x6 = 1 := if_pos (by unfold wNeg; omega)
    rw [hv]
    have k0 : 0 ≤ x0 := h0
    have k1 : x1 < 0 := h1
    obtain ⟨m, hm, hrun⟩ := min_seven x0 x1 x2 x3 x4 x5 x6
    have hk : m < 0 := by have := hm; unfold wNeg at this; omega
    clear hm
    go_enter Try.func4, Try.ntmps4
    go_wp2
    all_goals first | (exfalso; omega) | (go_ret; exact ⟨rfl, by repeat (first | exact (Below.refl _ _).alloc (Nat.le_refl _) _ | apply Below.drew)⟩)
  · have hv : wIn x0 x1 x2 x3 x4 x5 x6 = 1 := if_pos (by unfold wNeg; omega)
    rw [hv]
    have k0 : 0 ≤ x0 := h0
    have k1 : 0 ≤ x1 := h1
    have k2 : x2 < 0 := h2
    obtain ⟨m, hm, hrun⟩ := min_seven x0 x1 x2 x3 x4 x5 x6
    have hk : m < 0 := by have := hm; unfold wNeg at this; omega
    clear hm
    go_enter Try.func4, Try.ntmps4
    go_wp2
    all_goals first | (exfalso; omega) | (go_ret; exact ⟨rfl, by repeat (first | exact (Below.refl _ _).alloc (Nat.le_refl _) _ | apply Below.drew)⟩)
  · have hv : wIn x0 x1 x2 x3 x4 x5 x6 = 1 := if_pos (by unfold wNeg; omega)
    rw [hv]
    have k0 : 0 ≤ x0 := h0
    have k1 : 0 ≤ x1 := h1
    have k2 : 0 ≤ x2 := h2
    have k3 : x3 < 0 := h3
    obtain ⟨m, hm, hrun⟩ := min_seven x0 x1 x2 x3 x4 x5 x6
    have hk : m < 0 := by have := hm; unfold wNeg at this; omega
    clear hm
    go_enter Try.func4, Try.ntmps4
    go_wp2
    all_goals first | (exfalso; omega) | (go_ret; exact ⟨rfl, by repeat (first | exact (Below.refl _ _).alloc (Nat.le_refl _) _ | apply Below.drew)⟩)
  · have hv : wIn x0 x1 x2 x3 x4 x5 x6 = 1 := if_pos (by unfold wNeg; omega)
    rw [hv]
    have k0 : 0 ≤ x0 := h0
    have k1 : 0 ≤ x1 := h1
    have k2 : 0 ≤ x2 := h2
    have k3 : 0 ≤ x3 := h3
    have k4 : x4 < 0 := h4
    obtain ⟨m, hm, hrun⟩ := min_seven x0 x1 x2 x3 x4 x5 x6
    have hk : m < 0 := by have := hm; unfold wNeg at this; omega
    clear hm
    go_enter Try.func4, Try.ntmps4
    go_wp2
    all_goals first | (exfalso; omega) | (go_ret; exact ⟨rfl, by repeat (first | exact (Below.refl _ _).alloc (Nat.le_refl _) _ | apply Below.drew)⟩)
  · have hv : wIn x0 x1 x2 x3 x4 x5 x6 = 1 := if_pos (by unfold wNeg; omega)
    rw [hv]
    have k0 : 0 ≤ x0 := h0
    have k1 : 0 ≤ x1 := h1
    have k2 : 0 ≤ x2 := h2
    have k3 : 0 ≤ x3 := h3
    have k4 : 0 ≤ x4 := h4
    have k5 : x5 < 0 := h5
    obtain ⟨m, hm, hrun⟩ := min_seven x0 x1 x2 x3 x4 x5 x6
    have hk : m < 0 := by have := hm; unfold wNeg at this; omega
    clear hm
    go_enter Try.func4, Try.ntmps4
    go_wp2
    all_goals first | (exfalso; omega) | (go_ret; exact ⟨rfl, by repeat (first | exact (Below.refl _ _).alloc (Nat.le_refl _) _ | apply Below.drew)⟩)
  · have hv : wIn x0 x1 x2 x3 x4 x5 x6 = 1 := if_pos (by unfold wNeg; omega)
    rw [hv]
    have k0 : 0 ≤ x0 := h0
    have k1 : 0 ≤ x1 := h1
    have k2 : 0 ≤ x2 := h2
    have k3 : 0 ≤ x3 := h3
    have k4 : 0 ≤ x4 := h4
    have k5 : 0 ≤ x5 := h5
    have k6 : x6 < 0 := h6
    obtain ⟨m, hm, hrun⟩ := min_seven x0 x1 x2 x3 x4 x5 x6
    have hk : m < 0 := by have := hm; unfold wNeg at this; omega
    clear hm
    go_enter Try.func4, Try.ntmps4
    go_wp2
    all_goals first | (exfalso; omega) | (go_ret; exact ⟨rfl, by repeat (first | exact (Below.refl _ _).alloc (Nat.le_refl _) _ | apply Below.drew)⟩)
  · have hv : wIn x0 x1 x2 x3 x4 x5 x6 = 82 := (if_neg (by unfold wNeg; omega)).trans (if_pos (by unfold wOver; omega))
    rw [hv]
    have k0 : 0 ≤ x0 := h0
    have k1 : 0 ≤ x1 := h1
    have k2 : 0 ≤ x2 := h2
    have k3 : 0 ≤ x3 := h3
    have k4 : 0 ≤ x4 := h4
    have k5 : 0 ≤ x5 := h5
    have k6 : 0 ≤ x6 := h6
    have k7 : 64 < x0 := h7
    obtain ⟨m, hm, hrun⟩ := min_seven x0 x1 x2 x3 x4 x5 x6
    have hk : 0 ≤ m := by have := hm; unfold wNeg at this; omega
    clear hm
    go_enter Try.func4, Try.ntmps4
    go_wp2
    all_goals first | (exfalso; omega) | (go_ret; exact ⟨rfl, by repeat (first | exact (Below.refl _ _).alloc (Nat.le_refl _) _ | apply Below.drew)⟩)
  · have hv : wIn x0 x1 x2 x3 x4 x5 x6 = 82 := (if_neg (by unfold wNeg; omega)).trans (if_pos (by unfold wOver; omega))
    rw [hv]
    have k0 : 0 ≤ x0 := h0
    have k1 : 0 ≤ x1 := h1
    have k2 : 0 ≤ x2 := h2
    have k3 : 0 ≤ x3 := h3
    have k4 : 0 ≤ x4 := h4
    have k5 : 0 ≤ x5 := h5
    have k6 : 0 ≤ x6 := h6
    have k7 : x0 ≤ 64 := h7
    have k8 : 3660 < x1 := h8
    obtain ⟨m, hm, hrun⟩ := min_seven x0 x1 x2 x3 x4 x5 x6
    have hk : 0 ≤ m := by have := hm; unfold wNeg at this; omega
    clear hm
    go_enter Try.func4, Try.ntmps4
    go_wp2
    all_goals first | (exfalso; omega) | (go_ret; exact ⟨rfl, by repeat (first | exact (Below.refl _ _).alloc (Nat.le_refl _) _ | apply Below.drew)⟩)
  · have hv : wIn x0 x1 x2 x3 x4 x5 x6 = 82 := (if_neg (by unfold wNeg; omega)).trans (if_pos (by unfold wOver; omega))
    rw [hv]
    have k0 : 0 ≤ x0 := h0
    have k1 : 0 ≤ x1 := h1
    have k2 : 0 ≤ x2 := h2
    have k3 : 0 ≤ x3 := h3
    have k4 : 0 ≤ x4 := h4
    have k5 : 0 ≤ x5 := h5
    have k6 : 0 ≤ x6 := h6
    have k7 : x0 ≤ 64 := h7
    have k8 : x1 ≤ 3660 := h8
    have k9 : 2048 < x2 := h9
    obtain ⟨m, hm, hrun⟩ := min_seven x0 x1 x2 x3 x4 x5 x6
    have hk : 0 ≤ m := by have := hm; unfold wNeg at this; omega
    clear hm
    go_enter Try.func4, Try.ntmps4
    go_wp2
    all_goals first | (exfalso; omega) | (go_ret; exact ⟨rfl, by repeat (first | exact (Below.refl _ _).alloc (Nat.le_refl _) _ | apply Below.drew)⟩)
  · have hv : wIn x0 x1 x2 x3 x4 x5 x6 = 82 := (if_neg (by unfold wNeg; omega)).trans (if_pos (by unfold wOver; omega))
    rw [hv]
    have k0 : 0 ≤ x0 := h0
    have k1 : 0 ≤ x1 := h1
    have k2 : 0 ≤ x2 := h2
    have k3 : 0 ≤ x3 := h3
    have k4 : 0 ≤ x4 := h4
    have k5 : 0 ≤ x5 := h5
    have k6 : 0 ≤ x6 := h6
    have k7 : x0 ≤ 64 := h7
    have k8 : x1 ≤ 3660 := h8
    have k9 : x2 ≤ 2048 := h9
    have k10 : 16384 < x3 := h10
    obtain ⟨m, hm, hrun⟩ := min_seven x0 x1 x2 x3 x4 x5 x6
    have hk : 0 ≤ m := by have := hm; unfold wNeg at this; omega
    clear hm
    go_enter Try.func4, Try.ntmps4
    go_wp2
    all_goals first | (exfalso; omega) | (go_ret; exact ⟨rfl, by repeat (first | exact (Below.refl _ _).alloc (Nat.le_refl _) _ | apply Below.drew)⟩)
  · have hv : wIn x0 x1 x2 x3 x4 x5 x6 = 82 := (if_neg (by unfold wNeg; omega)).trans (if_pos (by unfold wOver; omega))
    rw [hv]
    have k0 : 0 ≤ x0 := h0
    have k1 : 0 ≤ x1 := h1
    have k2 : 0 ≤ x2 := h2
    have k3 : 0 ≤ x3 := h3
    have k4 : 0 ≤ x4 := h4
    have k5 : 0 ≤ x5 := h5
    have k6 : 0 ≤ x6 := h6
    have k7 : x0 ≤ 64 := h7
    have k8 : x1 ≤ 3660 := h8
    have k9 : x2 ≤ 2048 := h9
    have k10 : x3 ≤ 16384 := h10
    have k11 : 512 < x4 := h11
    obtain ⟨m, hm, hrun⟩ := min_seven x0 x1 x2 x3 x4 x5 x6
    have hk : 0 ≤ m := by have := hm; unfold wNeg at this; omega
    clear hm
    go_enter Try.func4, Try.ntmps4
    go_wp2
    all_goals first | (exfalso; omega) | (go_ret; exact ⟨rfl, by repeat (first | exact (Below.refl _ _).alloc (Nat.le_refl _) _ | apply Below.drew)⟩)
  · have hv : wIn x0 x1 x2 x3 x4 x5 x6 = 82 := (if_neg (by unfold wNeg; omega)).trans (if_pos (by unfold wOver; omega))
    rw [hv]
    have k0 : 0 ≤ x0 := h0
    have k1 : 0 ≤ x1 := h1
    have k2 : 0 ≤ x2 := h2
    have k3 : 0 ≤ x3 := h3
    have k4 : 0 ≤ x4 := h4
    have k5 : 0 ≤ x5 := h5
    have k6 : 0 ≤ x6 := h6
    have k7 : x0 ≤ 64 := h7
    have k8 : x1 ≤ 3660 := h8
    have k9 : x2 ≤ 2048 := h9
    have k10 : x3 ≤ 16384 := h10
    have k11 : x4 ≤ 512 := h11
    have k12 : 64 < x5 := h12
    obtain ⟨m, hm, hrun⟩ := min_seven x0 x1 x2 x3 x4 x5 x6
    have hk : 0 ≤ m := by have := hm; unfold wNeg at this; omega
    clear hm
    go_enter Try.func4, Try.ntmps4
    go_wp2
    all_goals first | (exfalso; omega) | (go_ret; exact ⟨rfl, by repeat (first | exact (Below.refl _ _).alloc (Nat.le_refl _) _ | apply Below.drew)⟩)
  · have hv : wIn x0 x1 x2 x3 x4 x5 x6 = 82 := (if_neg (by unfold wNeg; omega)).trans (if_pos (by unfold wOver; omega))
    rw [hv]
    have k0 : 0 ≤ x0 := h0
    have k1 : 0 ≤ x1 := h1
    have k2 : 0 ≤ x2 := h2
    have k3 : 0 ≤ x3 := h3
    have k4 : 0 ≤ x4 := h4
    have k5 : 0 ≤ x5 := h5
    have k6 : 0 ≤ x6 := h6
    have k7 : x0 ≤ 64 := h7
    have k8 : x1 ≤ 3660 := h8
    have k9 : x2 ≤ 2048 := h9
    have k10 : x3 ≤ 16384 := h10
    have k11 : x4 ≤ 512 := h11
    have k12 : x5 ≤ 64 := h12
    have k13 : 2097152 < x6 := h13
    obtain ⟨m, hm, hrun⟩ := min_seven x0 x1 x2 x3 x4 x5 x6
    have hk : 0 ≤ m := by have := hm; unfold wNeg at this; omega
    clear hm
    go_enter Try.func4, Try.ntmps4
    go_wp2
    all_goals first | (exfalso; omega) | (go_ret; exact ⟨rfl, by repeat (first | exact (Below.refl _ _).alloc (Nat.le_refl _) _ | apply Below.drew)⟩)
  · have hv : wIn x0 x1 x2 x3 x4 x5 x6 = 0 := (if_neg (by unfold wNeg; omega)).trans (if_neg (by unfold wOver; omega))
    rw [hv]
    have k0 : 0 ≤ x0 := h0
    have k1 : 0 ≤ x1 := h1
    have k2 : 0 ≤ x2 := h2
    have k3 : 0 ≤ x3 := h3
    have k4 : 0 ≤ x4 := h4
    have k5 : 0 ≤ x5 := h5
    have k6 : 0 ≤ x6 := h6
    have k7 : x0 ≤ 64 := h7
    have k8 : x1 ≤ 3660 := h8
    have k9 : x2 ≤ 2048 := h9
    have k10 : x3 ≤ 16384 := h10
    have k11 : x4 ≤ 512 := h11
    have k12 : x5 ≤ 64 := h12
    have k13 : x6 ≤ 2097152 := h13
    obtain ⟨m, hm, hrun⟩ := min_seven x0 x1 x2 x3 x4 x5 x6
    have hk : 0 ≤ m := by have := hm; unfold wNeg at this; omega
    clear hm
    go_enter Try.func4, Try.ntmps4
    go_wp2
    all_goals first | (exfalso; omega) | (go_ret; exact ⟨rfl, by repeat (first | exact (Below.refl _ _).alloc (Nat.le_refl _) _ | apply Below.drew)⟩)

set_option maxHeartbeats 4000000 in
theorem rWithin_any (x0 x1 x2 x3 x4 x5 x6 : Int) (w : World) :
    Calls Try.prog 5 #[.agg #[.int .i64 x0, .int .i64 x1, .int .i64 x2, .int .i64 x3, .int .i64 x4, .int .i64 x5, .int .i64 x6]] w fun e w' => e = .returned (.int .i64 (wIn x0 x1 x2 x3 x4 x5 x6)) ∧ Below w.heap.size w w' := by
  rcases w_cases x0 x1 x2 x3 x4 x5 x6 with ⟨h0⟩ | ⟨h0, h1⟩ | ⟨h0, h1, h2⟩ | ⟨h0, h1, h2, h3⟩ | ⟨h0, h1, h2, h3, h4⟩ | ⟨h0, h1, h2, h3, h4, h5⟩ | ⟨h0, h1, h2, h3, h4, h5, h6⟩ | ⟨h0, h1, h2, h3, h4, h5, h6, h7⟩ | ⟨h0, h1, h2, h3, h4, h5, h6, h7, h8⟩ | ⟨h0, h1, h2, h3, h4, h5, h6, h7, h8, h9⟩ | ⟨h0, h1, h2, h3, h4, h5, h6, h7, h8, h9, h10⟩ | ⟨h0, h1, h2, h3, h4, h5, h6, h7, h8, h9, h10, h11⟩ | ⟨h0, h1, h2, h3, h4, h5, h6, h7, h8, h9, h10, h11, h12⟩ | ⟨h0, h1, h2, h3, h4, h5, h6, h7, h8, h9, h10, h11, h12, h13⟩ | ⟨h0, h1, h2, h3, h4, h5, h6, h7, h8, h9, h10, h11, h12, h13⟩
  · have hv : wIn x0 x1 x2 x3 x4 x5 x6 = 1 := if_pos (by unfold wNeg; omega)
    rw [hv]
    have k0 : x0 < 0 := h0
    go_enter Try.func5, Try.ntmps5
    go_wp2
    all_goals first | (exfalso; omega) | (go_ret; exact ⟨rfl, by repeat (first | exact (Below.refl _ _).alloc (Nat.le_refl _) _ | apply Below.drew)⟩)
  · have hv : wIn x0 x1 x2 x3 x4 x5 x6 = 1 := if_pos (by unfold wNeg; omega)
    rw [hv]
    have k0 : 0 ≤ x0 := h0
    have k1 : x1 < 0 := h1
    go_enter Try.func5, Try.ntmps5
    go_wp2
    all_goals first | (exfalso; omega) | (go_ret; exact ⟨rfl, by repeat (first | exact (Below.refl _ _).alloc (Nat.le_refl _) _ | apply Below.drew)⟩)
  · have hv : wIn x0 x1 x2 x3 x4 x5 x6 = 1 := if_pos (by unfold wNeg; omega)
    rw [hv]
    have k0 : 0 ≤ x0 := h0
    have k1 : 0 ≤ x1 := h1
    have k2 : x2 < 0 := h2
    go_enter Try.func5, Try.ntmps5
    go_wp2
    all_goals first | (exfalso; omega) | (go_ret; exact ⟨rfl, by repeat (first | exact (Below.refl _ _).alloc (Nat.le_refl _) _ | apply Below.drew)⟩)
  · have hv : wIn x0 x1 x2 x3 x4 x5 x6 = 1 := if_pos (by unfold wNeg; omega)
    rw [hv]
    have k0 : 0 ≤ x0 := h0
    have k1 : 0 ≤ x1 := h1
    have k2 : 0 ≤ x2 := h2
    have k3 : x3 < 0 := h3
    go_enter Try.func5, Try.ntmps5
    go_wp2
    all_goals first | (exfalso; omega) | (go_ret; exact ⟨rfl, by repeat (first | exact (Below.refl _ _).alloc (Nat.le_refl _) _ | apply Below.drew)⟩)
  · have hv : wIn x0 x1 x2 x3 x4 x5 x6 = 1 := if_pos (by unfold wNeg; omega)
    rw [hv]
    have k0 : 0 ≤ x0 := h0
    have k1 : 0 ≤ x1 := h1
    have k2 : 0 ≤ x2 := h2
    have k3 : 0 ≤ x3 := h3
    have k4 : x4 < 0 := h4
    go_enter Try.func5, Try.ntmps5
    go_wp2
    all_goals first | (exfalso; omega) | (go_ret; exact ⟨rfl, by repeat (first | exact (Below.refl _ _).alloc (Nat.le_refl _) _ | apply Below.drew)⟩)
  · have hv : wIn x0 x1 x2 x3 x4 x5 x6 = 1 := if_pos (by unfold wNeg; omega)
    rw [hv]
    have k0 : 0 ≤ x0 := h0
    have k1 : 0 ≤ x1 := h1
    have k2 : 0 ≤ x2 := h2
    have k3 : 0 ≤ x3 := h3
    have k4 : 0 ≤ x4 := h4
    have k5 : x5 < 0 := h5
    go_enter Try.func5, Try.ntmps5
    go_wp2
    all_goals first | (exfalso; omega) | (go_ret; exact ⟨rfl, by repeat (first | exact (Below.refl _ _).alloc (Nat.le_refl _) _ | apply Below.drew)⟩)
  · have hv : wIn x0 x1 x2 x3 x4 x5 x6 = 1 := if_pos (by unfold wNeg; omega)
    rw [hv]
    have k0 : 0 ≤ x0 := h0
    have k1 : 0 ≤ x1 := h1
    have k2 : 0 ≤ x2 := h2
    have k3 : 0 ≤ x3 := h3
    have k4 : 0 ≤ x4 := h4
    have k5 : 0 ≤ x5 := h5
    have k6 : x6 < 0 := h6
    go_enter Try.func5, Try.ntmps5
    go_wp2
    all_goals first | (exfalso; omega) | (go_ret; exact ⟨rfl, by repeat (first | exact (Below.refl _ _).alloc (Nat.le_refl _) _ | apply Below.drew)⟩)
  · have hv : wIn x0 x1 x2 x3 x4 x5 x6 = 82 := (if_neg (by unfold wNeg; omega)).trans (if_pos (by unfold wOver; omega))
    rw [hv]
    have k0 : 0 ≤ x0 := h0
    have k1 : 0 ≤ x1 := h1
    have k2 : 0 ≤ x2 := h2
    have k3 : 0 ≤ x3 := h3
    have k4 : 0 ≤ x4 := h4
    have k5 : 0 ≤ x5 := h5
    have k6 : 0 ≤ x6 := h6
    have k7 : 64 < x0 := h7
    go_enter Try.func5, Try.ntmps5
    go_wp2
    all_goals first | (exfalso; omega) | (go_ret; exact ⟨rfl, by repeat (first | exact (Below.refl _ _).alloc (Nat.le_refl _) _ | apply Below.drew)⟩)
  · have hv : wIn x0 x1 x2 x3 x4 x5 x6 = 82 := (if_neg (by unfold wNeg; omega)).trans (if_pos (by unfold wOver; omega))
    rw [hv]
    have k0 : 0 ≤ x0 := h0
    have k1 : 0 ≤ x1 := h1
    have k2 : 0 ≤ x2 := h2
    have k3 : 0 ≤ x3 := h3
    have k4 : 0 ≤ x4 := h4
    have k5 : 0 ≤ x5 := h5
    have k6 : 0 ≤ x6 := h6
    have k7 : x0 ≤ 64 := h7
    have k8 : 3660 < x1 := h8
    go_enter Try.func5, Try.ntmps5
    go_wp2
    all_goals first | (exfalso; omega) | (go_ret; exact ⟨rfl, by repeat (first | exact (Below.refl _ _).alloc (Nat.le_refl _) _ | apply Below.drew)⟩)
  · have hv : wIn x0 x1 x2 x3 x4 x5 x6 = 82 := (if_neg (by unfold wNeg; omega)).trans (if_pos (by unfold wOver; omega))
    rw [hv]
    have k0 : 0 ≤ x0 := h0
    have k1 : 0 ≤ x1 := h1
    have k2 : 0 ≤ x2 := h2
    have k3 : 0 ≤ x3 := h3
    have k4 : 0 ≤ x4 := h4
    have k5 : 0 ≤ x5 := h5
    have k6 : 0 ≤ x6 := h6
    have k7 : x0 ≤ 64 := h7
    have k8 : x1 ≤ 3660 := h8
    have k9 : 2048 < x2 := h9
    go_enter Try.func5, Try.ntmps5
    go_wp2
    all_goals first | (exfalso; omega) | (go_ret; exact ⟨rfl, by repeat (first | exact (Below.refl _ _).alloc (Nat.le_refl _) _ | apply Below.drew)⟩)
  · have hv : wIn x0 x1 x2 x3 x4 x5 x6 = 82 := (if_neg (by unfold wNeg; omega)).trans (if_pos (by unfold wOver; omega))
    rw [hv]
    have k0 : 0 ≤ x0 := h0
    have k1 : 0 ≤ x1 := h1
    have k2 : 0 ≤ x2 := h2
    have k3 : 0 ≤ x3 := h3
    have k4 : 0 ≤ x4 := h4
    have k5 : 0 ≤ x5 := h5
    have k6 : 0 ≤ x6 := h6
    have k7 : x0 ≤ 64 := h7
    have k8 : x1 ≤ 3660 := h8
    have k9 : x2 ≤ 2048 := h9
    have k10 : 16384 < x3 := h10
    go_enter Try.func5, Try.ntmps5
    go_wp2
    all_goals first | (exfalso; omega) | (go_ret; exact ⟨rfl, by repeat (first | exact (Below.refl _ _).alloc (Nat.le_refl _) _ | apply Below.drew)⟩)
  · have hv : wIn x0 x1 x2 x3 x4 x5 x6 = 82 := (if_neg (by unfold wNeg; omega)).trans (if_pos (by unfold wOver; omega))
    rw [hv]
    have k0 : 0 ≤ x0 := h0
    have k1 : 0 ≤ x1 := h1
    have k2 : 0 ≤ x2 := h2
    have k3 : 0 ≤ x3 := h3
    have k4 : 0 ≤ x4 := h4
    have k5 : 0 ≤ x5 := h5
    have k6 : 0 ≤ x6 := h6
    have k7 : x0 ≤ 64 := h7
    have k8 : x1 ≤ 3660 := h8
    have k9 : x2 ≤ 2048 := h9
    have k10 : x3 ≤ 16384 := h10
    have k11 : 512 < x4 := h11
    go_enter Try.func5, Try.ntmps5
    go_wp2
    all_goals first | (exfalso; omega) | (go_ret; exact ⟨rfl, by repeat (first | exact (Below.refl _ _).alloc (Nat.le_refl _) _ | apply Below.drew)⟩)
  · have hv : wIn x0 x1 x2 x3 x4 x5 x6 = 82 := (if_neg (by unfold wNeg; omega)).trans (if_pos (by unfold wOver; omega))
    rw [hv]
    have k0 : 0 ≤ x0 := h0
    have k1 : 0 ≤ x1 := h1
    have k2 : 0 ≤ x2 := h2
    have k3 : 0 ≤ x3 := h3
    have k4 : 0 ≤ x4 := h4
    have k5 : 0 ≤ x5 := h5
    have k6 : 0 ≤ x6 := h6
    have k7 : x0 ≤ 64 := h7
    have k8 : x1 ≤ 3660 := h8
    have k9 : x2 ≤ 2048 := h9
    have k10 : x3 ≤ 16384 := h10
    have k11 : x4 ≤ 512 := h11
    have k12 : 64 < x5 := h12
    go_enter Try.func5, Try.ntmps5
    go_wp2
    all_goals first | (exfalso; omega) | (go_ret; exact ⟨rfl, by repeat (first | exact (Below.refl _ _).alloc (Nat.le_refl _) _ | apply Below.drew)⟩)
  · have hv : wIn x0 x1 x2 x3 x4 x5 x6 = 82 := (if_neg (by unfold wNeg; omega)).trans (if_pos (by unfold wOver; omega))
    rw [hv]
    have k0 : 0 ≤ x0 := h0
    have k1 : 0 ≤ x1 := h1
    have k2 : 0 ≤ x2 := h2
    have k3 : 0 ≤ x3 := h3
    have k4 : 0 ≤ x4 := h4
    have k5 : 0 ≤ x5 := h5
    have k6 : 0 ≤ x6 := h6
    have k7 : x0 ≤ 64 := h7
    have k8 : x1 ≤ 3660 := h8
    have k9 : x2 ≤ 2048 := h9
    have k10 : x3 ≤ 16384 := h10
    have k11 : x4 ≤ 512 := h11
    have k12 : x5 ≤ 64 := h12
    have k13 : 2097152 < x6 := h13
    go_enter Try.func5, Try.ntmps5
    go_wp2
    all_goals first | (exfalso; omega) | (go_ret; exact ⟨rfl, by repeat (first | exact (Below.refl _ _).alloc (Nat.le_refl _) _ | apply Below.drew)⟩)
  · have hv : wIn x0 x1 x2 x3 x4 x5 x6 = 0 := (if_neg (by unfold wNeg; omega)).trans (if_neg (by unfold wOver; omega))
    rw [hv]
    have k0 : 0 ≤ x0 := h0
    have k1 : 0 ≤ x1 := h1
    have k2 : 0 ≤ x2 := h2
    have k3 : 0 ≤ x3 := h3
    have k4 : 0 ≤ x4 := h4
    have k5 : 0 ≤ x5 := h5
    have k6 : 0 ≤ x6 := h6
    have k7 : x0 ≤ 64 := h7
    have k8 : x1 ≤ 3660 := h8
    have k9 : x2 ≤ 2048 := h9
    have k10 : x3 ≤ 16384 := h10
    have k11 : x4 ≤ 512 := h11
    have k12 : x5 ≤ 64 := h12
    have k13 : x6 ≤ 2097152 := h13
    go_enter Try.func5, Try.ntmps5
    go_wp2
    all_goals first | (exfalso; omega) | (go_ret; exact ⟨rfl, by repeat (first | exact (Below.refl _ _).alloc (Nat.le_refl _) _ | apply Below.drew)⟩)

end Go.Proofs.Ytdoalgfmcbmefaa
