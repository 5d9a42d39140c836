/-
  THE BOXES that a call with two numbers and a result lays.
-/
import Derived.Test.YtjlnbhmiahegmaaWRefOut
namespace Go.Proofs.Ytjlnbhmiahegmaa
open Go.RowKit
set_option linter.unusedVariables false

/-- A box of the call's own, as it lies in a later world. -/
theorem box_later {W w1 : World} (hb : Below W.heap.size W w1) {k j : Nat} (hk : k < W.heap.size) : w1.cell? ⟨k, j, none⟩ = W.cell? ⟨k, j, none⟩ ∧ w1.frozen? ⟨k, j, none⟩ = W.frozen? ⟨k, j, none⟩ :=
  ⟨hb.cell (p := ⟨k, j, none⟩) hk, hb.frozen (p := ⟨k, j, none⟩) hk⟩

/-- What the three boxes of a call with two numbers and a result hold. -/
structure PBox (w W : World) (va vb ra rb : Value) : Prop where
  size : w.heap.size + 1 + 1 < W.heap.size
  bel : Below w.heap.size w W
  a0 : W.cell? ⟨w.heap.size, 0, none⟩ = some ra
  a1 : W.cell? ⟨w.heap.size, 1, none⟩ = some va
  b0 : W.cell? ⟨w.heap.size + 1, 0, none⟩ = some rb
  b1 : W.cell? ⟨w.heap.size + 1, 1, none⟩ = some vb
  r0 : W.cell? ⟨w.heap.size + 1 + 1, 0, none⟩ = some (.bool false)
  r1 : W.cell? ⟨w.heap.size + 1 + 1, 1, none⟩ = some (.slice none 0 0)
  q0 : W.frozen? ⟨w.heap.size + 1 + 1, 0, none⟩ = false
  q1 : W.frozen? ⟨w.heap.size + 1 + 1, 1, none⟩ = false
theorem PBox.later {w W W' : World} {va vb ra rb : Value} (h : PBox w W va vb ra rb) (hb : Below W.heap.size W W') : PBox w W' va vb ra rb := by
  obtain ⟨s, bel, a0, a1, b0, b1, r0, r1, q0, q1⟩ := h
  have c : ∀ k j, k ≤ w.heap.size + 1 + 1 → W'.cell? ⟨k, j, none⟩ = W.cell? ⟨k, j, none⟩ := fun k j hk => (box_later hb (by omega)).1
  have f : ∀ k j, k ≤ w.heap.size + 1 + 1 → W'.frozen? ⟨k, j, none⟩ = W.frozen? ⟨k, j, none⟩ := fun k j hk => (box_later hb (by omega)).2
  exact ⟨Nat.lt_of_lt_of_le s hb.size, bel.trans (hb.mono (by omega)), (c _ _ (by omega)).trans a0, (c _ _ (by omega)).trans a1, (c _ _ (by omega)).trans b0, (c _ _ (by omega)).trans b1, (c _ _ (by omega)).trans r0, (c _ _ (by omega)).trans r1, (f _ _ (by omega)).trans q0, (f _ _ (by omega)).trans q1⟩
theorem PBox.drew {w W : World} {va vb ra rb : Value} (h : PBox w W va vb ra rb) : PBox w W.drew va vb ra rb :=
  ⟨h.size, h.bel.drew, h.a0, h.a1, h.b0, h.b1, h.r0, h.r1, h.q0, h.q1⟩
theorem PBox.drewN {w W : World} {va vb ra rb : Value} (h : PBox w W va vb ra rb) (n : Nat) : PBox w (W.drewN n) va vb ra rb :=
  ⟨h.size, below_nq h.bel n, h.a0, h.a1, h.b0, h.b1, h.r0, h.r1, h.q0, h.q1⟩
theorem PBox.made (w : World) (na nb : Bool) (va vb : Value) : PBox w (((w.alloc (.cells #[.bool na, va] 98)).alloc (.cells #[.bool nb, vb] 98)).alloc (.cells #[.bool false, .slice none 0 0] 98)) va vb (.bool na) (.bool nb) :=
  ⟨by simp, (((Below.refl _ _).alloc (Nat.le_refl _) _).alloc (by simp) _).alloc (by simp; omega) _, by simp [go_sem], by simp [go_sem], by simp [go_sem], by simp [go_sem], by simp [go_sem], by simp [go_sem], by simp [go_sem], by simp [go_sem]⟩

end Go.Proofs.Ytjlnbhmiahegmaa
