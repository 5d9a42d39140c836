/-
  WALKS: the document's answer (payoffref01): Round: what it stands on.
-/
import Derived.Test.YtjlnbhmiahegmaaWRefOver
import Derived.Test.YtjlnbhmiahegmaaWRefOut
import Derived.Test.YtjlnbhmiahegmaaPBox
namespace Go.Proofs.Ytjlnbhmiahegmaa
open Go.RowKit
set_option maxRecDepth 100000
set_option linter.unusedVariables false

/-- What the two boxes of Round hold. -/
structure BBox (w W : World) (va vb ra rb : Value) : Prop where
  size : w.heap.size + 1 < W.heap.size
  bel : Below w.heap.size w W
  a0 : W.cell? ⟨w.heap.size, 0, none⟩ = some ra
  a1 : W.cell? ⟨w.heap.size, 1, none⟩ = some va
  b0 : W.cell? ⟨w.heap.size + 1, 0, none⟩ = some rb
  b1 : W.cell? ⟨w.heap.size + 1, 1, none⟩ = some vb
theorem BBox.later {w W W' : World} {va vb ra rb : Value} (h : BBox w W va vb ra rb) (hb : Below W.heap.size W W') : BBox w W' va vb ra rb := by
  obtain ⟨s, bel, a0, a1, b0, b1⟩ := h
  have c : ∀ k j, k ≤ w.heap.size + 1 → W'.cell? ⟨k, j, none⟩ = W.cell? ⟨k, j, none⟩ := fun k j hk => (box_later hb (by omega)).1
  exact ⟨Nat.lt_of_lt_of_le s hb.size, bel.trans (hb.mono (by omega)), (c _ _ (by omega)).trans a0, (c _ _ (by omega)).trans a1, (c _ _ (by omega)).trans b0, (c _ _ (by omega)).trans b1⟩
theorem BBox.drewN {w W : World} {va vb ra rb : Value} (h : BBox w W va vb ra rb) (n : Nat) : BBox w (W.drewN n) va vb ra rb :=
  ⟨h.size, below_nq h.bel n, h.a0, h.a1, h.b0, h.b1⟩
theorem BBox.made (w : World) (na nb : Bool) (va vb : Value) : BBox w ((w.alloc (.cells #[.bool na, va] 98)).alloc (.cells #[.bool nb, vb] 98)) va vb (.bool na) (.bool nb) :=
  ⟨by simp, ((Below.refl _ _).alloc (Nat.le_refl _) _).alloc (by simp) _, by simp [go_sem], by simp [go_sem], by simp [go_sem], by simp [go_sem]⟩

/-- over, with Lean's own words for the quotient and the rest. -/
theorem over_div (va vb : Value) (a b : List Int) (w : World) (ha : Dg w va a) (hb : Dg w vb b) (nb : Norm b) (hB : 0 < dval b) (la : a.length ≤ 150) (lb : b.length ≤ 150) :
    Calls Try.prog 62 #[va, vb] w fun e w' => ∃ qo qc ro rc, ∃ qs rs : List Int, e = .returned (.tuple #[.slice qo qs.length qc, .slice ro rs.length rc]) ∧ Below w.heap.size w w' ∧ Dg w' (.slice qo qs.length qc) qs ∧ Norm qs ∧ Dg w' (.slice ro rs.length rc) rs ∧ Norm rs ∧ dval qs = dval a / dval b ∧ dval rs = dval a % dval b := by
  refine (over_any va vb a b w ha hb nb hB la lb).mono ?_
  rintro e w' ⟨q, r, rfl, hbel, qs, rs, dq, nq, dr, nr, hv, hlt⟩
  obtain ⟨_, _, qo, qc, rfl, _⟩ := id dq
  obtain ⟨_, _, ro, rc, rfl, _⟩ := id dr
  have h0 := (dval_bd rs dr.1).1
  have e1 : dval a / dval b = dval qs := by
    rw [hv, Int.add_comm, Int.mul_comm, Int.add_mul_ediv_left _ _ (by omega), Int.ediv_eq_zero_of_lt h0 hlt]; omega
  have e2 : dval a % dval b = dval rs := by
    rw [hv, Int.add_comm, Int.mul_comm, Int.add_mul_emod_self_left, Int.emod_eq_of_lt h0 hlt]
  exact ⟨qo, qc, ro, rc, qs, rs, rfl, hbel, dq, nq, dr, nr, e1.symm, e2.symm⟩

/-- The list of the one digit 1. -/
theorem dg_one (w : World) : Dg (w.alloc (.cells #[.int .i64 1] 3)) (.slice (some ⟨w.heap.size, 0, none⟩) 1 1) [1] := by
  refine ⟨digs_cons digs_nil (by omega) (by omega), by simp, some ⟨w.heap.size, 0, none⟩, 1, rfl, by simp, ⟨by decide, fun e => by cases e⟩, Or.inr ⟨w.heap.size, 0, rfl, by simp, fun i hi => ?_⟩⟩
  match i, hi with
  | 0, _ => simp
theorem dval_len (a : List Int) (h : Digs a) (hn : Norm a) (k : Nat) (hk : dval a < ten k) : a.length ≤ k := norm_len h hn hk
theorem dval_pos_len {rs : List Int} (h : Digs rs) (hn : Norm rs) (hp : 0 < dval rs) : 0 < rs.length := by
  refine Nat.pos_of_ne_zero fun hc => ?_
  have := (norm_zero h hn).2 hc
  omega
theorem dval_odd (qs : List Int) : dval qs % 2 = qs.getD 0 0 % 2 := by
  cases qs with
  | nil => simp [dval]
  | cons d qs => simp [dval]; omega
theorem quo_len {a b : List Int} (ha : Digs a) (hB : 0 < dval b) (la : a.length ≤ 150) : dval a / dval b < ten 150 := by
  have h1 := (dval_bd a ha)
  have h2 := ten_le la
  have h3 : dval a / dval b ≤ dval a := Int.ediv_le_self _ h1.1
  omega
theorem rem_len {a b : List Int} (hb : Digs b) (hB : 0 < dval b) (lb : b.length ≤ 150) : dval a % dval b < ten 150 := by
  have h1 := (dval_bd b hb).2
  have h2 := ten_le lb
  have h3 := Int.emod_lt_of_pos (dval a) hB
  omega

end Go.Proofs.Ytjlnbhmiahegmaa
