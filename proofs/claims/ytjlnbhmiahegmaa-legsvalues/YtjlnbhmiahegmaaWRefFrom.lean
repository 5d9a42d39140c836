/-
  WALK: the document's answer (payoffref01): From.
-/
import Derived.Test.YtjlnbhmiahegmaaWRef2
import Derived.Outline
namespace Go.Proofs.Ytjlnbhmiahegmaa
open Go.RowKit

/-- A value that reads as a whole number: sign and digits. -/
def BigR (w : World) (x : Value) (z : Int) : Prop := ∃ o, x = .agg #[.bool (decide (z < 0)), o] ∧ ∃ ds, Dg w o ds ∧ Norm ds ∧ dval ds = absI z
theorem BigR.later {w w' : World} {x : Value} {z : Int} (h : BigR w x z) (hb : Below w.heap.size w w') : BigR w' x z := by
  obtain ⟨o, hx, ds, h1, h2, h3⟩ := h
  exact ⟨o, hx, ds, h1.later hb, h2, h3⟩

theorem tdm (v : Int) : 10 * v.tdiv 10 + v.tmod 10 = v ∧ (0 ≤ v → 0 ≤ v.tmod 10 ∧ 0 ≤ v.tdiv 10) ∧ (v ≤ 0 → v.tmod 10 ≤ 0 ∧ v.tdiv 10 ≤ 0) ∧ -9 ≤ v.tmod 10 ∧ v.tmod 10 ≤ 9 := by
  have e := Int.mul_tdiv_add_tmod v 10
  have h1 : (v.tmod 10).natAbs = v.natAbs % 10 := Int.natAbs_tmod v 10
  have p1 : 0 ≤ v → 0 ≤ v.tmod 10 := fun h => Int.tmod_nonneg 10 h
  have p2 : 0 ≤ v → 0 ≤ v.tdiv 10 := fun h => Int.tdiv_nonneg h (by omega)
  have n1 : v ≤ 0 → v.tmod 10 ≤ 0 := fun h => by
    have h2 := Int.neg_tmod (-v) 10
    rw [Int.neg_neg] at h2
    have h3 := Int.tmod_nonneg 10 (show 0 ≤ -v by omega)
    omega
  refine ⟨e, fun h => ⟨p1 h, p2 h⟩, fun h => ⟨n1 h, ?_⟩, by omega, by omega⟩
  have := n1 h
  omega
/-- One digit of a number. -/
theorem from_step {v0 v d : Int} {ds : List Int} {k : Nat} (hl : ds.length = k) (h : dval ds + ten k * absI v = absI v0) (hd : d = absI (v.tmod 10)) :
    dval (ds ++ [d]) + ten (k + 1) * absI (v.tdiv 10) = absI v0 := by
  rw [dval_snoc, hl, ten_succ, hd]
  have e1 : absI (v.tmod 10) + 10 * absI (v.tdiv 10) = absI v := by
    obtain ⟨t1, t2, t3, t4, t5⟩ := tdm v
    unfold absI; omega
  have e2 : 10 * ten k * absI (v.tdiv 10) = ten k * (10 * absI (v.tdiv 10)) := by rw [Int.mul_comm 10, Int.mul_assoc]
  have e3 : ten k * absI (v.tmod 10) + ten k * (10 * absI (v.tdiv 10)) = ten k * absI v := by rw [← Int.mul_add, e1]
  omega
theorem ten19 : ten 19 = 10000000000000000000 := by decide
theorem from_len {v0 v : Int} {ds : List Int} {k : Nat} (hd : Digs ds) (h : dval ds + ten k * absI v = absI v0) (hv : ¬ v = 0) (h0 : inR v0) : k ≤ 18 := by
  have h1 := (dval_bd ds hd).1
  have h2 := (absI_bd v0 h0).2
  have h3 : 0 < absI v := by unfold absI; split <;> omega
  have h4 := ten_pos k
  refine Nat.le_of_not_lt fun hc => ?_
  have h5 := ten_le (show 19 ≤ k by omega)
  rw [ten19] at h5
  have h6 := Int.mul_le_mul_of_nonneg_left (show 1 ≤ absI v by omega) (show 0 ≤ ten k by omega)
  omega
theorem from_norm {v : Int} {ds : List Int} (h : v.tdiv 10 = 0) (hv : ¬ v = 0) : Norm (ds ++ [absI (v.tmod 10)]) := by
  right
  obtain ⟨t1, t2, t3, t4, t5⟩ := tdm v
  simp
  unfold absI; omega


/-- The two boxes that From lays: its result's and b's. -/
structure FBox (w wr : World) (neg : Bool) (o : Value) : Prop where
  size : w.heap.size + 2 ≤ wr.heap.size
  r0 : wr.cell? ⟨w.heap.size, 0, none⟩ = some (.bool false)
  r1 : wr.cell? ⟨w.heap.size, 1, none⟩ = some (.slice none 0 0)
  b0 : wr.cell? ⟨w.heap.size + 1, 0, none⟩ = some (.bool neg)
  b1 : wr.cell? ⟨w.heap.size + 1, 1, none⟩ = some o
  q0 : wr.frozen? ⟨w.heap.size, 0, none⟩ = false
  q1 : wr.frozen? ⟨w.heap.size, 1, none⟩ = false
  p1 : wr.frozen? ⟨w.heap.size + 1, 1, none⟩ = false
  bel : Below w.heap.size w wr

theorem FBox.grow {w wr w1 : World} {neg : Bool} {o : Value} {ob : Obj} (F : FBox w wr neg o) (hrow : ∀ k, o.ownBlock = some k → w.heap.size + 2 ≤ k) (hg : (wr.alloc ob).grownBy w1 o.ownBlock) : FBox w w1 neg o := by
  obtain ⟨s, r0, r1, b0, b1, q0, q1, p1, bel⟩ := F
  have hs : (wr.alloc ob).heap.size = wr.heap.size + 1 := by simp
  have hb : ∀ k, k < w.heap.size + 2 → w1.heap[k]? = wr.heap[k]? := fun k hk => by
    refine (hg.block k (by omega) (fun e => ?_)).trans (Below.heap_alloc wr ob k (by omega))
    have := hrow k e.symm
    omega
  have c : ∀ k j, k < w.heap.size + 2 → w1.cell? ⟨k, j, none⟩ = wr.cell? ⟨k, j, none⟩ := fun k j hk => World.cell?_of_block (a := ⟨k, j, none⟩) (hb k hk)
  have f : ∀ k j, k < w.heap.size + 2 → w1.frozen? ⟨k, j, none⟩ = wr.frozen? ⟨k, j, none⟩ := fun k j hk => World.frozen?_of_block (a := ⟨k, j, none⟩) (hb k hk)
  refine ⟨by have := hg.size; omega, (c _ _ (by omega)).trans r0, (c _ _ (by omega)).trans r1, (c _ _ (by omega)).trans b0, (c _ _ (by omega)).trans b1, (f _ _ (by omega)).trans q0, (f _ _ (by omega)).trans q1, (f _ _ (by omega)).trans p1, ?_⟩
  exact (bel.alloc (by omega) ob).grown hg (by omega) (fun k e => by have := hrow k e; omega)
theorem FBox.store {w wr : World} {neg : Bool} {o : Value} (F : FBox w wr neg o) (v : Value) : FBox w (wr.setCell ⟨w.heap.size + 1, 1, none⟩ v) neg v := by
  obtain ⟨s, r0, r1, b0, b1, q0, q1, p1, bel⟩ := F
  refine ⟨by simpa using s, ?_, ?_, ?_, World.cell?_setCell_same _ _ _ b1, by simpa using q0, by simpa using q1, by simpa using p1, bel.setCell (by simp) v⟩
  · rw [World.cell?_setCell_other _ _ _ _ (by simp)]; exact r0
  · rw [World.cell?_setCell_other _ _ _ _ (by simp)]; exact r1
  · rw [World.cell?_setCell_other _ _ _ _ (by simp)]; exact b0

/-- What holds of a round's numbers. -/
structure FNum (v0 x : Int) (ds : List Int) : Prop where
  inr : inR x
  val : dval ds + ten ds.length * absI x = absI v0
  dig : Digs ds
  norm : x = 0 → Norm ds
  len : ds.length ≤ 19
theorem FNum.next {v0 x : Int} {ds : List Int} (h0 : inR v0) (F : FNum v0 x ds) (hx : ¬ x = 0) : FNum v0 (x.tdiv 10) (ds ++ [absI (x.tmod 10)]) := by
  obtain ⟨inr, val, dig, norm, len⟩ := F
  have hk := from_len dig val hx h0
  obtain ⟨t1, t2, t3, t4, t5⟩ := tdm x
  refine ⟨by unfold inR at *; omega, ?_, digs_snoc dig (absI_nonneg _) (by unfold absI; split <;> omega), fun h => from_norm h hx, by simp; omega⟩
  have := from_step rfl val rfl
  rw [List.length_append]; exact this
theorem FNum.len19 {v0 x : Int} {ds : List Int} (F : FNum v0 x ds) : ds.length ≤ 1000 := by have := F.len; omega
theorem FNum.less (x : Int) (hx : ¬ x = 0) : (x.tdiv 10).toNat + (-(x.tdiv 10)).toNat < x.toNat + (-x).toNat := by
  obtain ⟨t1, t2, t3, t4, t5⟩ := tdm x
  omega

set_option maxHeartbeats 800000 in
theorem from_any (v0 : Int) (h0 : inR v0) (w : World) :
    Calls Try.prog 58 #[.int .i64 v0] w fun e w' => ∃ x, e = .returned x ∧ Below w.heap.size w w' ∧ BigR w' x v0 := by
  obtain ⟨i0, hi, hz0, hz1, hz2⟩ := info_parts info3
  have H0 := veil h0
  generalize hneg : decide (v0 < 0) = neg
  have HN := veil hneg
  go_enter Try.func58, Try.ntmps58
  go_wp2_with fail
  clear hneg
  go_loopw [0] (fun v wr => ∃ (x : Int) (o : Value) (ds : List Int), v = .int .i64 x ∧ FNum v0 x ds ∧ FBox w wr neg o ∧ wr.ownsRow (w.heap.size + 2) 3 1 o ds.length (ds.map (Value.int .i64))) (fun v _ => (intOf v).toNat + (-(intOf v)).toNat)
  case atStart =>
    refine ⟨v0, .slice none 0 0, [], rfl, ⟨h0, by simp [dval, ten_zero], digs_nil, fun _ => Or.inl rfl, by simp⟩, ?_, World.ownsRow_nil _ _ _ _⟩
    exact ⟨by simp, by simp [go_sem], by simp [go_sem], by simp [go_sem], by simp [go_sem], by simp [go_sem], by simp [go_sem], by simp [go_sem], ((Below.refl _ _).alloc (Nat.le_refl _) _).alloc (by simp) _⟩
  case round =>
    obtain ⟨x, o, ds, rfl, hF0, hB0, hown⟩ := hrel
    have hF := veil hF0
    have hB := veil hB0
    have hsz := hB0.size
    have b0 := hB0.b0
    have b1 := hB0.b1
    obtain ⟨xl, xu⟩ := hF0.inr
    have hl := hF0.len
    have hdg := dg_of_own hown hF0.dig (by omega)
    have DG := veil hdg
    obtain ⟨_, _, ao, cap, rfl, _⟩ := hdg
    clear hF0 hB0
    by_cases hx : x = 0
    · subst hx
      have r0 := (unveil hB).r0
      have r1 := (unveil hB).r1
      have q0 := (unveil hB).q0
      have q1 := (unveil hB).q1
      go_wp2_with fail
      refine bodyPost_ret (v := .agg #[.bool neg, .slice ao ds.length cap]) (by simp [results, Try.results58, go_sem, r0, r1]) rfl ?_
      have bel := (unveil hB).bel
      have own2 := ownsRow_setCell_below (ownsRow_setCell_below hown (a := ⟨w.heap.size, 0, none⟩) (by simp) (.bool neg)) (a := ⟨w.heap.size, 1, none⟩) (by simp) (.slice ao ds.length cap)
      refine ⟨_, rfl, (bel.setCell (by simp) _).setCell (by simp) _, _, by rw [unveil HN], ds, dg_of_own own2 (unveil hF).dig (by omega), (unveil hF).norm rfl, ?_⟩
      have := (unveil hF).val
      simpa [absI] using this
    · have hx' : (x != 0) = true := by simpa using hx
      have N := veil ((unveil hF).next (unveil H0) hx)
      have M := veil (FNum.less x hx)
      have p1 := (unveil hB).p1
      have hrow := veil (fun k e => (hown.lt k e).1)
      obtain ⟨t1, t2, t3, t4, t5⟩ := tdm x
      have u1 : -922337203685477581 ≤ x.tdiv 10 := by omega
      have u2 : x.tdiv 10 ≤ 922337203685477581 := by omega
      clear t1 t2 t3 hx
      generalize hq : x.tdiv 10 = q at *
      generalize hr : x.tmod 10 = r at *
      by_cases hk : r < 0
      · rw [absI_neg hk] at N
        go_wp2_with (at_builtin; refine wp_digit wr (-r) rfl _ _ rfl (w.heap.size + 2) _ ds rfl rfl hown (by omega) (by omega) ?_; intro v' w1 R0 hgrow; have B1 := (unveil hB).grow (unveil hrow) hgrow; obtain ⟨_, _, ao', cap', hv', _⟩ := id (dg_of_own R0 (unveil N).dig (unveil N).len19); rw [List.length_append, List.length_singleton] at hv'; subst hv'; have e1 := B1.b1; have e2 := B1.p1; have R1 := veil (ownsRow_setCell_below R0 (a := ⟨w.heap.size + 1, 1, none⟩) (by simp) (.slice ao' (ds.length + 1) cap')); have R2 := veil (B1.store (.slice ao' (ds.length + 1) cap')); clear hgrow B1 R0)
        go_roundw
        case rel => exact ⟨q, _, _, rfl, unveil N, unveil R2, unveil R1⟩
        case measure => exact unveil M
      · have hk' : decide (r < 0) = false := by simpa using hk
        rw [absI_pos hk] at N
        go_wp2_with (at_builtin; refine wp_digit wr (r) rfl _ _ rfl (w.heap.size + 2) _ ds rfl rfl hown (by omega) (by omega) ?_; intro v' w1 R0 hgrow; have B1 := (unveil hB).grow (unveil hrow) hgrow; obtain ⟨_, _, ao', cap', hv', _⟩ := id (dg_of_own R0 (unveil N).dig (unveil N).len19); rw [List.length_append, List.length_singleton] at hv'; subst hv'; have e1 := B1.b1; have e2 := B1.p1; have R1 := veil (ownsRow_setCell_below R0 (a := ⟨w.heap.size + 1, 1, none⟩) (by simp) (.slice ao' (ds.length + 1) cap')); have R2 := veil (B1.store (.slice ao' (ds.length + 1) cap')); clear hgrow B1 R0)
        go_roundw
        case rel => exact ⟨q, _, _, rfl, unveil N, unveil R2, unveil R1⟩
        case measure => exact unveil M

end Go.Proofs.Ytjlnbhmiahegmaa
