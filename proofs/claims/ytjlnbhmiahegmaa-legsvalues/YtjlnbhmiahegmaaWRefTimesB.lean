/-
  WALK: the document's answer (payoffref01): Times; Mul.
-/
import Derived.Test.YtjlnbhmiahegmaaWRefTimes
import Derived.Test.YtjlnbhmiahegmaaWRefOut
import Derived.Test.YtjlnbhmiahegmaaPBox
import Derived.Deep.RegionHeld3
namespace Go.Proofs.Ytjlnbhmiahegmaa
open Go.RowKit
set_option maxRecDepth 100000
set_option linter.unusedVariables false

set_option maxHeartbeats 1600000 in
theorem timesB_box (na nb : Bool) (oa ob : Option Addr) (ca cb : Nat) (a b : List Int) (w : World) (ha : Dg w (.slice oa a.length ca) a) (hb : Dg w (.slice ob b.length cb) b) (la : a.length ≤ 150) (lb : b.length ≤ 150) :
    Calls Try.prog 60 #[.agg #[.bool na, .slice oa a.length ca], .agg #[.bool nb, .slice ob b.length cb]] w fun e w' => ∃ v, ∃ ds, e = .returned (.agg #[.bool ((na != nb) && decide (0 < ds.length)), v]) ∧ Below w.heap.size w w' ∧ Dg w' v ds ∧ dval ds = dval a * dval b ∧ Norm ds := by
  have Ha := veil ha
  have Hb := veil hb
  have PM := PBox.made w na nb (.slice oa a.length ca) (.slice ob b.length cb)
  clear ha hb
  go_enter Try.func60, Try.ntmps60
  go_wp2_with fail
  generalize (((w.alloc (.cells #[.bool na, .slice oa a.length ca] 98)).alloc (.cells #[.bool nb, .slice ob b.length cb] 98)).alloc (.cells #[.bool false, .slice none 0 0] 98)) = W at *
  have PV := veil PM
  obtain ⟨s, bel, a0, a1, b0, b1, r0, r1, q0, q1⟩ := PM
  have CP := veil (times_any _ _ a b W.drew ((unveil Ha).later bel.drew) ((unveil Hb).later bel.drew) la lb)
  have PD := veil (unveil PV).drew
  go_region_held3 (fun w' => w'.cell? ⟨w.heap.size, 0, none⟩ = some (.bool na) ∧ w'.cell? ⟨w.heap.size, 1, none⟩ = some (.slice oa a.length ca) ∧ w'.cell? ⟨w.heap.size + 1, 0, none⟩ = some (.bool nb) ∧ w'.cell? ⟨w.heap.size + 1, 1, none⟩ = some (.slice ob b.length cb)) (refine ⟨?_, ?_, ?_, ?_⟩ <;> first | assumption | (rw [World.cell?_setCell_other _ _ _ _ (by simp), World.cell?_setCell_other _ _ _ _ (by simp)]; assumption) | (simp [*]; done)) (first | (go_at_call 82; refine (unveil CP).mono ?_; rintro e w3 ⟨v, rfl, hb3, ds, d3, v3, n3, f3⟩; have P3 := (unveil PD).later hb3; obtain ⟨s3, bel3, a03, a13, b03, b13, r03, r13, q03, q13⟩ := id P3; obtain ⟨_, _, o3, c3, rfl, _⟩ := id d3; have D3 := veil d3; have V3 := veil v3; have N3 := veil n3; have F3 := veil f3; have P3' := veil P3; clear d3 v3 n3 P3 hb3 f3) | (go_at_call 63; refine (sign_any _ _ ds w3 (unveil D3)).mono ?_; rintro e w4 ⟨rfl, hb4⟩; have P4 := (unveil P3').later hb4; obtain ⟨s4, bel4, a04, a14, b04, b14, r04, r14, q04, q14⟩ := id P4; have D4 := veil ((unveil D3).later hb4); clear hb4 P4))
  all_goals go_wp2_with fail
  all_goals
    refine bodyPost_ret (v := .agg #[.bool (!(na == nb) && decide (0 < ds.length)), .slice o3 ds.length c3]) (by simp [results, Try.results60, go_sem, r04, r14]) rfl ?_
    exact ⟨_, ds, rfl, (bel4.setCell (by simp; omega) _).setCell (by simp; omega) _, ((unveil D4).set (unveil F3) s _).set (unveil F3) s _, unveil V3, unveil N3⟩

theorem absI_mul (p q : Int) : absI (p * q) = absI p * absI q := by
  have h := sgn_mul p q
  have h0 := Int.mul_nonneg (absI_nonneg p) (absI_nonneg q)
  rw [← h]
  unfold sgn
  split
  · have e : absI (-(absI p * absI q)) = absI (absI p * absI q) := by generalize absI p * absI q = t; unfold absI; split <;> split <;> omega
    rw [e, absI_pos (by omega)]
  · rw [absI_pos (by omega)]
theorem sign_mul (p q : Int) (h : ¬ p * q = 0) : (decide (p < 0) != decide (q < 0)) = decide (p * q < 0) := by
  have e := sgn_mul p q
  have h0 := Int.mul_nonneg (absI_nonneg p) (absI_nonneg q)
  show dif p q = _
  cases hd : dif p q
  · rw [hd] at e
    simp only [sgn] at e
    rw [← e]
    exact (decide_eq_false (by simpa using h0)).symm
  · rw [hd] at e
    simp only [sgn, if_true] at e
    exact (decide_eq_true (by omega)).symm

theorem timesB_any (x y : Value) (p q : Int) (w : World) (hx : BigR w x p) (hy : BigR w y q) (bp : absI p < ten 100) (bq : absI q < ten 100) :
    Calls Try.prog 60 #[x, y] w fun e w' => ∃ z, e = .returned z ∧ Below w.heap.size w w' ∧ BigR w' z (p * q) := by
  obtain ⟨o1, rfl, a, da, na, va⟩ := hx
  obtain ⟨o2, rfl, b, db, nb, vb⟩ := hy
  obtain ⟨_, _, oa, ca, rfl, _⟩ := id da
  obtain ⟨_, _, ob, cb, rfl, _⟩ := id db
  have la := norm_len da.1 na (k := 100) (by omega)
  have lb := norm_len db.1 nb (k := 100) (by omega)
  refine (timesB_box _ _ oa ob ca cb a b w da db (by omega) (by omega)).mono ?_
  rintro e w' ⟨v, ds, rfl, hbel, hd, hv, hn⟩
  exact ⟨_, rfl, hbel, bigR_sign hd hn (by rw [hv, va, vb, absI_mul]) (sign_mul p q)⟩

theorem ten100' (z : Int) (h : inR z) : absI z < ten 100 := by
  have h1 := (absI_bd z h).2
  have h2 := ten_le (show 19 ≤ 100 by omega)
  rw [ten19] at h2
  omega

end Go.Proofs.Ytjlnbhmiahegmaa
