/-
  WALKS: the document's answer (payoffref01): Round: HalfUp, HalfEven.
-/
import Derived.Test.YtjlnbhmiahegmaaWRefRound1
namespace Go.Proofs.Ytjlnbhmiahegmaa
open Go.RowKit
set_option maxRecDepth 100000
set_option linter.unusedVariables false

set_option maxHeartbeats 1600000 in
theorem round_half_gt (na : Bool) (nb : Bool) (oa ob : Option Addr) (ca cb : Nat) (a b : List Int) (w : World) (ha : Dg w (.slice oa a.length ca) a) (hb : Dg w (.slice ob b.length cb) b) (nrm : Norm b) (hB : 0 < dval b) (la : a.length ≤ 150) (lb : b.length ≤ 150) (hc : dval b < 2 * (dval a % dval b))  :
    RoundSays na nb 3 true oa ob ca cb a b w := by
  have Ha := veil ha
  have Hb := veil hb
  have NB := veil nrm
  have HBP := veil hB
  have HC := veil hc
  have PM := BBox.made w na nb (.slice oa a.length ca) (.slice ob b.length cb)
  clear ha hb nrm hB hc
  unfold RoundSays
  go_enter Try.func61, Try.ntmps61
  go_wp2_with fail
  generalize ((w.alloc (.cells #[.bool na, .slice oa a.length ca] 98)).alloc (.cells #[.bool nb, .slice ob b.length cb] 98)) = W at *
  refine (over_div _ _ a b W ((unveil Ha).later PM.bel) ((unveil Hb).later PM.bel) (unveil NB) (unveil HBP) la lb).mono ?_
  rintro e w1 ⟨qo, qc, ro, rc, qs, rs, rfl, hb1, dq, nq, dr, nr, vq, vr⟩
  have P1 := PM.later hb1
  have P1' := veil P1
  obtain ⟨s1, bel1, a01, a11, b01, b11⟩ := P1
  have rl := dval_len rs dr.1 nr 150 (by rw [vr]; exact rem_len (unveil Hb).1 (unveil HBP) lb)
  have ql := dval_len qs dq.1 nq 150 (by rw [vq]; exact quo_len (unveil Ha).1 (unveil HBP) la)
  have DQ := veil dq
  have NQ := veil nq
  have DR := veil dr
  have NR := veil nr
  have VQ := veil vq
  have VR := veil vr
  clear hb1 dq nq dr nr vq vr PM
  go_wp2_with fail
  refine (plus_any _ _ rs rs w1 (unveil DR) (unveil DR) 150 rl rl (by omega)).mono ?_
  rintro e w2 ⟨v2, rfl, hb2, two, d2, v2e, n2, f2⟩
  have P2 := (unveil P1').later hb2
  have P2' := veil P2
  obtain ⟨s2, bel2, a02, a12, b02, b12⟩ := P2
  have D2 := veil d2
  have N2 := veil n2
  have DQ2 := veil ((unveil DQ).later hb2)
  have CMP1 := veil (show decide (dval b < dval two) = true by rw [v2e, unveil VR]; have := unveil HC; simp; omega)
  have CMP2 := veil (show decide (dval two < dval b) = false by rw [v2e, unveil VR]; have := unveil HC; simp; omega)
  clear hb2 d2 v2e n2 f2
  go_wp2_with fail
  refine (above_any _ _ two b w2 (unveil D2) ((unveil Hb).later (unveil P2').bel) (unveil N2) (unveil NB)).mono ?_
  rintro e w3 ⟨rfl, m3, hw3⟩
  rw [unveil CMP1]
  have P3 : BBox w w3 (.slice oa a.length ca) (.slice ob b.length cb) (.bool na) (.bool nb) := by rw [hw3]; exact (unveil P2').drewN m3
  have P3' := veil P3
  obtain ⟨s3, bel3, a03, a13, b03, b13⟩ := P3
  have D3 := veil (show Dg w3 v2 two by rw [hw3]; exact unveil D2)
  have DQ3 := veil (show Dg w3 (.slice qo qs.length qc) qs by rw [hw3]; exact unveil DQ2)
  clear hw3
  go_wp2_with fail
  refine (above_any _ _ two b w3 (unveil D3) ((unveil Hb).later (unveil P3').bel) (unveil N2) (unveil NB)).mono ?_
  rintro e w4 ⟨rfl, m4, hw4⟩
  rw [unveil CMP1]
  have P4 : BBox w w4 (.slice oa a.length ca) (.slice ob b.length cb) (.bool na) (.bool nb) := by rw [hw4]; exact (unveil P3').drewN m4
  have P4' := veil P4
  obtain ⟨s4, bel4, a04, a14, b04, b14⟩ := P4
  have D4 := veil (show Dg w4 v2 two by rw [hw4]; exact unveil D3)
  have DQ4 := veil (show Dg w4 (.slice qo qs.length qc) qs by rw [hw4]; exact unveil DQ3)
  clear hw4
  go_wp2_with fail
  have bl4 := (unveil P4').bel
  refine (plus_any _ _ qs [1] _ ((unveil DQ4).later ((Below.refl _ _).alloc (Nat.le_refl _) _)) (dg_one w4) 150 ql (by simp) (by omega)).mono ?_
  rintro e w5 ⟨v9, rfl, hb9, q9, d9, v9e, n9, f9⟩
  have bl5 : Below w.heap.size w w5 := (bl4.alloc (by have := s4; omega) _).trans (hb9.mono (by have := s4; simp; omega))
  obtain ⟨_, _, o9, c9, rfl, _⟩ := id d9
  have D9 := veil d9
  have V9 := veil (show dval q9 = dval a / dval b + 1 by rw [v9e, unveil VQ]; rfl)
  have N9 := veil n9
  clear hb9 d9 v9e n9 f9
  go_wp2_with fail
  refine (sign_any _ _ q9 w5 (unveil D9)).mono ?_
  rintro e w6 ⟨rfl, hbs⟩
  have bl6 : Below w.heap.size w w6 := bl5.trans (hbs.mono bl5.size)
  have BS := veil (bigR_round (na != nb) ((unveil D9).later hbs) (unveil N9) (unveil V9))
  clear hbs
  go_wp2_with fail
  refine (out_any _ _ w6 (unveil BS)).mono ?_
  rintro e w7 ⟨rfl, hbo⟩
  have bl7 : Below w.heap.size w w7 := bl6.trans (hbo.mono bl6.size)
  clear hbo
  go_wp2_with fail
  go_ret2
  exact ⟨rfl, bl7⟩

set_option maxHeartbeats 1600000 in
theorem round_half_eq (na : Bool) (nb : Bool) (oa ob : Option Addr) (ca cb : Nat) (a b : List Int) (w : World) (ha : Dg w (.slice oa a.length ca) a) (hb : Dg w (.slice ob b.length cb) b) (nrm : Norm b) (hB : 0 < dval b) (la : a.length ≤ 150) (lb : b.length ≤ 150) (hc : 2 * (dval a % dval b) = dval b)  :
    RoundSays na nb 3 true oa ob ca cb a b w := by
  have Ha := veil ha
  have Hb := veil hb
  have NB := veil nrm
  have HBP := veil hB
  have HC := veil hc
  have PM := BBox.made w na nb (.slice oa a.length ca) (.slice ob b.length cb)
  clear ha hb nrm hB hc
  unfold RoundSays
  go_enter Try.func61, Try.ntmps61
  go_wp2_with fail
  generalize ((w.alloc (.cells #[.bool na, .slice oa a.length ca] 98)).alloc (.cells #[.bool nb, .slice ob b.length cb] 98)) = W at *
  refine (over_div _ _ a b W ((unveil Ha).later PM.bel) ((unveil Hb).later PM.bel) (unveil NB) (unveil HBP) la lb).mono ?_
  rintro e w1 ⟨qo, qc, ro, rc, qs, rs, rfl, hb1, dq, nq, dr, nr, vq, vr⟩
  have P1 := PM.later hb1
  have P1' := veil P1
  obtain ⟨s1, bel1, a01, a11, b01, b11⟩ := P1
  have rl := dval_len rs dr.1 nr 150 (by rw [vr]; exact rem_len (unveil Hb).1 (unveil HBP) lb)
  have ql := dval_len qs dq.1 nq 150 (by rw [vq]; exact quo_len (unveil Ha).1 (unveil HBP) la)
  have DQ := veil dq
  have NQ := veil nq
  have DR := veil dr
  have NR := veil nr
  have VQ := veil vq
  have VR := veil vr
  clear hb1 dq nq dr nr vq vr PM
  go_wp2_with fail
  refine (plus_any _ _ rs rs w1 (unveil DR) (unveil DR) 150 rl rl (by omega)).mono ?_
  rintro e w2 ⟨v2, rfl, hb2, two, d2, v2e, n2, f2⟩
  have P2 := (unveil P1').later hb2
  have P2' := veil P2
  obtain ⟨s2, bel2, a02, a12, b02, b12⟩ := P2
  have D2 := veil d2
  have N2 := veil n2
  have DQ2 := veil ((unveil DQ).later hb2)
  have CMP1 := veil (show decide (dval b < dval two) = false by rw [v2e, unveil VR]; have := unveil HC; simp; omega)
  have CMP2 := veil (show decide (dval two < dval b) = false by rw [v2e, unveil VR]; have := unveil HC; simp; omega)
  clear hb2 d2 v2e n2 f2
  go_wp2_with fail
  refine (above_any _ _ two b w2 (unveil D2) ((unveil Hb).later (unveil P2').bel) (unveil N2) (unveil NB)).mono ?_
  rintro e w3 ⟨rfl, m3, hw3⟩
  rw [unveil CMP1]
  have P3 : BBox w w3 (.slice oa a.length ca) (.slice ob b.length cb) (.bool na) (.bool nb) := by rw [hw3]; exact (unveil P2').drewN m3
  have P3' := veil P3
  obtain ⟨s3, bel3, a03, a13, b03, b13⟩ := P3
  have D3 := veil (show Dg w3 v2 two by rw [hw3]; exact unveil D2)
  have DQ3 := veil (show Dg w3 (.slice qo qs.length qc) qs by rw [hw3]; exact unveil DQ2)
  clear hw3
  go_wp2_with fail
  refine (above_any _ _ b two w3 ((unveil Hb).later (unveil P3').bel) (unveil D3) (unveil NB) (unveil N2)).mono ?_
  rintro e w4 ⟨rfl, m4, hw4⟩
  rw [unveil CMP2]
  have P4 : BBox w w4 (.slice oa a.length ca) (.slice ob b.length cb) (.bool na) (.bool nb) := by rw [hw4]; exact (unveil P3').drewN m4
  have P4' := veil P4
  obtain ⟨s4, bel4, a04, a14, b04, b14⟩ := P4
  have D4 := veil (show Dg w4 v2 two by rw [hw4]; exact unveil D3)
  have DQ4 := veil (show Dg w4 (.slice qo qs.length qc) qs by rw [hw4]; exact unveil DQ3)
  clear hw4
  go_wp2_with fail
  have bl4 := (unveil P4').bel
  refine (plus_any _ _ qs [1] _ ((unveil DQ4).later ((Below.refl _ _).alloc (Nat.le_refl _) _)) (dg_one w4) 150 ql (by simp) (by omega)).mono ?_
  rintro e w5 ⟨v9, rfl, hb9, q9, d9, v9e, n9, f9⟩
  have bl5 : Below w.heap.size w w5 := (bl4.alloc (by have := s4; omega) _).trans (hb9.mono (by have := s4; simp; omega))
  obtain ⟨_, _, o9, c9, rfl, _⟩ := id d9
  have D9 := veil d9
  have V9 := veil (show dval q9 = dval a / dval b + 1 by rw [v9e, unveil VQ]; rfl)
  have N9 := veil n9
  clear hb9 d9 v9e n9 f9
  go_wp2_with fail
  refine (sign_any _ _ q9 w5 (unveil D9)).mono ?_
  rintro e w6 ⟨rfl, hbs⟩
  have bl6 : Below w.heap.size w w6 := bl5.trans (hbs.mono bl5.size)
  have BS := veil (bigR_round (na != nb) ((unveil D9).later hbs) (unveil N9) (unveil V9))
  clear hbs
  go_wp2_with fail
  refine (out_any _ _ w6 (unveil BS)).mono ?_
  rintro e w7 ⟨rfl, hbo⟩
  have bl7 : Below w.heap.size w w7 := bl6.trans (hbo.mono bl6.size)
  clear hbo
  go_wp2_with fail
  go_ret2
  exact ⟨rfl, bl7⟩

set_option maxHeartbeats 1600000 in
theorem round_half_lt (na : Bool) (nb : Bool) (oa ob : Option Addr) (ca cb : Nat) (a b : List Int) (w : World) (ha : Dg w (.slice oa a.length ca) a) (hb : Dg w (.slice ob b.length cb) b) (nrm : Norm b) (hB : 0 < dval b) (la : a.length ≤ 150) (lb : b.length ≤ 150) (hc : 2 * (dval a % dval b) < dval b)  :
    RoundSays na nb 3 false oa ob ca cb a b w := by
  have Ha := veil ha
  have Hb := veil hb
  have NB := veil nrm
  have HBP := veil hB
  have HC := veil hc
  have PM := BBox.made w na nb (.slice oa a.length ca) (.slice ob b.length cb)
  clear ha hb nrm hB hc
  unfold RoundSays
  go_enter Try.func61, Try.ntmps61
  go_wp2_with fail
  generalize ((w.alloc (.cells #[.bool na, .slice oa a.length ca] 98)).alloc (.cells #[.bool nb, .slice ob b.length cb] 98)) = W at *
  refine (over_div _ _ a b W ((unveil Ha).later PM.bel) ((unveil Hb).later PM.bel) (unveil NB) (unveil HBP) la lb).mono ?_
  rintro e w1 ⟨qo, qc, ro, rc, qs, rs, rfl, hb1, dq, nq, dr, nr, vq, vr⟩
  have P1 := PM.later hb1
  have P1' := veil P1
  obtain ⟨s1, bel1, a01, a11, b01, b11⟩ := P1
  have rl := dval_len rs dr.1 nr 150 (by rw [vr]; exact rem_len (unveil Hb).1 (unveil HBP) lb)
  have ql := dval_len qs dq.1 nq 150 (by rw [vq]; exact quo_len (unveil Ha).1 (unveil HBP) la)
  have DQ := veil dq
  have NQ := veil nq
  have DR := veil dr
  have NR := veil nr
  have VQ := veil vq
  have VR := veil vr
  clear hb1 dq nq dr nr vq vr PM
  go_wp2_with fail
  refine (plus_any _ _ rs rs w1 (unveil DR) (unveil DR) 150 rl rl (by omega)).mono ?_
  rintro e w2 ⟨v2, rfl, hb2, two, d2, v2e, n2, f2⟩
  have P2 := (unveil P1').later hb2
  have P2' := veil P2
  obtain ⟨s2, bel2, a02, a12, b02, b12⟩ := P2
  have D2 := veil d2
  have N2 := veil n2
  have DQ2 := veil ((unveil DQ).later hb2)
  have CMP1 := veil (show decide (dval b < dval two) = false by rw [v2e, unveil VR]; have := unveil HC; simp; omega)
  have CMP2 := veil (show decide (dval two < dval b) = true by rw [v2e, unveil VR]; have := unveil HC; simp; omega)
  clear hb2 d2 v2e n2 f2
  go_wp2_with fail
  refine (above_any _ _ two b w2 (unveil D2) ((unveil Hb).later (unveil P2').bel) (unveil N2) (unveil NB)).mono ?_
  rintro e w3 ⟨rfl, m3, hw3⟩
  rw [unveil CMP1]
  have P3 : BBox w w3 (.slice oa a.length ca) (.slice ob b.length cb) (.bool na) (.bool nb) := by rw [hw3]; exact (unveil P2').drewN m3
  have P3' := veil P3
  obtain ⟨s3, bel3, a03, a13, b03, b13⟩ := P3
  have D3 := veil (show Dg w3 v2 two by rw [hw3]; exact unveil D2)
  have DQ3 := veil (show Dg w3 (.slice qo qs.length qc) qs by rw [hw3]; exact unveil DQ2)
  clear hw3
  go_wp2_with fail
  refine (above_any _ _ b two w3 ((unveil Hb).later (unveil P3').bel) (unveil D3) (unveil NB) (unveil N2)).mono ?_
  rintro e w4 ⟨rfl, m4, hw4⟩
  rw [unveil CMP2]
  have P4 : BBox w w4 (.slice oa a.length ca) (.slice ob b.length cb) (.bool na) (.bool nb) := by rw [hw4]; exact (unveil P3').drewN m4
  have P4' := veil P4
  obtain ⟨s4, bel4, a04, a14, b04, b14⟩ := P4
  have D4 := veil (show Dg w4 v2 two by rw [hw4]; exact unveil D3)
  have DQ4 := veil (show Dg w4 (.slice qo qs.length qc) qs by rw [hw4]; exact unveil DQ3)
  clear hw4
  go_wp2_with fail
  refine (above_any _ _ two b w4 (unveil D4) ((unveil Hb).later (unveil P4').bel) (unveil N2) (unveil NB)).mono ?_
  rintro e w5 ⟨rfl, m5, hw5⟩
  rw [unveil CMP1]
  have P5 : BBox w w5 (.slice oa a.length ca) (.slice ob b.length cb) (.bool na) (.bool nb) := by rw [hw5]; exact (unveil P4').drewN m5
  have P5' := veil P5
  obtain ⟨s5, bel5, a05, a15, b05, b15⟩ := P5
  have D5 := veil (show Dg w5 v2 two by rw [hw5]; exact unveil D4)
  have DQ5 := veil (show Dg w5 (.slice qo qs.length qc) qs by rw [hw5]; exact unveil DQ4)
  clear hw5
  go_wp2_with fail
  have bl5 := (unveil P5').bel
  refine (sign_any _ _ qs w5 (unveil DQ5)).mono ?_
  rintro e w6 ⟨rfl, hbs⟩
  have bl6 : Below w.heap.size w w6 := bl5.trans (hbs.mono bl5.size)
  have BS := veil (bigR_round (na != nb) ((unveil DQ5).later hbs) (unveil NQ) (unveil VQ))
  clear hbs
  go_wp2_with fail
  refine (out_any _ _ w6 (unveil BS)).mono ?_
  rintro e w7 ⟨rfl, hbo⟩
  have bl7 : Below w.heap.size w w7 := bl6.trans (hbo.mono bl6.size)
  clear hbo
  go_wp2_with fail
  go_ret2
  exact ⟨rfl, bl7⟩

set_option maxHeartbeats 1600000 in
theorem round_even_gt (na : Bool) (nb : Bool) (oa ob : Option Addr) (ca cb : Nat) (a b : List Int) (w : World) (ha : Dg w (.slice oa a.length ca) a) (hb : Dg w (.slice ob b.length cb) b) (nrm : Norm b) (hB : 0 < dval b) (la : a.length ≤ 150) (lb : b.length ≤ 150) (hc : dval b < 2 * (dval a % dval b))  :
    RoundSays na nb 4 true oa ob ca cb a b w := by
  have Ha := veil ha
  have Hb := veil hb
  have NB := veil nrm
  have HBP := veil hB
  have HC := veil hc
  have PM := BBox.made w na nb (.slice oa a.length ca) (.slice ob b.length cb)
  clear ha hb nrm hB hc
  unfold RoundSays
  go_enter Try.func61, Try.ntmps61
  go_wp2_with fail
  generalize ((w.alloc (.cells #[.bool na, .slice oa a.length ca] 98)).alloc (.cells #[.bool nb, .slice ob b.length cb] 98)) = W at *
  refine (over_div _ _ a b W ((unveil Ha).later PM.bel) ((unveil Hb).later PM.bel) (unveil NB) (unveil HBP) la lb).mono ?_
  rintro e w1 ⟨qo, qc, ro, rc, qs, rs, rfl, hb1, dq, nq, dr, nr, vq, vr⟩
  have P1 := PM.later hb1
  have P1' := veil P1
  obtain ⟨s1, bel1, a01, a11, b01, b11⟩ := P1
  have rl := dval_len rs dr.1 nr 150 (by rw [vr]; exact rem_len (unveil Hb).1 (unveil HBP) lb)
  have ql := dval_len qs dq.1 nq 150 (by rw [vq]; exact quo_len (unveil Ha).1 (unveil HBP) la)
  have DQ := veil dq
  have NQ := veil nq
  have DR := veil dr
  have NR := veil nr
  have VQ := veil vq
  have VR := veil vr
  clear hb1 dq nq dr nr vq vr PM
  go_wp2_with fail
  refine (plus_any _ _ rs rs w1 (unveil DR) (unveil DR) 150 rl rl (by omega)).mono ?_
  rintro e w2 ⟨v2, rfl, hb2, two, d2, v2e, n2, f2⟩
  have P2 := (unveil P1').later hb2
  have P2' := veil P2
  obtain ⟨s2, bel2, a02, a12, b02, b12⟩ := P2
  have D2 := veil d2
  have N2 := veil n2
  have DQ2 := veil ((unveil DQ).later hb2)
  have CMP1 := veil (show decide (dval b < dval two) = true by rw [v2e, unveil VR]; have := unveil HC; simp; omega)
  have CMP2 := veil (show decide (dval two < dval b) = false by rw [v2e, unveil VR]; have := unveil HC; simp; omega)
  clear hb2 d2 v2e n2 f2
  go_wp2_with fail
  refine (above_any _ _ two b w2 (unveil D2) ((unveil Hb).later (unveil P2').bel) (unveil N2) (unveil NB)).mono ?_
  rintro e w3 ⟨rfl, m3, hw3⟩
  rw [unveil CMP1]
  have P3 : BBox w w3 (.slice oa a.length ca) (.slice ob b.length cb) (.bool na) (.bool nb) := by rw [hw3]; exact (unveil P2').drewN m3
  have P3' := veil P3
  obtain ⟨s3, bel3, a03, a13, b03, b13⟩ := P3
  have D3 := veil (show Dg w3 v2 two by rw [hw3]; exact unveil D2)
  have DQ3 := veil (show Dg w3 (.slice qo qs.length qc) qs by rw [hw3]; exact unveil DQ2)
  clear hw3
  go_wp2_with fail
  refine (above_any _ _ two b w3 (unveil D3) ((unveil Hb).later (unveil P3').bel) (unveil N2) (unveil NB)).mono ?_
  rintro e w4 ⟨rfl, m4, hw4⟩
  rw [unveil CMP1]
  have P4 : BBox w w4 (.slice oa a.length ca) (.slice ob b.length cb) (.bool na) (.bool nb) := by rw [hw4]; exact (unveil P3').drewN m4
  have P4' := veil P4
  obtain ⟨s4, bel4, a04, a14, b04, b14⟩ := P4
  have D4 := veil (show Dg w4 v2 two by rw [hw4]; exact unveil D3)
  have DQ4 := veil (show Dg w4 (.slice qo qs.length qc) qs by rw [hw4]; exact unveil DQ3)
  clear hw4
  go_wp2_with fail
  have bl4 := (unveil P4').bel
  refine (plus_any _ _ qs [1] _ ((unveil DQ4).later ((Below.refl _ _).alloc (Nat.le_refl _) _)) (dg_one w4) 150 ql (by simp) (by omega)).mono ?_
  rintro e w5 ⟨v9, rfl, hb9, q9, d9, v9e, n9, f9⟩
  have bl5 : Below w.heap.size w w5 := (bl4.alloc (by have := s4; omega) _).trans (hb9.mono (by have := s4; simp; omega))
  obtain ⟨_, _, o9, c9, rfl, _⟩ := id d9
  have D9 := veil d9
  have V9 := veil (show dval q9 = dval a / dval b + 1 by rw [v9e, unveil VQ]; rfl)
  have N9 := veil n9
  clear hb9 d9 v9e n9 f9
  go_wp2_with fail
  refine (sign_any _ _ q9 w5 (unveil D9)).mono ?_
  rintro e w6 ⟨rfl, hbs⟩
  have bl6 : Below w.heap.size w w6 := bl5.trans (hbs.mono bl5.size)
  have BS := veil (bigR_round (na != nb) ((unveil D9).later hbs) (unveil N9) (unveil V9))
  clear hbs
  go_wp2_with fail
  refine (out_any _ _ w6 (unveil BS)).mono ?_
  rintro e w7 ⟨rfl, hbo⟩
  have bl7 : Below w.heap.size w w7 := bl6.trans (hbo.mono bl6.size)
  clear hbo
  go_wp2_with fail
  go_ret2
  exact ⟨rfl, bl7⟩

set_option maxHeartbeats 1600000 in
theorem round_even_lt (na : Bool) (nb : Bool) (oa ob : Option Addr) (ca cb : Nat) (a b : List Int) (w : World) (ha : Dg w (.slice oa a.length ca) a) (hb : Dg w (.slice ob b.length cb) b) (nrm : Norm b) (hB : 0 < dval b) (la : a.length ≤ 150) (lb : b.length ≤ 150) (hc : 2 * (dval a % dval b) < dval b)  :
    RoundSays na nb 4 false oa ob ca cb a b w := by
  have Ha := veil ha
  have Hb := veil hb
  have NB := veil nrm
  have HBP := veil hB
  have HC := veil hc
  have PM := BBox.made w na nb (.slice oa a.length ca) (.slice ob b.length cb)
  clear ha hb nrm hB hc
  unfold RoundSays
  go_enter Try.func61, Try.ntmps61
  go_wp2_with fail
  generalize ((w.alloc (.cells #[.bool na, .slice oa a.length ca] 98)).alloc (.cells #[.bool nb, .slice ob b.length cb] 98)) = W at *
  refine (over_div _ _ a b W ((unveil Ha).later PM.bel) ((unveil Hb).later PM.bel) (unveil NB) (unveil HBP) la lb).mono ?_
  rintro e w1 ⟨qo, qc, ro, rc, qs, rs, rfl, hb1, dq, nq, dr, nr, vq, vr⟩
  have P1 := PM.later hb1
  have P1' := veil P1
  obtain ⟨s1, bel1, a01, a11, b01, b11⟩ := P1
  have rl := dval_len rs dr.1 nr 150 (by rw [vr]; exact rem_len (unveil Hb).1 (unveil HBP) lb)
  have ql := dval_len qs dq.1 nq 150 (by rw [vq]; exact quo_len (unveil Ha).1 (unveil HBP) la)
  have DQ := veil dq
  have NQ := veil nq
  have DR := veil dr
  have NR := veil nr
  have VQ := veil vq
  have VR := veil vr
  clear hb1 dq nq dr nr vq vr PM
  go_wp2_with fail
  refine (plus_any _ _ rs rs w1 (unveil DR) (unveil DR) 150 rl rl (by omega)).mono ?_
  rintro e w2 ⟨v2, rfl, hb2, two, d2, v2e, n2, f2⟩
  have P2 := (unveil P1').later hb2
  have P2' := veil P2
  obtain ⟨s2, bel2, a02, a12, b02, b12⟩ := P2
  have D2 := veil d2
  have N2 := veil n2
  have DQ2 := veil ((unveil DQ).later hb2)
  have CMP1 := veil (show decide (dval b < dval two) = false by rw [v2e, unveil VR]; have := unveil HC; simp; omega)
  have CMP2 := veil (show decide (dval two < dval b) = true by rw [v2e, unveil VR]; have := unveil HC; simp; omega)
  clear hb2 d2 v2e n2 f2
  go_wp2_with fail
  refine (above_any _ _ two b w2 (unveil D2) ((unveil Hb).later (unveil P2').bel) (unveil N2) (unveil NB)).mono ?_
  rintro e w3 ⟨rfl, m3, hw3⟩
  rw [unveil CMP1]
  have P3 : BBox w w3 (.slice oa a.length ca) (.slice ob b.length cb) (.bool na) (.bool nb) := by rw [hw3]; exact (unveil P2').drewN m3
  have P3' := veil P3
  obtain ⟨s3, bel3, a03, a13, b03, b13⟩ := P3
  have D3 := veil (show Dg w3 v2 two by rw [hw3]; exact unveil D2)
  have DQ3 := veil (show Dg w3 (.slice qo qs.length qc) qs by rw [hw3]; exact unveil DQ2)
  clear hw3
  go_wp2_with fail
  refine (above_any _ _ b two w3 ((unveil Hb).later (unveil P3').bel) (unveil D3) (unveil NB) (unveil N2)).mono ?_
  rintro e w4 ⟨rfl, m4, hw4⟩
  rw [unveil CMP2]
  have P4 : BBox w w4 (.slice oa a.length ca) (.slice ob b.length cb) (.bool na) (.bool nb) := by rw [hw4]; exact (unveil P3').drewN m4
  have P4' := veil P4
  obtain ⟨s4, bel4, a04, a14, b04, b14⟩ := P4
  have D4 := veil (show Dg w4 v2 two by rw [hw4]; exact unveil D3)
  have DQ4 := veil (show Dg w4 (.slice qo qs.length qc) qs by rw [hw4]; exact unveil DQ3)
  clear hw4
  go_wp2_with fail
  refine (above_any _ _ two b w4 (unveil D4) ((unveil Hb).later (unveil P4').bel) (unveil N2) (unveil NB)).mono ?_
  rintro e w5 ⟨rfl, m5, hw5⟩
  rw [unveil CMP1]
  have P5 : BBox w w5 (.slice oa a.length ca) (.slice ob b.length cb) (.bool na) (.bool nb) := by rw [hw5]; exact (unveil P4').drewN m5
  have P5' := veil P5
  obtain ⟨s5, bel5, a05, a15, b05, b15⟩ := P5
  have D5 := veil (show Dg w5 v2 two by rw [hw5]; exact unveil D4)
  have DQ5 := veil (show Dg w5 (.slice qo qs.length qc) qs by rw [hw5]; exact unveil DQ4)
  clear hw5
  go_wp2_with fail
  have bl5 := (unveil P5').bel
  refine (sign_any _ _ qs w5 (unveil DQ5)).mono ?_
  rintro e w6 ⟨rfl, hbs⟩
  have bl6 : Below w.heap.size w w6 := bl5.trans (hbs.mono bl5.size)
  have BS := veil (bigR_round (na != nb) ((unveil DQ5).later hbs) (unveil NQ) (unveil VQ))
  clear hbs
  go_wp2_with fail
  refine (out_any _ _ w6 (unveil BS)).mono ?_
  rintro e w7 ⟨rfl, hbo⟩
  have bl7 : Below w.heap.size w w7 := bl6.trans (hbo.mono bl6.size)
  clear hbo
  go_wp2_with fail
  go_ret2
  exact ⟨rfl, bl7⟩

set_option maxHeartbeats 1600000 in
theorem round_even_odd (na : Bool) (nb : Bool) (oa ob : Option Addr) (ca cb : Nat) (a b : List Int) (w : World) (ha : Dg w (.slice oa a.length ca) a) (hb : Dg w (.slice ob b.length cb) b) (nrm : Norm b) (hB : 0 < dval b) (la : a.length ≤ 150) (lb : b.length ≤ 150) (hc : 2 * (dval a % dval b) = dval b) (ho : (dval a / dval b % 2 == 1) = true) :
    RoundSays na nb 4 true oa ob ca cb a b w := by
  have Ha := veil ha
  have Hb := veil hb
  have NB := veil nrm
  have HBP := veil hB
  have HC := veil hc
  have PM := BBox.made w na nb (.slice oa a.length ca) (.slice ob b.length cb)
  clear ha hb nrm hB hc
  unfold RoundSays
  go_enter Try.func61, Try.ntmps61
  go_wp2_with fail
  generalize ((w.alloc (.cells #[.bool na, .slice oa a.length ca] 98)).alloc (.cells #[.bool nb, .slice ob b.length cb] 98)) = W at *
  refine (over_div _ _ a b W ((unveil Ha).later PM.bel) ((unveil Hb).later PM.bel) (unveil NB) (unveil HBP) la lb).mono ?_
  rintro e w1 ⟨qo, qc, ro, rc, qs, rs, rfl, hb1, dq, nq, dr, nr, vq, vr⟩
  have P1 := PM.later hb1
  have P1' := veil P1
  obtain ⟨s1, bel1, a01, a11, b01, b11⟩ := P1
  have rl := dval_len rs dr.1 nr 150 (by rw [vr]; exact rem_len (unveil Hb).1 (unveil HBP) lb)
  have ql := dval_len qs dq.1 nq 150 (by rw [vq]; exact quo_len (unveil Ha).1 (unveil HBP) la)
  have DQ := veil dq
  have NQ := veil nq
  have DR := veil dr
  have NR := veil nr
  have VQ := veil vq
  have VR := veil vr
  have ODD := veil (show ((qs.getD 0 0 % 2 == 1) = true) by have := dval_odd qs; rw [vq] at this; rw [← this]; exact ho)
  have DB0 := veil (dq.1 0)
  clear hb1 dq nq dr nr vq vr PM
  go_wp2_with fail
  refine (plus_any _ _ rs rs w1 (unveil DR) (unveil DR) 150 rl rl (by omega)).mono ?_
  rintro e w2 ⟨v2, rfl, hb2, two, d2, v2e, n2, f2⟩
  have P2 := (unveil P1').later hb2
  have P2' := veil P2
  obtain ⟨s2, bel2, a02, a12, b02, b12⟩ := P2
  have D2 := veil d2
  have N2 := veil n2
  have DQ2 := veil ((unveil DQ).later hb2)
  have CMP1 := veil (show decide (dval b < dval two) = false by rw [v2e, unveil VR]; have := unveil HC; simp; omega)
  have CMP2 := veil (show decide (dval two < dval b) = false by rw [v2e, unveil VR]; have := unveil HC; simp; omega)
  clear hb2 d2 v2e n2 f2
  go_wp2_with fail
  refine (above_any _ _ two b w2 (unveil D2) ((unveil Hb).later (unveil P2').bel) (unveil N2) (unveil NB)).mono ?_
  rintro e w3 ⟨rfl, m3, hw3⟩
  rw [unveil CMP1]
  have P3 : BBox w w3 (.slice oa a.length ca) (.slice ob b.length cb) (.bool na) (.bool nb) := by rw [hw3]; exact (unveil P2').drewN m3
  have P3' := veil P3
  obtain ⟨s3, bel3, a03, a13, b03, b13⟩ := P3
  have D3 := veil (show Dg w3 v2 two by rw [hw3]; exact unveil D2)
  have DQ3 := veil (show Dg w3 (.slice qo qs.length qc) qs by rw [hw3]; exact unveil DQ2)
  clear hw3
  go_wp2_with fail
  refine (above_any _ _ b two w3 ((unveil Hb).later (unveil P3').bel) (unveil D3) (unveil NB) (unveil N2)).mono ?_
  rintro e w4 ⟨rfl, m4, hw4⟩
  rw [unveil CMP2]
  have P4 : BBox w w4 (.slice oa a.length ca) (.slice ob b.length cb) (.bool na) (.bool nb) := by rw [hw4]; exact (unveil P3').drewN m4
  have P4' := veil P4
  obtain ⟨s4, bel4, a04, a14, b04, b14⟩ := P4
  have D4 := veil (show Dg w4 v2 two by rw [hw4]; exact unveil D3)
  have DQ4 := veil (show Dg w4 (.slice qo qs.length qc) qs by rw [hw4]; exact unveil DQ3)
  clear hw4
  go_wp2_with fail
  refine (at_keep _ qs 0 w4 (by omega) (unveil DQ4)).mono ?_
  rintro e w' ⟨rfl, rfl⟩
  generalize hd0 : qs.getD 0 0 = d0 at *
  have od := unveil ODD
  have bd := unveil DB0
  obtain ⟨bd1, bd2⟩ := bd
  have HD0 := veil hd0
  clear hd0
  go_wp2_with fail
  have bl4 := (unveil P4').bel
  refine (plus_any _ _ qs [1] _ ((unveil DQ4).later ((Below.refl _ _).alloc (Nat.le_refl _) _)) (dg_one w4) 150 ql (by simp) (by omega)).mono ?_
  rintro e w5 ⟨v9, rfl, hb9, q9, d9, v9e, n9, f9⟩
  have bl5 : Below w.heap.size w w5 := (bl4.alloc (by have := s4; omega) _).trans (hb9.mono (by have := s4; simp; omega))
  obtain ⟨_, _, o9, c9, rfl, _⟩ := id d9
  have D9 := veil d9
  have V9 := veil (show dval q9 = dval a / dval b + 1 by rw [v9e, unveil VQ]; rfl)
  have N9 := veil n9
  clear hb9 d9 v9e n9 f9
  go_wp2_with fail
  refine (sign_any _ _ q9 w5 (unveil D9)).mono ?_
  rintro e w6 ⟨rfl, hbs⟩
  have bl6 : Below w.heap.size w w6 := bl5.trans (hbs.mono bl5.size)
  have BS := veil (bigR_round (na != nb) ((unveil D9).later hbs) (unveil N9) (unveil V9))
  clear hbs
  go_wp2_with fail
  refine (out_any _ _ w6 (unveil BS)).mono ?_
  rintro e w7 ⟨rfl, hbo⟩
  have bl7 : Below w.heap.size w w7 := bl6.trans (hbo.mono bl6.size)
  clear hbo
  go_wp2_with fail
  go_ret2
  exact ⟨rfl, bl7⟩

set_option maxHeartbeats 1600000 in
theorem round_even_even (na : Bool) (nb : Bool) (oa ob : Option Addr) (ca cb : Nat) (a b : List Int) (w : World) (ha : Dg w (.slice oa a.length ca) a) (hb : Dg w (.slice ob b.length cb) b) (nrm : Norm b) (hB : 0 < dval b) (la : a.length ≤ 150) (lb : b.length ≤ 150) (hc : 2 * (dval a % dval b) = dval b) (ho : (dval a / dval b % 2 == 1) = false) :
    RoundSays na nb 4 false oa ob ca cb a b w := by
  have Ha := veil ha
  have Hb := veil hb
  have NB := veil nrm
  have HBP := veil hB
  have HC := veil hc
  have PM := BBox.made w na nb (.slice oa a.length ca) (.slice ob b.length cb)
  clear ha hb nrm hB hc
  unfold RoundSays
  go_enter Try.func61, Try.ntmps61
  go_wp2_with fail
  generalize ((w.alloc (.cells #[.bool na, .slice oa a.length ca] 98)).alloc (.cells #[.bool nb, .slice ob b.length cb] 98)) = W at *
  refine (over_div _ _ a b W ((unveil Ha).later PM.bel) ((unveil Hb).later PM.bel) (unveil NB) (unveil HBP) la lb).mono ?_
  rintro e w1 ⟨qo, qc, ro, rc, qs, rs, rfl, hb1, dq, nq, dr, nr, vq, vr⟩
  have P1 := PM.later hb1
  have P1' := veil P1
  obtain ⟨s1, bel1, a01, a11, b01, b11⟩ := P1
  have rl := dval_len rs dr.1 nr 150 (by rw [vr]; exact rem_len (unveil Hb).1 (unveil HBP) lb)
  have ql := dval_len qs dq.1 nq 150 (by rw [vq]; exact quo_len (unveil Ha).1 (unveil HBP) la)
  have DQ := veil dq
  have NQ := veil nq
  have DR := veil dr
  have NR := veil nr
  have VQ := veil vq
  have VR := veil vr
  have ODD := veil (show ((qs.getD 0 0 % 2 == 1) = false) by have := dval_odd qs; rw [vq] at this; rw [← this]; exact ho)
  have DB0 := veil (dq.1 0)
  clear hb1 dq nq dr nr vq vr PM
  go_wp2_with fail
  refine (plus_any _ _ rs rs w1 (unveil DR) (unveil DR) 150 rl rl (by omega)).mono ?_
  rintro e w2 ⟨v2, rfl, hb2, two, d2, v2e, n2, f2⟩
  have P2 := (unveil P1').later hb2
  have P2' := veil P2
  obtain ⟨s2, bel2, a02, a12, b02, b12⟩ := P2
  have D2 := veil d2
  have N2 := veil n2
  have DQ2 := veil ((unveil DQ).later hb2)
  have CMP1 := veil (show decide (dval b < dval two) = false by rw [v2e, unveil VR]; have := unveil HC; simp; omega)
  have CMP2 := veil (show decide (dval two < dval b) = false by rw [v2e, unveil VR]; have := unveil HC; simp; omega)
  clear hb2 d2 v2e n2 f2
  go_wp2_with fail
  refine (above_any _ _ two b w2 (unveil D2) ((unveil Hb).later (unveil P2').bel) (unveil N2) (unveil NB)).mono ?_
  rintro e w3 ⟨rfl, m3, hw3⟩
  rw [unveil CMP1]
  have P3 : BBox w w3 (.slice oa a.length ca) (.slice ob b.length cb) (.bool na) (.bool nb) := by rw [hw3]; exact (unveil P2').drewN m3
  have P3' := veil P3
  obtain ⟨s3, bel3, a03, a13, b03, b13⟩ := P3
  have D3 := veil (show Dg w3 v2 two by rw [hw3]; exact unveil D2)
  have DQ3 := veil (show Dg w3 (.slice qo qs.length qc) qs by rw [hw3]; exact unveil DQ2)
  clear hw3
  go_wp2_with fail
  refine (above_any _ _ b two w3 ((unveil Hb).later (unveil P3').bel) (unveil D3) (unveil NB) (unveil N2)).mono ?_
  rintro e w4 ⟨rfl, m4, hw4⟩
  rw [unveil CMP2]
  have P4 : BBox w w4 (.slice oa a.length ca) (.slice ob b.length cb) (.bool na) (.bool nb) := by rw [hw4]; exact (unveil P3').drewN m4
  have P4' := veil P4
  obtain ⟨s4, bel4, a04, a14, b04, b14⟩ := P4
  have D4 := veil (show Dg w4 v2 two by rw [hw4]; exact unveil D3)
  have DQ4 := veil (show Dg w4 (.slice qo qs.length qc) qs by rw [hw4]; exact unveil DQ3)
  clear hw4
  go_wp2_with fail
  refine (at_keep _ qs 0 w4 (by omega) (unveil DQ4)).mono ?_
  rintro e w' ⟨rfl, rfl⟩
  generalize hd0 : qs.getD 0 0 = d0 at *
  have od := unveil ODD
  have bd := unveil DB0
  obtain ⟨bd1, bd2⟩ := bd
  have HD0 := veil hd0
  clear hd0
  go_wp2_with fail
  refine (above_any _ _ two b w4 (unveil D4) ((unveil Hb).later (unveil P4').bel) (unveil N2) (unveil NB)).mono ?_
  rintro e w5 ⟨rfl, m5, hw5⟩
  rw [unveil CMP1]
  have P5 : BBox w w5 (.slice oa a.length ca) (.slice ob b.length cb) (.bool na) (.bool nb) := by rw [hw5]; exact (unveil P4').drewN m5
  have P5' := veil P5
  obtain ⟨s5, bel5, a05, a15, b05, b15⟩ := P5
  have D5 := veil (show Dg w5 v2 two by rw [hw5]; exact unveil D4)
  have DQ5 := veil (show Dg w5 (.slice qo qs.length qc) qs by rw [hw5]; exact unveil DQ4)
  clear hw5
  go_wp2_with fail
  have bl5 := (unveil P5').bel
  refine (sign_any _ _ qs w5 (unveil DQ5)).mono ?_
  rintro e w6 ⟨rfl, hbs⟩
  have bl6 : Below w.heap.size w w6 := bl5.trans (hbs.mono bl5.size)
  have BS := veil (bigR_round (na != nb) ((unveil DQ5).later hbs) (unveil NQ) (unveil VQ))
  clear hbs
  go_wp2_with fail
  refine (out_any _ _ w6 (unveil BS)).mono ?_
  rintro e w7 ⟨rfl, hbo⟩
  have bl7 : Below w.heap.size w w7 := bl6.trans (hbo.mono bl6.size)
  clear hbo
  go_wp2_with fail
  go_ret2
  exact ⟨rfl, bl7⟩

end Go.Proofs.Ytjlnbhmiahegmaa
