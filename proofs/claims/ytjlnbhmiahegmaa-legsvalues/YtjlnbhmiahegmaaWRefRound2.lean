/-
  WALKS: the document's answer (payoffref01): Round: Floor, Ceil.
-/
import Derived.Test.YtjlnbhmiahegmaaWRefRound1
namespace Go.Proofs.Ytjlnbhmiahegmaa
open Go.RowKit
set_option maxRecDepth 100000
set_option linter.unusedVariables false

set_option maxHeartbeats 1600000 in
theorem round_floor_no_gt (na : Bool) (oa ob : Option Addr) (ca cb : Nat) (a b : List Int) (w : World) (ha : Dg w (.slice oa a.length ca) a) (hb : Dg w (.slice ob b.length cb) b) (nrm : Norm b) (hB : 0 < dval b) (la : a.length ≤ 150) (lb : b.length ≤ 150) (hc : dval b < 2 * (dval a % dval b))  :
    RoundSays na na 1 false oa ob ca cb a b w := by
  have Ha := veil ha
  have Hb := veil hb
  have NB := veil nrm
  have HBP := veil hB
  have HC := veil hc
  have PM := BBox.made w na na (.slice oa a.length ca) (.slice ob b.length cb)
  clear ha hb nrm hB hc
  unfold RoundSays
  rw [show (na != na) = false by cases na <;> rfl]
  go_enter Try.func61, Try.ntmps61
  go_wp2_with fail
  generalize ((w.alloc (.cells #[.bool na, .slice oa a.length ca] 98)).alloc (.cells #[.bool na, .slice ob b.length cb] 98)) = W at *
  refine (over_div _ _ a b W ((unveil Ha).later PM.bel) ((unveil Hb).later PM.bel) (unveil NB) (unveil HBP) la lb).mono ?_
  rintro e w1 ⟨qo, qc, ro, rc, qs, rs, rfl, hb1, dq, nq, dr, nr, vq, vr⟩
  have P1 := PM.later hb1
  have P1' := veil P1
  obtain ⟨s1, bel1, a01, a11, b01, b11⟩ := P1
  have rl := dval_len rs dr.1 nr 150 (by rw [vr]; exact rem_len (unveil Hb).1 (unveil HBP) lb)
  have ql := dval_len qs dq.1 nq 150 (by rw [vq]; exact quo_len (unveil Ha).1 (unveil HBP) la)
  have DQ := veil dq
  have NQ := veil nq
  have DR := veil dr
  have NR := veil nr
  have VQ := veil vq
  have VR := veil vr
  clear hb1 dq nq dr nr vq vr PM
  go_wp2_with fail
  refine (plus_any _ _ rs rs w1 (unveil DR) (unveil DR) 150 rl rl (by omega)).mono ?_
  rintro e w2 ⟨v2, rfl, hb2, two, d2, v2e, n2, f2⟩
  have P2 := (unveil P1').later hb2
  have P2' := veil P2
  obtain ⟨s2, bel2, a02, a12, b02, b12⟩ := P2
  have D2 := veil d2
  have N2 := veil n2
  have DQ2 := veil ((unveil DQ).later hb2)
  have CMP1 := veil (show decide (dval b < dval two) = true by rw [v2e, unveil VR]; have := unveil HC; simp; omega)
  have CMP2 := veil (show decide (dval two < dval b) = false by rw [v2e, unveil VR]; have := unveil HC; simp; omega)
  clear hb2 d2 v2e n2 f2
  go_wp2_with fail
  refine (above_any _ _ two b w2 (unveil D2) ((unveil Hb).later (unveil P2').bel) (unveil N2) (unveil NB)).mono ?_
  rintro e w3 ⟨rfl, m3, hw3⟩
  rw [unveil CMP1]
  have P3 : BBox w w3 (.slice oa a.length ca) (.slice ob b.length cb) (.bool na) (.bool na) := by rw [hw3]; exact (unveil P2').drewN m3
  have P3' := veil P3
  obtain ⟨s3, bel3, a03, a13, b03, b13⟩ := P3
  have D3 := veil (show Dg w3 v2 two by rw [hw3]; exact unveil D2)
  have DQ3 := veil (show Dg w3 (.slice qo qs.length qc) qs by rw [hw3]; exact unveil DQ2)
  clear hw3
  go_wp2_with fail
  have bl3 := (unveil P3').bel
  refine (sign_any _ _ qs w3 (unveil DQ3)).mono ?_
  rintro e w4 ⟨rfl, hbs⟩
  have bl4 : Below w.heap.size w w4 := bl3.trans (hbs.mono bl3.size)
  have BS := veil (show BigR w4 (.agg #[.bool false, _]) _ from bigR_round false ((unveil DQ3).later hbs) (unveil NQ) (unveil VQ))
  clear hbs
  go_wp2_with fail
  refine (out_any _ _ w4 (unveil BS)).mono ?_
  rintro e w5 ⟨rfl, hbo⟩
  have bl5 : Below w.heap.size w w5 := bl4.trans (hbo.mono bl4.size)
  clear hbo
  go_wp2_with fail
  go_ret2
  exact ⟨rfl, bl5⟩

set_option maxHeartbeats 1600000 in
theorem round_floor_yes_gt (na : Bool) (oa ob : Option Addr) (ca cb : Nat) (a b : List Int) (w : World) (ha : Dg w (.slice oa a.length ca) a) (hb : Dg w (.slice ob b.length cb) b) (nrm : Norm b) (hB : 0 < dval b) (la : a.length ≤ 150) (lb : b.length ≤ 150) (hc : dval b < 2 * (dval a % dval b)) (hr : 0 < dval a % dval b) :
    RoundSays na (!na) 1 true oa ob ca cb a b w := by
  have Ha := veil ha
  have Hb := veil hb
  have NB := veil nrm
  have HBP := veil hB
  have HC := veil hc
  have PM := BBox.made w na (!na) (.slice oa a.length ca) (.slice ob b.length cb)
  clear ha hb nrm hB hc
  unfold RoundSays
  rw [show (na != (!na)) = true by cases na <;> rfl]
  go_enter Try.func61, Try.ntmps61
  go_wp2_with fail
  generalize ((w.alloc (.cells #[.bool na, .slice oa a.length ca] 98)).alloc (.cells #[.bool (!na), .slice ob b.length cb] 98)) = W at *
  refine (over_div _ _ a b W ((unveil Ha).later PM.bel) ((unveil Hb).later PM.bel) (unveil NB) (unveil HBP) la lb).mono ?_
  rintro e w1 ⟨qo, qc, ro, rc, qs, rs, rfl, hb1, dq, nq, dr, nr, vq, vr⟩
  have P1 := PM.later hb1
  have P1' := veil P1
  obtain ⟨s1, bel1, a01, a11, b01, b11⟩ := P1
  have rl := dval_len rs dr.1 nr 150 (by rw [vr]; exact rem_len (unveil Hb).1 (unveil HBP) lb)
  have ql := dval_len qs dq.1 nq 150 (by rw [vq]; exact quo_len (unveil Ha).1 (unveil HBP) la)
  have DQ := veil dq
  have NQ := veil nq
  have DR := veil dr
  have NR := veil nr
  have VQ := veil vq
  have VR := veil vr
  have rp : 0 < rs.length := dval_pos_len dr.1 nr (by rw [vr]; exact hr)
  have rp' : (0 : Int) < (rs.length : Int) := by omega
  clear hb1 dq nq dr nr vq vr PM
  go_wp2_with fail
  refine (plus_any _ _ rs rs w1 (unveil DR) (unveil DR) 150 rl rl (by omega)).mono ?_
  rintro e w2 ⟨v2, rfl, hb2, two, d2, v2e, n2, f2⟩
  have P2 := (unveil P1').later hb2
  have P2' := veil P2
  obtain ⟨s2, bel2, a02, a12, b02, b12⟩ := P2
  have D2 := veil d2
  have N2 := veil n2
  have DQ2 := veil ((unveil DQ).later hb2)
  have CMP1 := veil (show decide (dval b < dval two) = true by rw [v2e, unveil VR]; have := unveil HC; simp; omega)
  have CMP2 := veil (show decide (dval two < dval b) = false by rw [v2e, unveil VR]; have := unveil HC; simp; omega)
  clear hb2 d2 v2e n2 f2
  go_wp2_with fail
  refine (above_any _ _ two b w2 (unveil D2) ((unveil Hb).later (unveil P2').bel) (unveil N2) (unveil NB)).mono ?_
  rintro e w3 ⟨rfl, m3, hw3⟩
  rw [unveil CMP1]
  have P3 : BBox w w3 (.slice oa a.length ca) (.slice ob b.length cb) (.bool na) (.bool (!na)) := by rw [hw3]; exact (unveil P2').drewN m3
  have P3' := veil P3
  obtain ⟨s3, bel3, a03, a13, b03, b13⟩ := P3
  have D3 := veil (show Dg w3 v2 two by rw [hw3]; exact unveil D2)
  have DQ3 := veil (show Dg w3 (.slice qo qs.length qc) qs by rw [hw3]; exact unveil DQ2)
  clear hw3
  go_wp2_with fail
  have bl3 := (unveil P3').bel
  refine (plus_any _ _ qs [1] _ ((unveil DQ3).later ((Below.refl _ _).alloc (Nat.le_refl _) _)) (dg_one w3) 150 ql (by simp) (by omega)).mono ?_
  rintro e w4 ⟨v9, rfl, hb9, q9, d9, v9e, n9, f9⟩
  have bl4 : Below w.heap.size w w4 := (bl3.alloc (by have := s3; omega) _).trans (hb9.mono (by have := s3; simp; omega))
  obtain ⟨_, _, o9, c9, rfl, _⟩ := id d9
  have D9 := veil d9
  have V9 := veil (show dval q9 = dval a / dval b + 1 by rw [v9e, unveil VQ]; rfl)
  have N9 := veil n9
  clear hb9 d9 v9e n9 f9
  go_wp2_with fail
  refine (sign_any _ _ q9 w4 (unveil D9)).mono ?_
  rintro e w5 ⟨rfl, hbs⟩
  have bl5 : Below w.heap.size w w5 := bl4.trans (hbs.mono bl4.size)
  have BS := veil (show BigR w5 (.agg #[.bool (decide (0 < q9.length)), _]) _ from bigR_round true ((unveil D9).later hbs) (unveil N9) (unveil V9))
  clear hbs
  go_wp2_with fail
  refine (out_any _ _ w5 (unveil BS)).mono ?_
  rintro e w6 ⟨rfl, hbo⟩
  have bl6 : Below w.heap.size w w6 := bl5.trans (hbo.mono bl5.size)
  clear hbo
  go_wp2_with fail
  go_ret2
  exact ⟨rfl, bl6⟩

set_option maxHeartbeats 1600000 in
theorem round_floor_no_eq (na : Bool) (oa ob : Option Addr) (ca cb : Nat) (a b : List Int) (w : World) (ha : Dg w (.slice oa a.length ca) a) (hb : Dg w (.slice ob b.length cb) b) (nrm : Norm b) (hB : 0 < dval b) (la : a.length ≤ 150) (lb : b.length ≤ 150) (hc : 2 * (dval a % dval b) = dval b)  :
    RoundSays na na 1 false oa ob ca cb a b w := by
  have Ha := veil ha
  have Hb := veil hb
  have NB := veil nrm
  have HBP := veil hB
  have HC := veil hc
  have PM := BBox.made w na na (.slice oa a.length ca) (.slice ob b.length cb)
  clear ha hb nrm hB hc
  unfold RoundSays
  rw [show (na != na) = false by cases na <;> rfl]
  go_enter Try.func61, Try.ntmps61
  go_wp2_with fail
  generalize ((w.alloc (.cells #[.bool na, .slice oa a.length ca] 98)).alloc (.cells #[.bool na, .slice ob b.length cb] 98)) = W at *
  refine (over_div _ _ a b W ((unveil Ha).later PM.bel) ((unveil Hb).later PM.bel) (unveil NB) (unveil HBP) la lb).mono ?_
  rintro e w1 ⟨qo, qc, ro, rc, qs, rs, rfl, hb1, dq, nq, dr, nr, vq, vr⟩
  have P1 := PM.later hb1
  have P1' := veil P1
  obtain ⟨s1, bel1, a01, a11, b01, b11⟩ := P1
  have rl := dval_len rs dr.1 nr 150 (by rw [vr]; exact rem_len (unveil Hb).1 (unveil HBP) lb)
  have ql := dval_len qs dq.1 nq 150 (by rw [vq]; exact quo_len (unveil Ha).1 (unveil HBP) la)
  have DQ := veil dq
  have NQ := veil nq
  have DR := veil dr
  have NR := veil nr
  have VQ := veil vq
  have VR := veil vr
  clear hb1 dq nq dr nr vq vr PM
  go_wp2_with fail
  refine (plus_any _ _ rs rs w1 (unveil DR) (unveil DR) 150 rl rl (by omega)).mono ?_
  rintro e w2 ⟨v2, rfl, hb2, two, d2, v2e, n2, f2⟩
  have P2 := (unveil P1').later hb2
  have P2' := veil P2
  obtain ⟨s2, bel2, a02, a12, b02, b12⟩ := P2
  have D2 := veil d2
  have N2 := veil n2
  have DQ2 := veil ((unveil DQ).later hb2)
  have CMP1 := veil (show decide (dval b < dval two) = false by rw [v2e, unveil VR]; have := unveil HC; simp; omega)
  have CMP2 := veil (show decide (dval two < dval b) = false by rw [v2e, unveil VR]; have := unveil HC; simp; omega)
  clear hb2 d2 v2e n2 f2
  go_wp2_with fail
  refine (above_any _ _ two b w2 (unveil D2) ((unveil Hb).later (unveil P2').bel) (unveil N2) (unveil NB)).mono ?_
  rintro e w3 ⟨rfl, m3, hw3⟩
  rw [unveil CMP1]
  have P3 : BBox w w3 (.slice oa a.length ca) (.slice ob b.length cb) (.bool na) (.bool na) := by rw [hw3]; exact (unveil P2').drewN m3
  have P3' := veil P3
  obtain ⟨s3, bel3, a03, a13, b03, b13⟩ := P3
  have D3 := veil (show Dg w3 v2 two by rw [hw3]; exact unveil D2)
  have DQ3 := veil (show Dg w3 (.slice qo qs.length qc) qs by rw [hw3]; exact unveil DQ2)
  clear hw3
  go_wp2_with fail
  refine (above_any _ _ b two w3 ((unveil Hb).later (unveil P3').bel) (unveil D3) (unveil NB) (unveil N2)).mono ?_
  rintro e w4 ⟨rfl, m4, hw4⟩
  rw [unveil CMP2]
  have P4 : BBox w w4 (.slice oa a.length ca) (.slice ob b.length cb) (.bool na) (.bool na) := by rw [hw4]; exact (unveil P3').drewN m4
  have P4' := veil P4
  obtain ⟨s4, bel4, a04, a14, b04, b14⟩ := P4
  have D4 := veil (show Dg w4 v2 two by rw [hw4]; exact unveil D3)
  have DQ4 := veil (show Dg w4 (.slice qo qs.length qc) qs by rw [hw4]; exact unveil DQ3)
  clear hw4
  go_wp2_with fail
  have bl4 := (unveil P4').bel
  refine (sign_any _ _ qs w4 (unveil DQ4)).mono ?_
  rintro e w5 ⟨rfl, hbs⟩
  have bl5 : Below w.heap.size w w5 := bl4.trans (hbs.mono bl4.size)
  have BS := veil (show BigR w5 (.agg #[.bool false, _]) _ from bigR_round false ((unveil DQ4).later hbs) (unveil NQ) (unveil VQ))
  clear hbs
  go_wp2_with fail
  refine (out_any _ _ w5 (unveil BS)).mono ?_
  rintro e w6 ⟨rfl, hbo⟩
  have bl6 : Below w.heap.size w w6 := bl5.trans (hbo.mono bl5.size)
  clear hbo
  go_wp2_with fail
  go_ret2
  exact ⟨rfl, bl6⟩

set_option maxHeartbeats 1600000 in
theorem round_floor_yes_eq (na : Bool) (oa ob : Option Addr) (ca cb : Nat) (a b : List Int) (w : World) (ha : Dg w (.slice oa a.length ca) a) (hb : Dg w (.slice ob b.length cb) b) (nrm : Norm b) (hB : 0 < dval b) (la : a.length ≤ 150) (lb : b.length ≤ 150) (hc : 2 * (dval a % dval b) = dval b) (hr : 0 < dval a % dval b) :
    RoundSays na (!na) 1 true oa ob ca cb a b w := by
  have Ha := veil ha
  have Hb := veil hb
  have NB := veil nrm
  have HBP := veil hB
  have HC := veil hc
  have PM := BBox.made w na (!na) (.slice oa a.length ca) (.slice ob b.length cb)
  clear ha hb nrm hB hc
  unfold RoundSays
  rw [show (na != (!na)) = true by cases na <;> rfl]
  go_enter Try.func61, Try.ntmps61
  go_wp2_with fail
  generalize ((w.alloc (.cells #[.bool na, .slice oa a.length ca] 98)).alloc (.cells #[.bool (!na), .slice ob b.length cb] 98)) = W at *
  refine (over_div _ _ a b W ((unveil Ha).later PM.bel) ((unveil Hb).later PM.bel) (unveil NB) (unveil HBP) la lb).mono ?_
  rintro e w1 ⟨qo, qc, ro, rc, qs, rs, rfl, hb1, dq, nq, dr, nr, vq, vr⟩
  have P1 := PM.later hb1
  have P1' := veil P1
  obtain ⟨s1, bel1, a01, a11, b01, b11⟩ := P1
  have rl := dval_len rs dr.1 nr 150 (by rw [vr]; exact rem_len (unveil Hb).1 (unveil HBP) lb)
  have ql := dval_len qs dq.1 nq 150 (by rw [vq]; exact quo_len (unveil Ha).1 (unveil HBP) la)
  have DQ := veil dq
  have NQ := veil nq
  have DR := veil dr
  have NR := veil nr
  have VQ := veil vq
  have VR := veil vr
  have rp : 0 < rs.length := dval_pos_len dr.1 nr (by rw [vr]; exact hr)
  have rp' : (0 : Int) < (rs.length : Int) := by omega
  clear hb1 dq nq dr nr vq vr PM
  go_wp2_with fail
  refine (plus_any _ _ rs rs w1 (unveil DR) (unveil DR) 150 rl rl (by omega)).mono ?_
  rintro e w2 ⟨v2, rfl, hb2, two, d2, v2e, n2, f2⟩
  have P2 := (unveil P1').later hb2
  have P2' := veil P2
  obtain ⟨s2, bel2, a02, a12, b02, b12⟩ := P2
  have D2 := veil d2
  have N2 := veil n2
  have DQ2 := veil ((unveil DQ).later hb2)
  have CMP1 := veil (show decide (dval b < dval two) = false by rw [v2e, unveil VR]; have := unveil HC; simp; omega)
  have CMP2 := veil (show decide (dval two < dval b) = false by rw [v2e, unveil VR]; have := unveil HC; simp; omega)
  clear hb2 d2 v2e n2 f2
  go_wp2_with fail
  refine (above_any _ _ two b w2 (unveil D2) ((unveil Hb).later (unveil P2').bel) (unveil N2) (unveil NB)).mono ?_
  rintro e w3 ⟨rfl, m3, hw3⟩
  rw [unveil CMP1]
  have P3 : BBox w w3 (.slice oa a.length ca) (.slice ob b.length cb) (.bool na) (.bool (!na)) := by rw [hw3]; exact (unveil P2').drewN m3
  have P3' := veil P3
  obtain ⟨s3, bel3, a03, a13, b03, b13⟩ := P3
  have D3 := veil (show Dg w3 v2 two by rw [hw3]; exact unveil D2)
  have DQ3 := veil (show Dg w3 (.slice qo qs.length qc) qs by rw [hw3]; exact unveil DQ2)
  clear hw3
  go_wp2_with fail
  refine (above_any _ _ b two w3 ((unveil Hb).later (unveil P3').bel) (unveil D3) (unveil NB) (unveil N2)).mono ?_
  rintro e w4 ⟨rfl, m4, hw4⟩
  rw [unveil CMP2]
  have P4 : BBox w w4 (.slice oa a.length ca) (.slice ob b.length cb) (.bool na) (.bool (!na)) := by rw [hw4]; exact (unveil P3').drewN m4
  have P4' := veil P4
  obtain ⟨s4, bel4, a04, a14, b04, b14⟩ := P4
  have D4 := veil (show Dg w4 v2 two by rw [hw4]; exact unveil D3)
  have DQ4 := veil (show Dg w4 (.slice qo qs.length qc) qs by rw [hw4]; exact unveil DQ3)
  clear hw4
  go_wp2_with fail
  have bl4 := (unveil P4').bel
  refine (plus_any _ _ qs [1] _ ((unveil DQ4).later ((Below.refl _ _).alloc (Nat.le_refl _) _)) (dg_one w4) 150 ql (by simp) (by omega)).mono ?_
  rintro e w5 ⟨v9, rfl, hb9, q9, d9, v9e, n9, f9⟩
  have bl5 : Below w.heap.size w w5 := (bl4.alloc (by have := s4; omega) _).trans (hb9.mono (by have := s4; simp; omega))
  obtain ⟨_, _, o9, c9, rfl, _⟩ := id d9
  have D9 := veil d9
  have V9 := veil (show dval q9 = dval a / dval b + 1 by rw [v9e, unveil VQ]; rfl)
  have N9 := veil n9
  clear hb9 d9 v9e n9 f9
  go_wp2_with fail
  refine (sign_any _ _ q9 w5 (unveil D9)).mono ?_
  rintro e w6 ⟨rfl, hbs⟩
  have bl6 : Below w.heap.size w w6 := bl5.trans (hbs.mono bl5.size)
  have BS := veil (show BigR w6 (.agg #[.bool (decide (0 < q9.length)), _]) _ from bigR_round true ((unveil D9).later hbs) (unveil N9) (unveil V9))
  clear hbs
  go_wp2_with fail
  refine (out_any _ _ w6 (unveil BS)).mono ?_
  rintro e w7 ⟨rfl, hbo⟩
  have bl7 : Below w.heap.size w w7 := bl6.trans (hbo.mono bl6.size)
  clear hbo
  go_wp2_with fail
  go_ret2
  exact ⟨rfl, bl7⟩

set_option maxHeartbeats 1600000 in
theorem round_floor_no_lt (na : Bool) (oa ob : Option Addr) (ca cb : Nat) (a b : List Int) (w : World) (ha : Dg w (.slice oa a.length ca) a) (hb : Dg w (.slice ob b.length cb) b) (nrm : Norm b) (hB : 0 < dval b) (la : a.length ≤ 150) (lb : b.length ≤ 150) (hc : 2 * (dval a % dval b) < dval b)  :
    RoundSays na na 1 false oa ob ca cb a b w := by
  have Ha := veil ha
  have Hb := veil hb
  have NB := veil nrm
  have HBP := veil hB
  have HC := veil hc
  have PM := BBox.made w na na (.slice oa a.length ca) (.slice ob b.length cb)
  clear ha hb nrm hB hc
  unfold RoundSays
  rw [show (na != na) = false by cases na <;> rfl]
  go_enter Try.func61, Try.ntmps61
  go_wp2_with fail
  generalize ((w.alloc (.cells #[.bool na, .slice oa a.length ca] 98)).alloc (.cells #[.bool na, .slice ob b.length cb] 98)) = W at *
  refine (over_div _ _ a b W ((unveil Ha).later PM.bel) ((unveil Hb).later PM.bel) (unveil NB) (unveil HBP) la lb).mono ?_
  rintro e w1 ⟨qo, qc, ro, rc, qs, rs, rfl, hb1, dq, nq, dr, nr, vq, vr⟩
  have P1 := PM.later hb1
  have P1' := veil P1
  obtain ⟨s1, bel1, a01, a11, b01, b11⟩ := P1
  have rl := dval_len rs dr.1 nr 150 (by rw [vr]; exact rem_len (unveil Hb).1 (unveil HBP) lb)
  have ql := dval_len qs dq.1 nq 150 (by rw [vq]; exact quo_len (unveil Ha).1 (unveil HBP) la)
  have DQ := veil dq
  have NQ := veil nq
  have DR := veil dr
  have NR := veil nr
  have VQ := veil vq
  have VR := veil vr
  clear hb1 dq nq dr nr vq vr PM
  go_wp2_with fail
  refine (plus_any _ _ rs rs w1 (unveil DR) (unveil DR) 150 rl rl (by omega)).mono ?_
  rintro e w2 ⟨v2, rfl, hb2, two, d2, v2e, n2, f2⟩
  have P2 := (unveil P1').later hb2
  have P2' := veil P2
  obtain ⟨s2, bel2, a02, a12, b02, b12⟩ := P2
  have D2 := veil d2
  have N2 := veil n2
  have DQ2 := veil ((unveil DQ).later hb2)
  have CMP1 := veil (show decide (dval b < dval two) = false by rw [v2e, unveil VR]; have := unveil HC; simp; omega)
  have CMP2 := veil (show decide (dval two < dval b) = true by rw [v2e, unveil VR]; have := unveil HC; simp; omega)
  clear hb2 d2 v2e n2 f2
  go_wp2_with fail
  refine (above_any _ _ two b w2 (unveil D2) ((unveil Hb).later (unveil P2').bel) (unveil N2) (unveil NB)).mono ?_
  rintro e w3 ⟨rfl, m3, hw3⟩
  rw [unveil CMP1]
  have P3 : BBox w w3 (.slice oa a.length ca) (.slice ob b.length cb) (.bool na) (.bool na) := by rw [hw3]; exact (unveil P2').drewN m3
  have P3' := veil P3
  obtain ⟨s3, bel3, a03, a13, b03, b13⟩ := P3
  have D3 := veil (show Dg w3 v2 two by rw [hw3]; exact unveil D2)
  have DQ3 := veil (show Dg w3 (.slice qo qs.length qc) qs by rw [hw3]; exact unveil DQ2)
  clear hw3
  go_wp2_with fail
  refine (above_any _ _ b two w3 ((unveil Hb).later (unveil P3').bel) (unveil D3) (unveil NB) (unveil N2)).mono ?_
  rintro e w4 ⟨rfl, m4, hw4⟩
  rw [unveil CMP2]
  have P4 : BBox w w4 (.slice oa a.length ca) (.slice ob b.length cb) (.bool na) (.bool na) := by rw [hw4]; exact (unveil P3').drewN m4
  have P4' := veil P4
  obtain ⟨s4, bel4, a04, a14, b04, b14⟩ := P4
  have D4 := veil (show Dg w4 v2 two by rw [hw4]; exact unveil D3)
  have DQ4 := veil (show Dg w4 (.slice qo qs.length qc) qs by rw [hw4]; exact unveil DQ3)
  clear hw4
  go_wp2_with fail
  have bl4 := (unveil P4').bel
  refine (sign_any _ _ qs w4 (unveil DQ4)).mono ?_
  rintro e w5 ⟨rfl, hbs⟩
  have bl5 : Below w.heap.size w w5 := bl4.trans (hbs.mono bl4.size)
  have BS := veil (show BigR w5 (.agg #[.bool false, _]) _ from bigR_round false ((unveil DQ4).later hbs) (unveil NQ) (unveil VQ))
  clear hbs
  go_wp2_with fail
  refine (out_any _ _ w5 (unveil BS)).mono ?_
  rintro e w6 ⟨rfl, hbo⟩
  have bl6 : Below w.heap.size w w6 := bl5.trans (hbo.mono bl5.size)
  clear hbo
  go_wp2_with fail
  go_ret2
  exact ⟨rfl, bl6⟩

set_option maxHeartbeats 1600000 in
theorem round_floor_yes_lt (na : Bool) (oa ob : Option Addr) (ca cb : Nat) (a b : List Int) (w : World) (ha : Dg w (.slice oa a.length ca) a) (hb : Dg w (.slice ob b.length cb) b) (nrm : Norm b) (hB : 0 < dval b) (la : a.length ≤ 150) (lb : b.length ≤ 150) (hc : 2 * (dval a % dval b) < dval b) (hr : 0 < dval a % dval b) :
    RoundSays na (!na) 1 true oa ob ca cb a b w := by
  have Ha := veil ha
  have Hb := veil hb
  have NB := veil nrm
  have HBP := veil hB
  have HC := veil hc
  have PM := BBox.made w na (!na) (.slice oa a.length ca) (.slice ob b.length cb)
  clear ha hb nrm hB hc
  unfold RoundSays
  rw [show (na != (!na)) = true by cases na <;> rfl]
  go_enter Try.func61, Try.ntmps61
  go_wp2_with fail
  generalize ((w.alloc (.cells #[.bool na, .slice oa a.length ca] 98)).alloc (.cells #[.bool (!na), .slice ob b.length cb] 98)) = W at *
  refine (over_div _ _ a b W ((unveil Ha).later PM.bel) ((unveil Hb).later PM.bel) (unveil NB) (unveil HBP) la lb).mono ?_
  rintro e w1 ⟨qo, qc, ro, rc, qs, rs, rfl, hb1, dq, nq, dr, nr, vq, vr⟩
  have P1 := PM.later hb1
  have P1' := veil P1
  obtain ⟨s1, bel1, a01, a11, b01, b11⟩ := P1
  have rl := dval_len rs dr.1 nr 150 (by rw [vr]; exact rem_len (unveil Hb).1 (unveil HBP) lb)
  have ql := dval_len qs dq.1 nq 150 (by rw [vq]; exact quo_len (unveil Ha).1 (unveil HBP) la)
  have DQ := veil dq
  have NQ := veil nq
  have DR := veil dr
  have NR := veil nr
  have VQ := veil vq
  have VR := veil vr
  have rp : 0 < rs.length := dval_pos_len dr.1 nr (by rw [vr]; exact hr)
  have rp' : (0 : Int) < (rs.length : Int) := by omega
  clear hb1 dq nq dr nr vq vr PM
  go_wp2_with fail
  refine (plus_any _ _ rs rs w1 (unveil DR) (unveil DR) 150 rl rl (by omega)).mono ?_
  rintro e w2 ⟨v2, rfl, hb2, two, d2, v2e, n2, f2⟩
  have P2 := (unveil P1').later hb2
  have P2' := veil P2
  obtain ⟨s2, bel2, a02, a12, b02, b12⟩ := P2
  have D2 := veil d2
  have N2 := veil n2
  have DQ2 := veil ((unveil DQ).later hb2)
  have CMP1 := veil (show decide (dval b < dval two) = false by rw [v2e, unveil VR]; have := unveil HC; simp; omega)
  have CMP2 := veil (show decide (dval two < dval b) = true by rw [v2e, unveil VR]; have := unveil HC; simp; omega)
  clear hb2 d2 v2e n2 f2
  go_wp2_with fail
  refine (above_any _ _ two b w2 (unveil D2) ((unveil Hb).later (unveil P2').bel) (unveil N2) (unveil NB)).mono ?_
  rintro e w3 ⟨rfl, m3, hw3⟩
  rw [unveil CMP1]
  have P3 : BBox w w3 (.slice oa a.length ca) (.slice ob b.length cb) (.bool na) (.bool (!na)) := by rw [hw3]; exact (unveil P2').drewN m3
  have P3' := veil P3
  obtain ⟨s3, bel3, a03, a13, b03, b13⟩ := P3
  have D3 := veil (show Dg w3 v2 two by rw [hw3]; exact unveil D2)
  have DQ3 := veil (show Dg w3 (.slice qo qs.length qc) qs by rw [hw3]; exact unveil DQ2)
  clear hw3
  go_wp2_with fail
  refine (above_any _ _ b two w3 ((unveil Hb).later (unveil P3').bel) (unveil D3) (unveil NB) (unveil N2)).mono ?_
  rintro e w4 ⟨rfl, m4, hw4⟩
  rw [unveil CMP2]
  have P4 : BBox w w4 (.slice oa a.length ca) (.slice ob b.length cb) (.bool na) (.bool (!na)) := by rw [hw4]; exact (unveil P3').drewN m4
  have P4' := veil P4
  obtain ⟨s4, bel4, a04, a14, b04, b14⟩ := P4
  have D4 := veil (show Dg w4 v2 two by rw [hw4]; exact unveil D3)
  have DQ4 := veil (show Dg w4 (.slice qo qs.length qc) qs by rw [hw4]; exact unveil DQ3)
  clear hw4
  go_wp2_with fail
  have bl4 := (unveil P4').bel
  refine (plus_any _ _ qs [1] _ ((unveil DQ4).later ((Below.refl _ _).alloc (Nat.le_refl _) _)) (dg_one w4) 150 ql (by simp) (by omega)).mono ?_
  rintro e w5 ⟨v9, rfl, hb9, q9, d9, v9e, n9, f9⟩
  have bl5 : Below w.heap.size w w5 := (bl4.alloc (by have := s4; omega) _).trans (hb9.mono (by have := s4; simp; omega))
  obtain ⟨_, _, o9, c9, rfl, _⟩ := id d9
  have D9 := veil d9
  have V9 := veil (show dval q9 = dval a / dval b + 1 by rw [v9e, unveil VQ]; rfl)
  have N9 := veil n9
  clear hb9 d9 v9e n9 f9
  go_wp2_with fail
  refine (sign_any _ _ q9 w5 (unveil D9)).mono ?_
  rintro e w6 ⟨rfl, hbs⟩
  have bl6 : Below w.heap.size w w6 := bl5.trans (hbs.mono bl5.size)
  have BS := veil (show BigR w6 (.agg #[.bool (decide (0 < q9.length)), _]) _ from bigR_round true ((unveil D9).later hbs) (unveil N9) (unveil V9))
  clear hbs
  go_wp2_with fail
  refine (out_any _ _ w6 (unveil BS)).mono ?_
  rintro e w7 ⟨rfl, hbo⟩
  have bl7 : Below w.heap.size w w7 := bl6.trans (hbo.mono bl6.size)
  clear hbo
  go_wp2_with fail
  go_ret2
  exact ⟨rfl, bl7⟩

set_option maxHeartbeats 1600000 in
theorem round_floor_zero (na : Bool) (oa ob : Option Addr) (ca cb : Nat) (a b : List Int) (w : World) (ha : Dg w (.slice oa a.length ca) a) (hb : Dg w (.slice ob b.length cb) b) (nrm : Norm b) (hB : 0 < dval b) (la : a.length ≤ 150) (lb : b.length ≤ 150) (hc : 2 * (dval a % dval b) < dval b) (hr : dval a % dval b = 0) :
    RoundSays na (!na) 1 false oa ob ca cb a b w := by
  have Ha := veil ha
  have Hb := veil hb
  have NB := veil nrm
  have HBP := veil hB
  have HC := veil hc
  have PM := BBox.made w na (!na) (.slice oa a.length ca) (.slice ob b.length cb)
  clear ha hb nrm hB hc
  unfold RoundSays
  rw [show (na != (!na)) = true by cases na <;> rfl]
  go_enter Try.func61, Try.ntmps61
  go_wp2_with fail
  generalize ((w.alloc (.cells #[.bool na, .slice oa a.length ca] 98)).alloc (.cells #[.bool (!na), .slice ob b.length cb] 98)) = W at *
  refine (over_div _ _ a b W ((unveil Ha).later PM.bel) ((unveil Hb).later PM.bel) (unveil NB) (unveil HBP) la lb).mono ?_
  rintro e w1 ⟨qo, qc, ro, rc, qs, rs, rfl, hb1, dq, nq, dr, nr, vq, vr⟩
  have P1 := PM.later hb1
  have P1' := veil P1
  obtain ⟨s1, bel1, a01, a11, b01, b11⟩ := P1
  have rl := dval_len rs dr.1 nr 150 (by rw [vr]; exact rem_len (unveil Hb).1 (unveil HBP) lb)
  have ql := dval_len qs dq.1 nq 150 (by rw [vq]; exact quo_len (unveil Ha).1 (unveil HBP) la)
  have DQ := veil dq
  have NQ := veil nq
  have DR := veil dr
  have NR := veil nr
  have VQ := veil vq
  have VR := veil vr
  have rp : rs.length = 0 := (norm_zero dr.1 nr).1 (by rw [vr]; exact hr)
  have rp' : decide ((0 : Int) < (rs.length : Int)) = false := decide_eq_false (by omega)
  have rp2 : decide (0 < rs.length) = false := decide_eq_false (by omega)
  clear rp
  clear hb1 dq nq dr nr vq vr PM
  go_wp2_with fail
  refine (plus_any _ _ rs rs w1 (unveil DR) (unveil DR) 150 rl rl (by omega)).mono ?_
  rintro e w2 ⟨v2, rfl, hb2, two, d2, v2e, n2, f2⟩
  have P2 := (unveil P1').later hb2
  have P2' := veil P2
  obtain ⟨s2, bel2, a02, a12, b02, b12⟩ := P2
  have D2 := veil d2
  have N2 := veil n2
  have DQ2 := veil ((unveil DQ).later hb2)
  have CMP1 := veil (show decide (dval b < dval two) = false by rw [v2e, unveil VR]; have := unveil HC; simp; omega)
  have CMP2 := veil (show decide (dval two < dval b) = true by rw [v2e, unveil VR]; have := unveil HC; simp; omega)
  clear hb2 d2 v2e n2 f2
  go_wp2_with fail
  refine (above_any _ _ two b w2 (unveil D2) ((unveil Hb).later (unveil P2').bel) (unveil N2) (unveil NB)).mono ?_
  rintro e w3 ⟨rfl, m3, hw3⟩
  rw [unveil CMP1]
  have P3 : BBox w w3 (.slice oa a.length ca) (.slice ob b.length cb) (.bool na) (.bool (!na)) := by rw [hw3]; exact (unveil P2').drewN m3
  have P3' := veil P3
  obtain ⟨s3, bel3, a03, a13, b03, b13⟩ := P3
  have D3 := veil (show Dg w3 v2 two by rw [hw3]; exact unveil D2)
  have DQ3 := veil (show Dg w3 (.slice qo qs.length qc) qs by rw [hw3]; exact unveil DQ2)
  clear hw3
  go_wp2_with fail
  refine (above_any _ _ b two w3 ((unveil Hb).later (unveil P3').bel) (unveil D3) (unveil NB) (unveil N2)).mono ?_
  rintro e w4 ⟨rfl, m4, hw4⟩
  rw [unveil CMP2]
  have P4 : BBox w w4 (.slice oa a.length ca) (.slice ob b.length cb) (.bool na) (.bool (!na)) := by rw [hw4]; exact (unveil P3').drewN m4
  have P4' := veil P4
  obtain ⟨s4, bel4, a04, a14, b04, b14⟩ := P4
  have D4 := veil (show Dg w4 v2 two by rw [hw4]; exact unveil D3)
  have DQ4 := veil (show Dg w4 (.slice qo qs.length qc) qs by rw [hw4]; exact unveil DQ3)
  clear hw4
  go_wp2_with fail
  have bl4 := (unveil P4').bel
  refine (sign_any _ _ qs w4 (unveil DQ4)).mono ?_
  rintro e w5 ⟨rfl, hbs⟩
  have bl5 : Below w.heap.size w w5 := bl4.trans (hbs.mono bl4.size)
  have BS := veil (show BigR w5 (.agg #[.bool (decide (0 < qs.length)), _]) _ from bigR_round true ((unveil DQ4).later hbs) (unveil NQ) (unveil VQ))
  clear hbs
  go_wp2_with fail
  refine (out_any _ _ w5 (unveil BS)).mono ?_
  rintro e w6 ⟨rfl, hbo⟩
  have bl6 : Below w.heap.size w w6 := bl5.trans (hbo.mono bl5.size)
  clear hbo
  go_wp2_with fail
  go_ret2
  exact ⟨rfl, bl6⟩

set_option maxHeartbeats 1600000 in
theorem round_ceil_no_gt (na : Bool) (oa ob : Option Addr) (ca cb : Nat) (a b : List Int) (w : World) (ha : Dg w (.slice oa a.length ca) a) (hb : Dg w (.slice ob b.length cb) b) (nrm : Norm b) (hB : 0 < dval b) (la : a.length ≤ 150) (lb : b.length ≤ 150) (hc : dval b < 2 * (dval a % dval b))  :
    RoundSays na (!na) 2 false oa ob ca cb a b w := by
  have Ha := veil ha
  have Hb := veil hb
  have NB := veil nrm
  have HBP := veil hB
  have HC := veil hc
  have PM := BBox.made w na (!na) (.slice oa a.length ca) (.slice ob b.length cb)
  clear ha hb nrm hB hc
  unfold RoundSays
  rw [show (na != (!na)) = true by cases na <;> rfl]
  go_enter Try.func61, Try.ntmps61
  go_wp2_with fail
  generalize ((w.alloc (.cells #[.bool na, .slice oa a.length ca] 98)).alloc (.cells #[.bool (!na), .slice ob b.length cb] 98)) = W at *
  refine (over_div _ _ a b W ((unveil Ha).later PM.bel) ((unveil Hb).later PM.bel) (unveil NB) (unveil HBP) la lb).mono ?_
  rintro e w1 ⟨qo, qc, ro, rc, qs, rs, rfl, hb1, dq, nq, dr, nr, vq, vr⟩
  have P1 := PM.later hb1
  have P1' := veil P1
  obtain ⟨s1, bel1, a01, a11, b01, b11⟩ := P1
  have rl := dval_len rs dr.1 nr 150 (by rw [vr]; exact rem_len (unveil Hb).1 (unveil HBP) lb)
  have ql := dval_len qs dq.1 nq 150 (by rw [vq]; exact quo_len (unveil Ha).1 (unveil HBP) la)
  have DQ := veil dq
  have NQ := veil nq
  have DR := veil dr
  have NR := veil nr
  have VQ := veil vq
  have VR := veil vr
  clear hb1 dq nq dr nr vq vr PM
  go_wp2_with fail
  refine (plus_any _ _ rs rs w1 (unveil DR) (unveil DR) 150 rl rl (by omega)).mono ?_
  rintro e w2 ⟨v2, rfl, hb2, two, d2, v2e, n2, f2⟩
  have P2 := (unveil P1').later hb2
  have P2' := veil P2
  obtain ⟨s2, bel2, a02, a12, b02, b12⟩ := P2
  have D2 := veil d2
  have N2 := veil n2
  have DQ2 := veil ((unveil DQ).later hb2)
  have CMP1 := veil (show decide (dval b < dval two) = true by rw [v2e, unveil VR]; have := unveil HC; simp; omega)
  have CMP2 := veil (show decide (dval two < dval b) = false by rw [v2e, unveil VR]; have := unveil HC; simp; omega)
  clear hb2 d2 v2e n2 f2
  go_wp2_with fail
  refine (above_any _ _ two b w2 (unveil D2) ((unveil Hb).later (unveil P2').bel) (unveil N2) (unveil NB)).mono ?_
  rintro e w3 ⟨rfl, m3, hw3⟩
  rw [unveil CMP1]
  have P3 : BBox w w3 (.slice oa a.length ca) (.slice ob b.length cb) (.bool na) (.bool (!na)) := by rw [hw3]; exact (unveil P2').drewN m3
  have P3' := veil P3
  obtain ⟨s3, bel3, a03, a13, b03, b13⟩ := P3
  have D3 := veil (show Dg w3 v2 two by rw [hw3]; exact unveil D2)
  have DQ3 := veil (show Dg w3 (.slice qo qs.length qc) qs by rw [hw3]; exact unveil DQ2)
  clear hw3
  go_wp2_with fail
  have bl3 := (unveil P3').bel
  refine (sign_any _ _ qs w3 (unveil DQ3)).mono ?_
  rintro e w4 ⟨rfl, hbs⟩
  have bl4 : Below w.heap.size w w4 := bl3.trans (hbs.mono bl3.size)
  have BS := veil (show BigR w4 (.agg #[.bool (decide (0 < qs.length)), _]) _ from bigR_round true ((unveil DQ3).later hbs) (unveil NQ) (unveil VQ))
  clear hbs
  go_wp2_with fail
  refine (out_any _ _ w4 (unveil BS)).mono ?_
  rintro e w5 ⟨rfl, hbo⟩
  have bl5 : Below w.heap.size w w5 := bl4.trans (hbo.mono bl4.size)
  clear hbo
  go_wp2_with fail
  go_ret2
  exact ⟨rfl, bl5⟩

set_option maxHeartbeats 1600000 in
theorem round_ceil_yes_gt (na : Bool) (oa ob : Option Addr) (ca cb : Nat) (a b : List Int) (w : World) (ha : Dg w (.slice oa a.length ca) a) (hb : Dg w (.slice ob b.length cb) b) (nrm : Norm b) (hB : 0 < dval b) (la : a.length ≤ 150) (lb : b.length ≤ 150) (hc : dval b < 2 * (dval a % dval b)) (hr : 0 < dval a % dval b) :
    RoundSays na na 2 true oa ob ca cb a b w := by
  have Ha := veil ha
  have Hb := veil hb
  have NB := veil nrm
  have HBP := veil hB
  have HC := veil hc
  have PM := BBox.made w na na (.slice oa a.length ca) (.slice ob b.length cb)
  clear ha hb nrm hB hc
  unfold RoundSays
  rw [show (na != na) = false by cases na <;> rfl]
  go_enter Try.func61, Try.ntmps61
  go_wp2_with fail
  generalize ((w.alloc (.cells #[.bool na, .slice oa a.length ca] 98)).alloc (.cells #[.bool na, .slice ob b.length cb] 98)) = W at *
  refine (over_div _ _ a b W ((unveil Ha).later PM.bel) ((unveil Hb).later PM.bel) (unveil NB) (unveil HBP) la lb).mono ?_
  rintro e w1 ⟨qo, qc, ro, rc, qs, rs, rfl, hb1, dq, nq, dr, nr, vq, vr⟩
  have P1 := PM.later hb1
  have P1' := veil P1
  obtain ⟨s1, bel1, a01, a11, b01, b11⟩ := P1
  have rl := dval_len rs dr.1 nr 150 (by rw [vr]; exact rem_len (unveil Hb).1 (unveil HBP) lb)
  have ql := dval_len qs dq.1 nq 150 (by rw [vq]; exact quo_len (unveil Ha).1 (unveil HBP) la)
  have DQ := veil dq
  have NQ := veil nq
  have DR := veil dr
  have NR := veil nr
  have VQ := veil vq
  have VR := veil vr
  have rp : 0 < rs.length := dval_pos_len dr.1 nr (by rw [vr]; exact hr)
  have rp' : (0 : Int) < (rs.length : Int) := by omega
  clear hb1 dq nq dr nr vq vr PM
  go_wp2_with fail
  refine (plus_any _ _ rs rs w1 (unveil DR) (unveil DR) 150 rl rl (by omega)).mono ?_
  rintro e w2 ⟨v2, rfl, hb2, two, d2, v2e, n2, f2⟩
  have P2 := (unveil P1').later hb2
  have P2' := veil P2
  obtain ⟨s2, bel2, a02, a12, b02, b12⟩ := P2
  have D2 := veil d2
  have N2 := veil n2
  have DQ2 := veil ((unveil DQ).later hb2)
  have CMP1 := veil (show decide (dval b < dval two) = true by rw [v2e, unveil VR]; have := unveil HC; simp; omega)
  have CMP2 := veil (show decide (dval two < dval b) = false by rw [v2e, unveil VR]; have := unveil HC; simp; omega)
  clear hb2 d2 v2e n2 f2
  go_wp2_with fail
  refine (above_any _ _ two b w2 (unveil D2) ((unveil Hb).later (unveil P2').bel) (unveil N2) (unveil NB)).mono ?_
  rintro e w3 ⟨rfl, m3, hw3⟩
  rw [unveil CMP1]
  have P3 : BBox w w3 (.slice oa a.length ca) (.slice ob b.length cb) (.bool na) (.bool na) := by rw [hw3]; exact (unveil P2').drewN m3
  have P3' := veil P3
  obtain ⟨s3, bel3, a03, a13, b03, b13⟩ := P3
  have D3 := veil (show Dg w3 v2 two by rw [hw3]; exact unveil D2)
  have DQ3 := veil (show Dg w3 (.slice qo qs.length qc) qs by rw [hw3]; exact unveil DQ2)
  clear hw3
  go_wp2_with fail
  have bl3 := (unveil P3').bel
  refine (plus_any _ _ qs [1] _ ((unveil DQ3).later ((Below.refl _ _).alloc (Nat.le_refl _) _)) (dg_one w3) 150 ql (by simp) (by omega)).mono ?_
  rintro e w4 ⟨v9, rfl, hb9, q9, d9, v9e, n9, f9⟩
  have bl4 : Below w.heap.size w w4 := (bl3.alloc (by have := s3; omega) _).trans (hb9.mono (by have := s3; simp; omega))
  obtain ⟨_, _, o9, c9, rfl, _⟩ := id d9
  have D9 := veil d9
  have V9 := veil (show dval q9 = dval a / dval b + 1 by rw [v9e, unveil VQ]; rfl)
  have N9 := veil n9
  clear hb9 d9 v9e n9 f9
  go_wp2_with fail
  refine (sign_any _ _ q9 w4 (unveil D9)).mono ?_
  rintro e w5 ⟨rfl, hbs⟩
  have bl5 : Below w.heap.size w w5 := bl4.trans (hbs.mono bl4.size)
  have BS := veil (show BigR w5 (.agg #[.bool false, _]) _ from bigR_round false ((unveil D9).later hbs) (unveil N9) (unveil V9))
  clear hbs
  go_wp2_with fail
  refine (out_any _ _ w5 (unveil BS)).mono ?_
  rintro e w6 ⟨rfl, hbo⟩
  have bl6 : Below w.heap.size w w6 := bl5.trans (hbo.mono bl5.size)
  clear hbo
  go_wp2_with fail
  go_ret2
  exact ⟨rfl, bl6⟩

set_option maxHeartbeats 1600000 in
theorem round_ceil_no_eq (na : Bool) (oa ob : Option Addr) (ca cb : Nat) (a b : List Int) (w : World) (ha : Dg w (.slice oa a.length ca) a) (hb : Dg w (.slice ob b.length cb) b) (nrm : Norm b) (hB : 0 < dval b) (la : a.length ≤ 150) (lb : b.length ≤ 150) (hc : 2 * (dval a % dval b) = dval b)  :
    RoundSays na (!na) 2 false oa ob ca cb a b w := by
  have Ha := veil ha
  have Hb := veil hb
  have NB := veil nrm
  have HBP := veil hB
  have HC := veil hc
  have PM := BBox.made w na (!na) (.slice oa a.length ca) (.slice ob b.length cb)
  clear ha hb nrm hB hc
  unfold RoundSays
  rw [show (na != (!na)) = true by cases na <;> rfl]
  go_enter Try.func61, Try.ntmps61
  go_wp2_with fail
  generalize ((w.alloc (.cells #[.bool na, .slice oa a.length ca] 98)).alloc (.cells #[.bool (!na), .slice ob b.length cb] 98)) = W at *
  refine (over_div _ _ a b W ((unveil Ha).later PM.bel) ((unveil Hb).later PM.bel) (unveil NB) (unveil HBP) la lb).mono ?_
  rintro e w1 ⟨qo, qc, ro, rc, qs, rs, rfl, hb1, dq, nq, dr, nr, vq, vr⟩
  have P1 := PM.later hb1
  have P1' := veil P1
  obtain ⟨s1, bel1, a01, a11, b01, b11⟩ := P1
  have rl := dval_len rs dr.1 nr 150 (by rw [vr]; exact rem_len (unveil Hb).1 (unveil HBP) lb)
  have ql := dval_len qs dq.1 nq 150 (by rw [vq]; exact quo_len (unveil Ha).1 (unveil HBP) la)
  have DQ := veil dq
  have NQ := veil nq
  have DR := veil dr
  have NR := veil nr
  have VQ := veil vq
  have VR := veil vr
  clear hb1 dq nq dr nr vq vr PM
  go_wp2_with fail
  refine (plus_any _ _ rs rs w1 (unveil DR) (unveil DR) 150 rl rl (by omega)).mono ?_
  rintro e w2 ⟨v2, rfl, hb2, two, d2, v2e, n2, f2⟩
  have P2 := (unveil P1').later hb2
  have P2' := veil P2
  obtain ⟨s2, bel2, a02, a12, b02, b12⟩ := P2
  have D2 := veil d2
  have N2 := veil n2
  have DQ2 := veil ((unveil DQ).later hb2)
  have CMP1 := veil (show decide (dval b < dval two) = false by rw [v2e, unveil VR]; have := unveil HC; simp; omega)
  have CMP2 := veil (show decide (dval two < dval b) = false by rw [v2e, unveil VR]; have := unveil HC; simp; omega)
  clear hb2 d2 v2e n2 f2
  go_wp2_with fail
  refine (above_any _ _ two b w2 (unveil D2) ((unveil Hb).later (unveil P2').bel) (unveil N2) (unveil NB)).mono ?_
  rintro e w3 ⟨rfl, m3, hw3⟩
  rw [unveil CMP1]
  have P3 : BBox w w3 (.slice oa a.length ca) (.slice ob b.length cb) (.bool na) (.bool (!na)) := by rw [hw3]; exact (unveil P2').drewN m3
  have P3' := veil P3
  obtain ⟨s3, bel3, a03, a13, b03, b13⟩ := P3
  have D3 := veil (show Dg w3 v2 two by rw [hw3]; exact unveil D2)
  have DQ3 := veil (show Dg w3 (.slice qo qs.length qc) qs by rw [hw3]; exact unveil DQ2)
  clear hw3
  go_wp2_with fail
  refine (above_any _ _ b two w3 ((unveil Hb).later (unveil P3').bel) (unveil D3) (unveil NB) (unveil N2)).mono ?_
  rintro e w4 ⟨rfl, m4, hw4⟩
  rw [unveil CMP2]
  have P4 : BBox w w4 (.slice oa a.length ca) (.slice ob b.length cb) (.bool na) (.bool (!na)) := by rw [hw4]; exact (unveil P3').drewN m4
  have P4' := veil P4
  obtain ⟨s4, bel4, a04, a14, b04, b14⟩ := P4
  have D4 := veil (show Dg w4 v2 two by rw [hw4]; exact unveil D3)
  have DQ4 := veil (show Dg w4 (.slice qo qs.length qc) qs by rw [hw4]; exact unveil DQ3)
  clear hw4
  go_wp2_with fail
  have bl4 := (unveil P4').bel
  refine (sign_any _ _ qs w4 (unveil DQ4)).mono ?_
  rintro e w5 ⟨rfl, hbs⟩
  have bl5 : Below w.heap.size w w5 := bl4.trans (hbs.mono bl4.size)
  have BS := veil (show BigR w5 (.agg #[.bool (decide (0 < qs.length)), _]) _ from bigR_round true ((unveil DQ4).later hbs) (unveil NQ) (unveil VQ))
  clear hbs
  go_wp2_with fail
  refine (out_any _ _ w5 (unveil BS)).mono ?_
  rintro e w6 ⟨rfl, hbo⟩
  have bl6 : Below w.heap.size w w6 := bl5.trans (hbo.mono bl5.size)
  clear hbo
  go_wp2_with fail
  go_ret2
  exact ⟨rfl, bl6⟩

set_option maxHeartbeats 1600000 in
theorem round_ceil_yes_eq (na : Bool) (oa ob : Option Addr) (ca cb : Nat) (a b : List Int) (w : World) (ha : Dg w (.slice oa a.length ca) a) (hb : Dg w (.slice ob b.length cb) b) (nrm : Norm b) (hB : 0 < dval b) (la : a.length ≤ 150) (lb : b.length ≤ 150) (hc : 2 * (dval a % dval b) = dval b) (hr : 0 < dval a % dval b) :
    RoundSays na na 2 true oa ob ca cb a b w := by
  have Ha := veil ha
  have Hb := veil hb
  have NB := veil nrm
  have HBP := veil hB
  have HC := veil hc
  have PM := BBox.made w na na (.slice oa a.length ca) (.slice ob b.length cb)
  clear ha hb nrm hB hc
  unfold RoundSays
  rw [show (na != na) = false by cases na <;> rfl]
  go_enter Try.func61, Try.ntmps61
  go_wp2_with fail
  generalize ((w.alloc (.cells #[.bool na, .slice oa a.length ca] 98)).alloc (.cells #[.bool na, .slice ob b.length cb] 98)) = W at *
  refine (over_div _ _ a b W ((unveil Ha).later PM.bel) ((unveil Hb).later PM.bel) (unveil NB) (unveil HBP) la lb).mono ?_
  rintro e w1 ⟨qo, qc, ro, rc, qs, rs, rfl, hb1, dq, nq, dr, nr, vq, vr⟩
  have P1 := PM.later hb1
  have P1' := veil P1
  obtain ⟨s1, bel1, a01, a11, b01, b11⟩ := P1
  have rl := dval_len rs dr.1 nr 150 (by rw [vr]; exact rem_len (unveil Hb).1 (unveil HBP) lb)
  have ql := dval_len qs dq.1 nq 150 (by rw [vq]; exact quo_len (unveil Ha).1 (unveil HBP) la)
  have DQ := veil dq
  have NQ := veil nq
  have DR := veil dr
  have NR := veil nr
  have VQ := veil vq
  have VR := veil vr
  have rp : 0 < rs.length := dval_pos_len dr.1 nr (by rw [vr]; exact hr)
  have rp' : (0 : Int) < (rs.length : Int) := by omega
  clear hb1 dq nq dr nr vq vr PM
  go_wp2_with fail
  refine (plus_any _ _ rs rs w1 (unveil DR) (unveil DR) 150 rl rl (by omega)).mono ?_
  rintro e w2 ⟨v2, rfl, hb2, two, d2, v2e, n2, f2⟩
  have P2 := (unveil P1').later hb2
  have P2' := veil P2
  obtain ⟨s2, bel2, a02, a12, b02, b12⟩ := P2
  have D2 := veil d2
  have N2 := veil n2
  have DQ2 := veil ((unveil DQ).later hb2)
  have CMP1 := veil (show decide (dval b < dval two) = false by rw [v2e, unveil VR]; have := unveil HC; simp; omega)
  have CMP2 := veil (show decide (dval two < dval b) = false by rw [v2e, unveil VR]; have := unveil HC; simp; omega)
  clear hb2 d2 v2e n2 f2
  go_wp2_with fail
  refine (above_any _ _ two b w2 (unveil D2) ((unveil Hb).later (unveil P2').bel) (unveil N2) (unveil NB)).mono ?_
  rintro e w3 ⟨rfl, m3, hw3⟩
  rw [unveil CMP1]
  have P3 : BBox w w3 (.slice oa a.length ca) (.slice ob b.length cb) (.bool na) (.bool na) := by rw [hw3]; exact (unveil P2').drewN m3
  have P3' := veil P3
  obtain ⟨s3, bel3, a03, a13, b03, b13⟩ := P3
  have D3 := veil (show Dg w3 v2 two by rw [hw3]; exact unveil D2)
  have DQ3 := veil (show Dg w3 (.slice qo qs.length qc) qs by rw [hw3]; exact unveil DQ2)
  clear hw3
  go_wp2_with fail
  refine (above_any _ _ b two w3 ((unveil Hb).later (unveil P3').bel) (unveil D3) (unveil NB) (unveil N2)).mono ?_
  rintro e w4 ⟨rfl, m4, hw4⟩
  rw [unveil CMP2]
  have P4 : BBox w w4 (.slice oa a.length ca) (.slice ob b.length cb) (.bool na) (.bool na) := by rw [hw4]; exact (unveil P3').drewN m4
  have P4' := veil P4
  obtain ⟨s4, bel4, a04, a14, b04, b14⟩ := P4
  have D4 := veil (show Dg w4 v2 two by rw [hw4]; exact unveil D3)
  have DQ4 := veil (show Dg w4 (.slice qo qs.length qc) qs by rw [hw4]; exact unveil DQ3)
  clear hw4
  go_wp2_with fail
  have bl4 := (unveil P4').bel
  refine (plus_any _ _ qs [1] _ ((unveil DQ4).later ((Below.refl _ _).alloc (Nat.le_refl _) _)) (dg_one w4) 150 ql (by simp) (by omega)).mono ?_
  rintro e w5 ⟨v9, rfl, hb9, q9, d9, v9e, n9, f9⟩
  have bl5 : Below w.heap.size w w5 := (bl4.alloc (by have := s4; omega) _).trans (hb9.mono (by have := s4; simp; omega))
  obtain ⟨_, _, o9, c9, rfl, _⟩ := id d9
  have D9 := veil d9
  have V9 := veil (show dval q9 = dval a / dval b + 1 by rw [v9e, unveil VQ]; rfl)
  have N9 := veil n9
  clear hb9 d9 v9e n9 f9
  go_wp2_with fail
  refine (sign_any _ _ q9 w5 (unveil D9)).mono ?_
  rintro e w6 ⟨rfl, hbs⟩
  have bl6 : Below w.heap.size w w6 := bl5.trans (hbs.mono bl5.size)
  have BS := veil (show BigR w6 (.agg #[.bool false, _]) _ from bigR_round false ((unveil D9).later hbs) (unveil N9) (unveil V9))
  clear hbs
  go_wp2_with fail
  refine (out_any _ _ w6 (unveil BS)).mono ?_
  rintro e w7 ⟨rfl, hbo⟩
  have bl7 : Below w.heap.size w w7 := bl6.trans (hbo.mono bl6.size)
  clear hbo
  go_wp2_with fail
  go_ret2
  exact ⟨rfl, bl7⟩

set_option maxHeartbeats 1600000 in
theorem round_ceil_no_lt (na : Bool) (oa ob : Option Addr) (ca cb : Nat) (a b : List Int) (w : World) (ha : Dg w (.slice oa a.length ca) a) (hb : Dg w (.slice ob b.length cb) b) (nrm : Norm b) (hB : 0 < dval b) (la : a.length ≤ 150) (lb : b.length ≤ 150) (hc : 2 * (dval a % dval b) < dval b)  :
    RoundSays na (!na) 2 false oa ob ca cb a b w := by
  have Ha := veil ha
  have Hb := veil hb
  have NB := veil nrm
  have HBP := veil hB
  have HC := veil hc
  have PM := BBox.made w na (!na) (.slice oa a.length ca) (.slice ob b.length cb)
  clear ha hb nrm hB hc
  unfold RoundSays
  rw [show (na != (!na)) = true by cases na <;> rfl]
  go_enter Try.func61, Try.ntmps61
  go_wp2_with fail
  generalize ((w.alloc (.cells #[.bool na, .slice oa a.length ca] 98)).alloc (.cells #[.bool (!na), .slice ob b.length cb] 98)) = W at *
  refine (over_div _ _ a b W ((unveil Ha).later PM.bel) ((unveil Hb).later PM.bel) (unveil NB) (unveil HBP) la lb).mono ?_
  rintro e w1 ⟨qo, qc, ro, rc, qs, rs, rfl, hb1, dq, nq, dr, nr, vq, vr⟩
  have P1 := PM.later hb1
  have P1' := veil P1
  obtain ⟨s1, bel1, a01, a11, b01, b11⟩ := P1
  have rl := dval_len rs dr.1 nr 150 (by rw [vr]; exact rem_len (unveil Hb).1 (unveil HBP) lb)
  have ql := dval_len qs dq.1 nq 150 (by rw [vq]; exact quo_len (unveil Ha).1 (unveil HBP) la)
  have DQ := veil dq
  have NQ := veil nq
  have DR := veil dr
  have NR := veil nr
  have VQ := veil vq
  have VR := veil vr
  clear hb1 dq nq dr nr vq vr PM
  go_wp2_with fail
  refine (plus_any _ _ rs rs w1 (unveil DR) (unveil DR) 150 rl rl (by omega)).mono ?_
  rintro e w2 ⟨v2, rfl, hb2, two, d2, v2e, n2, f2⟩
  have P2 := (unveil P1').later hb2
  have P2' := veil P2
  obtain ⟨s2, bel2, a02, a12, b02, b12⟩ := P2
  have D2 := veil d2
  have N2 := veil n2
  have DQ2 := veil ((unveil DQ).later hb2)
  have CMP1 := veil (show decide (dval b < dval two) = false by rw [v2e, unveil VR]; have := unveil HC; simp; omega)
  have CMP2 := veil (show decide (dval two < dval b) = true by rw [v2e, unveil VR]; have := unveil HC; simp; omega)
  clear hb2 d2 v2e n2 f2
  go_wp2_with fail
  refine (above_any _ _ two b w2 (unveil D2) ((unveil Hb).later (unveil P2').bel) (unveil N2) (unveil NB)).mono ?_
  rintro e w3 ⟨rfl, m3, hw3⟩
  rw [unveil CMP1]
  have P3 : BBox w w3 (.slice oa a.length ca) (.slice ob b.length cb) (.bool na) (.bool (!na)) := by rw [hw3]; exact (unveil P2').drewN m3
  have P3' := veil P3
  obtain ⟨s3, bel3, a03, a13, b03, b13⟩ := P3
  have D3 := veil (show Dg w3 v2 two by rw [hw3]; exact unveil D2)
  have DQ3 := veil (show Dg w3 (.slice qo qs.length qc) qs by rw [hw3]; exact unveil DQ2)
  clear hw3
  go_wp2_with fail
  refine (above_any _ _ b two w3 ((unveil Hb).later (unveil P3').bel) (unveil D3) (unveil NB) (unveil N2)).mono ?_
  rintro e w4 ⟨rfl, m4, hw4⟩
  rw [unveil CMP2]
  have P4 : BBox w w4 (.slice oa a.length ca) (.slice ob b.length cb) (.bool na) (.bool (!na)) := by rw [hw4]; exact (unveil P3').drewN m4
  have P4' := veil P4
  obtain ⟨s4, bel4, a04, a14, b04, b14⟩ := P4
  have D4 := veil (show Dg w4 v2 two by rw [hw4]; exact unveil D3)
  have DQ4 := veil (show Dg w4 (.slice qo qs.length qc) qs by rw [hw4]; exact unveil DQ3)
  clear hw4
  go_wp2_with fail
  have bl4 := (unveil P4').bel
  refine (sign_any _ _ qs w4 (unveil DQ4)).mono ?_
  rintro e w5 ⟨rfl, hbs⟩
  have bl5 : Below w.heap.size w w5 := bl4.trans (hbs.mono bl4.size)
  have BS := veil (show BigR w5 (.agg #[.bool (decide (0 < qs.length)), _]) _ from bigR_round true ((unveil DQ4).later hbs) (unveil NQ) (unveil VQ))
  clear hbs
  go_wp2_with fail
  refine (out_any _ _ w5 (unveil BS)).mono ?_
  rintro e w6 ⟨rfl, hbo⟩
  have bl6 : Below w.heap.size w w6 := bl5.trans (hbo.mono bl5.size)
  clear hbo
  go_wp2_with fail
  go_ret2
  exact ⟨rfl, bl6⟩

set_option maxHeartbeats 1600000 in
theorem round_ceil_yes_lt (na : Bool) (oa ob : Option Addr) (ca cb : Nat) (a b : List Int) (w : World) (ha : Dg w (.slice oa a.length ca) a) (hb : Dg w (.slice ob b.length cb) b) (nrm : Norm b) (hB : 0 < dval b) (la : a.length ≤ 150) (lb : b.length ≤ 150) (hc : 2 * (dval a % dval b) < dval b) (hr : 0 < dval a % dval b) :
    RoundSays na na 2 true oa ob ca cb a b w := by
  have Ha := veil ha
  have Hb := veil hb
  have NB := veil nrm
  have HBP := veil hB
  have HC := veil hc
  have PM := BBox.made w na na (.slice oa a.length ca) (.slice ob b.length cb)
  clear ha hb nrm hB hc
  unfold RoundSays
  rw [show (na != na) = false by cases na <;> rfl]
  go_enter Try.func61, Try.ntmps61
  go_wp2_with fail
  generalize ((w.alloc (.cells #[.bool na, .slice oa a.length ca] 98)).alloc (.cells #[.bool na, .slice ob b.length cb] 98)) = W at *
  refine (over_div _ _ a b W ((unveil Ha).later PM.bel) ((unveil Hb).later PM.bel) (unveil NB) (unveil HBP) la lb).mono ?_
  rintro e w1 ⟨qo, qc, ro, rc, qs, rs, rfl, hb1, dq, nq, dr, nr, vq, vr⟩
  have P1 := PM.later hb1
  have P1' := veil P1
  obtain ⟨s1, bel1, a01, a11, b01, b11⟩ := P1
  have rl := dval_len rs dr.1 nr 150 (by rw [vr]; exact rem_len (unveil Hb).1 (unveil HBP) lb)
  have ql := dval_len qs dq.1 nq 150 (by rw [vq]; exact quo_len (unveil Ha).1 (unveil HBP) la)
  have DQ := veil dq
  have NQ := veil nq
  have DR := veil dr
  have NR := veil nr
  have VQ := veil vq
  have VR := veil vr
  have rp : 0 < rs.length := dval_pos_len dr.1 nr (by rw [vr]; exact hr)
  have rp' : (0 : Int) < (rs.length : Int) := by omega
  clear hb1 dq nq dr nr vq vr PM
  go_wp2_with fail
  refine (plus_any _ _ rs rs w1 (unveil DR) (unveil DR) 150 rl rl (by omega)).mono ?_
  rintro e w2 ⟨v2, rfl, hb2, two, d2, v2e, n2, f2⟩
  have P2 := (unveil P1').later hb2
  have P2' := veil P2
  obtain ⟨s2, bel2, a02, a12, b02, b12⟩ := P2
  have D2 := veil d2
  have N2 := veil n2
  have DQ2 := veil ((unveil DQ).later hb2)
  have CMP1 := veil (show decide (dval b < dval two) = false by rw [v2e, unveil VR]; have := unveil HC; simp; omega)
  have CMP2 := veil (show decide (dval two < dval b) = true by rw [v2e, unveil VR]; have := unveil HC; simp; omega)
  clear hb2 d2 v2e n2 f2
  go_wp2_with fail
  refine (above_any _ _ two b w2 (unveil D2) ((unveil Hb).later (unveil P2').bel) (unveil N2) (unveil NB)).mono ?_
  rintro e w3 ⟨rfl, m3, hw3⟩
  rw [unveil CMP1]
  have P3 : BBox w w3 (.slice oa a.length ca) (.slice ob b.length cb) (.bool na) (.bool na) := by rw [hw3]; exact (unveil P2').drewN m3
  have P3' := veil P3
  obtain ⟨s3, bel3, a03, a13, b03, b13⟩ := P3
  have D3 := veil (show Dg w3 v2 two by rw [hw3]; exact unveil D2)
  have DQ3 := veil (show Dg w3 (.slice qo qs.length qc) qs by rw [hw3]; exact unveil DQ2)
  clear hw3
  go_wp2_with fail
  refine (above_any _ _ b two w3 ((unveil Hb).later (unveil P3').bel) (unveil D3) (unveil NB) (unveil N2)).mono ?_
  rintro e w4 ⟨rfl, m4, hw4⟩
  rw [unveil CMP2]
  have P4 : BBox w w4 (.slice oa a.length ca) (.slice ob b.length cb) (.bool na) (.bool na) := by rw [hw4]; exact (unveil P3').drewN m4
  have P4' := veil P4
  obtain ⟨s4, bel4, a04, a14, b04, b14⟩ := P4
  have D4 := veil (show Dg w4 v2 two by rw [hw4]; exact unveil D3)
  have DQ4 := veil (show Dg w4 (.slice qo qs.length qc) qs by rw [hw4]; exact unveil DQ3)
  clear hw4
  go_wp2_with fail
  have bl4 := (unveil P4').bel
  refine (plus_any _ _ qs [1] _ ((unveil DQ4).later ((Below.refl _ _).alloc (Nat.le_refl _) _)) (dg_one w4) 150 ql (by simp) (by omega)).mono ?_
  rintro e w5 ⟨v9, rfl, hb9, q9, d9, v9e, n9, f9⟩
  have bl5 : Below w.heap.size w w5 := (bl4.alloc (by have := s4; omega) _).trans (hb9.mono (by have := s4; simp; omega))
  obtain ⟨_, _, o9, c9, rfl, _⟩ := id d9
  have D9 := veil d9
  have V9 := veil (show dval q9 = dval a / dval b + 1 by rw [v9e, unveil VQ]; rfl)
  have N9 := veil n9
  clear hb9 d9 v9e n9 f9
  go_wp2_with fail
  refine (sign_any _ _ q9 w5 (unveil D9)).mono ?_
  rintro e w6 ⟨rfl, hbs⟩
  have bl6 : Below w.heap.size w w6 := bl5.trans (hbs.mono bl5.size)
  have BS := veil (show BigR w6 (.agg #[.bool false, _]) _ from bigR_round false ((unveil D9).later hbs) (unveil N9) (unveil V9))
  clear hbs
  go_wp2_with fail
  refine (out_any _ _ w6 (unveil BS)).mono ?_
  rintro e w7 ⟨rfl, hbo⟩
  have bl7 : Below w.heap.size w w7 := bl6.trans (hbo.mono bl6.size)
  clear hbo
  go_wp2_with fail
  go_ret2
  exact ⟨rfl, bl7⟩

set_option maxHeartbeats 1600000 in
theorem round_ceil_zero (na : Bool) (oa ob : Option Addr) (ca cb : Nat) (a b : List Int) (w : World) (ha : Dg w (.slice oa a.length ca) a) (hb : Dg w (.slice ob b.length cb) b) (nrm : Norm b) (hB : 0 < dval b) (la : a.length ≤ 150) (lb : b.length ≤ 150) (hc : 2 * (dval a % dval b) < dval b) (hr : dval a % dval b = 0) :
    RoundSays na na 2 false oa ob ca cb a b w := by
  have Ha := veil ha
  have Hb := veil hb
  have NB := veil nrm
  have HBP := veil hB
  have HC := veil hc
  have PM := BBox.made w na na (.slice oa a.length ca) (.slice ob b.length cb)
  clear ha hb nrm hB hc
  unfold RoundSays
  rw [show (na != na) = false by cases na <;> rfl]
  go_enter Try.func61, Try.ntmps61
  go_wp2_with fail
  generalize ((w.alloc (.cells #[.bool na, .slice oa a.length ca] 98)).alloc (.cells #[.bool na, .slice ob b.length cb] 98)) = W at *
  refine (over_div _ _ a b W ((unveil Ha).later PM.bel) ((unveil Hb).later PM.bel) (unveil NB) (unveil HBP) la lb).mono ?_
  rintro e w1 ⟨qo, qc, ro, rc, qs, rs, rfl, hb1, dq, nq, dr, nr, vq, vr⟩
  have P1 := PM.later hb1
  have P1' := veil P1
  obtain ⟨s1, bel1, a01, a11, b01, b11⟩ := P1
  have rl := dval_len rs dr.1 nr 150 (by rw [vr]; exact rem_len (unveil Hb).1 (unveil HBP) lb)
  have ql := dval_len qs dq.1 nq 150 (by rw [vq]; exact quo_len (unveil Ha).1 (unveil HBP) la)
  have DQ := veil dq
  have NQ := veil nq
  have DR := veil dr
  have NR := veil nr
  have VQ := veil vq
  have VR := veil vr
  have rp : rs.length = 0 := (norm_zero dr.1 nr).1 (by rw [vr]; exact hr)
  have rp' : decide ((0 : Int) < (rs.length : Int)) = false := decide_eq_false (by omega)
  have rp2 : decide (0 < rs.length) = false := decide_eq_false (by omega)
  clear rp
  clear hb1 dq nq dr nr vq vr PM
  go_wp2_with fail
  refine (plus_any _ _ rs rs w1 (unveil DR) (unveil DR) 150 rl rl (by omega)).mono ?_
  rintro e w2 ⟨v2, rfl, hb2, two, d2, v2e, n2, f2⟩
  have P2 := (unveil P1').later hb2
  have P2' := veil P2
  obtain ⟨s2, bel2, a02, a12, b02, b12⟩ := P2
  have D2 := veil d2
  have N2 := veil n2
  have DQ2 := veil ((unveil DQ).later hb2)
  have CMP1 := veil (show decide (dval b < dval two) = false by rw [v2e, unveil VR]; have := unveil HC; simp; omega)
  have CMP2 := veil (show decide (dval two < dval b) = true by rw [v2e, unveil VR]; have := unveil HC; simp; omega)
  clear hb2 d2 v2e n2 f2
  go_wp2_with fail
  refine (above_any _ _ two b w2 (unveil D2) ((unveil Hb).later (unveil P2').bel) (unveil N2) (unveil NB)).mono ?_
  rintro e w3 ⟨rfl, m3, hw3⟩
  rw [unveil CMP1]
  have P3 : BBox w w3 (.slice oa a.length ca) (.slice ob b.length cb) (.bool na) (.bool na) := by rw [hw3]; exact (unveil P2').drewN m3
  have P3' := veil P3
  obtain ⟨s3, bel3, a03, a13, b03, b13⟩ := P3
  have D3 := veil (show Dg w3 v2 two by rw [hw3]; exact unveil D2)
  have DQ3 := veil (show Dg w3 (.slice qo qs.length qc) qs by rw [hw3]; exact unveil DQ2)
  clear hw3
  go_wp2_with fail
  refine (above_any _ _ b two w3 ((unveil Hb).later (unveil P3').bel) (unveil D3) (unveil NB) (unveil N2)).mono ?_
  rintro e w4 ⟨rfl, m4, hw4⟩
  rw [unveil CMP2]
  have P4 : BBox w w4 (.slice oa a.length ca) (.slice ob b.length cb) (.bool na) (.bool na) := by rw [hw4]; exact (unveil P3').drewN m4
  have P4' := veil P4
  obtain ⟨s4, bel4, a04, a14, b04, b14⟩ := P4
  have D4 := veil (show Dg w4 v2 two by rw [hw4]; exact unveil D3)
  have DQ4 := veil (show Dg w4 (.slice qo qs.length qc) qs by rw [hw4]; exact unveil DQ3)
  clear hw4
  go_wp2_with fail
  have bl4 := (unveil P4').bel
  refine (sign_any _ _ qs w4 (unveil DQ4)).mono ?_
  rintro e w5 ⟨rfl, hbs⟩
  have bl5 : Below w.heap.size w w5 := bl4.trans (hbs.mono bl4.size)
  have BS := veil (show BigR w5 (.agg #[.bool false, _]) _ from bigR_round false ((unveil DQ4).later hbs) (unveil NQ) (unveil VQ))
  clear hbs
  go_wp2_with fail
  refine (out_any _ _ w5 (unveil BS)).mono ?_
  rintro e w6 ⟨rfl, hbo⟩
  have bl6 : Below w.heap.size w w6 := bl5.trans (hbo.mono bl5.size)
  clear hbo
  go_wp2_with fail
  go_ret2
  exact ⟨rfl, bl6⟩

end Go.Proofs.Ytjlnbhmiahegmaa
