/-
  WALKS: the document's answer (payoffref01): Round: a mode that counts as Down, Floor, Ceil.
-/
import Derived.Test.YtjlnbhmiahegmaaWRefRound0
namespace Go.Proofs.Ytjlnbhmiahegmaa
open Go.RowKit
set_option maxRecDepth 100000
set_option linter.unusedVariables false


/-- What Round says where 'aw' tells whether the quotient goes away from zero. -/
def RoundSays (na nb : Bool) (mode : Int) (aw : Bool) (oa ob : Option Addr) (ca cb : Nat) (a b : List Int) (w : World) : Prop :=
    Calls Try.prog 61 #[.agg #[.bool na, .slice oa a.length ca], .agg #[.bool nb, .slice ob b.length cb], .int .i64 mode] w fun e w' =>
      e = .returned (.tuple #[.int .i64 (fitV (sgn (na != nb) (dval a / dval b + if aw then 1 else 0))), .int .i64 (fitF (sgn (na != nb) (dval a / dval b + if aw then 1 else 0)))]) ∧ Below w.heap.size w w'
theorem bigR_round {w : World} {v : Value} {ds : List Int} {Q : Int} (neg : Bool) (hd : Dg w v ds) (hn : Norm ds) (hv : dval ds = Q) :
    BigR w (.agg #[.bool (neg && decide (0 < ds.length)), v]) (sgn neg Q) := by
  have h0 := (dval_bd ds hd.1).1
  refine bigR_sign hd hn ?_ ?_
  · rw [hv] at *; unfold sgn absI; split <;> split <;> omega
  · intro hz
    unfold sgn at *
    cases neg
    · simp at *; omega
    · simp at *; omega

set_option maxHeartbeats 1600000 in
theorem round_down_gt (na : Bool) (nb : Bool) (mode : Int) (h1 : ¬ mode = 1) (h2 : ¬ mode = 2) (h3 : ¬ mode = 3) (h4 : ¬ mode = 4) (oa ob : Option Addr) (ca cb : Nat) (a b : List Int) (w : World) (ha : Dg w (.slice oa a.length ca) a) (hb : Dg w (.slice ob b.length cb) b) (nrm : Norm b) (hB : 0 < dval b) (la : a.length ≤ 150) (lb : b.length ≤ 150) (hc : dval b < 2 * (dval a % dval b))  :
    RoundSays na nb mode false oa ob ca cb a b w := by
  have Ha := veil ha
  have Hb := veil hb
  have NB := veil nrm
  have HBP := veil hB
  have HC := veil hc
  have PM := BBox.made w na nb (.slice oa a.length ca) (.slice ob b.length cb)
  have f1 : (mode == 1) = false := by simp [h1]
  have f2 : (mode == 2) = false := by simp [h2]
  have f3 : (mode == 3) = false := by simp [h3]
  have f4 : (mode == 4) = false := by simp [h4]
  clear ha hb nrm hB hc
  unfold RoundSays
  go_enter Try.func61, Try.ntmps61
  go_wp2_with fail
  generalize ((w.alloc (.cells #[.bool na, .slice oa a.length ca] 98)).alloc (.cells #[.bool nb, .slice ob b.length cb] 98)) = W at *
  refine (over_div _ _ a b W ((unveil Ha).later PM.bel) ((unveil Hb).later PM.bel) (unveil NB) (unveil HBP) la lb).mono ?_
  rintro e w1 ⟨qo, qc, ro, rc, qs, rs, rfl, hb1, dq, nq, dr, nr, vq, vr⟩
  have P1 := PM.later hb1
  have P1' := veil P1
  obtain ⟨s1, bel1, a01, a11, b01, b11⟩ := P1
  have rl := dval_len rs dr.1 nr 150 (by rw [vr]; exact rem_len (unveil Hb).1 (unveil HBP) lb)
  have ql := dval_len qs dq.1 nq 150 (by rw [vq]; exact quo_len (unveil Ha).1 (unveil HBP) la)
  have DQ := veil dq
  have NQ := veil nq
  have DR := veil dr
  have NR := veil nr
  have VQ := veil vq
  have VR := veil vr
  clear hb1 dq nq dr nr vq vr PM
  go_wp2_with fail
  refine (plus_any _ _ rs rs w1 (unveil DR) (unveil DR) 150 rl rl (by omega)).mono ?_
  rintro e w2 ⟨v2, rfl, hb2, two, d2, v2e, n2, f2⟩
  have P2 := (unveil P1').later hb2
  have P2' := veil P2
  obtain ⟨s2, bel2, a02, a12, b02, b12⟩ := P2
  have D2 := veil d2
  have N2 := veil n2
  have DQ2 := veil ((unveil DQ).later hb2)
  have CMP1 := veil (show decide (dval b < dval two) = true by rw [v2e, unveil VR]; have := unveil HC; simp; omega)
  have CMP2 := veil (show decide (dval two < dval b) = false by rw [v2e, unveil VR]; have := unveil HC; simp; omega)
  clear hb2 d2 v2e n2 f2
  go_wp2_with fail
  refine (above_any _ _ two b w2 (unveil D2) ((unveil Hb).later (unveil P2').bel) (unveil N2) (unveil NB)).mono ?_
  rintro e w3 ⟨rfl, m3, hw3⟩
  rw [unveil CMP1]
  have P3 : BBox w w3 (.slice oa a.length ca) (.slice ob b.length cb) (.bool na) (.bool nb) := by rw [hw3]; exact (unveil P2').drewN m3
  have P3' := veil P3
  obtain ⟨s3, bel3, a03, a13, b03, b13⟩ := P3
  have D3 := veil (show Dg w3 v2 two by rw [hw3]; exact unveil D2)
  have DQ3 := veil (show Dg w3 (.slice qo qs.length qc) qs by rw [hw3]; exact unveil DQ2)
  clear hw3
  go_wp2_with fail
  have bl3 := (unveil P3').bel
  refine (sign_any _ _ qs w3 (unveil DQ3)).mono ?_
  rintro e w4 ⟨rfl, hbs⟩
  have bl4 : Below w.heap.size w w4 := bl3.trans (hbs.mono bl3.size)
  have BS := veil (bigR_round (na != nb) ((unveil DQ3).later hbs) (unveil NQ) (unveil VQ))
  clear hbs
  go_wp2_with fail
  refine (out_any _ _ w4 (unveil BS)).mono ?_
  rintro e w5 ⟨rfl, hbo⟩
  have bl5 : Below w.heap.size w w5 := bl4.trans (hbo.mono bl4.size)
  clear hbo
  go_wp2_with fail
  go_ret2
  exact ⟨rfl, bl5⟩

set_option maxHeartbeats 1600000 in
theorem round_down_eq (na : Bool) (nb : Bool) (mode : Int) (h1 : ¬ mode = 1) (h2 : ¬ mode = 2) (h3 : ¬ mode = 3) (h4 : ¬ mode = 4) (oa ob : Option Addr) (ca cb : Nat) (a b : List Int) (w : World) (ha : Dg w (.slice oa a.length ca) a) (hb : Dg w (.slice ob b.length cb) b) (nrm : Norm b) (hB : 0 < dval b) (la : a.length ≤ 150) (lb : b.length ≤ 150) (hc : 2 * (dval a % dval b) = dval b)  :
    RoundSays na nb mode false oa ob ca cb a b w := by
  have Ha := veil ha
  have Hb := veil hb
  have NB := veil nrm
  have HBP := veil hB
  have HC := veil hc
  have PM := BBox.made w na nb (.slice oa a.length ca) (.slice ob b.length cb)
  have f1 : (mode == 1) = false := by simp [h1]
  have f2 : (mode == 2) = false := by simp [h2]
  have f3 : (mode == 3) = false := by simp [h3]
  have f4 : (mode == 4) = false := by simp [h4]
  clear ha hb nrm hB hc
  unfold RoundSays
  go_enter Try.func61, Try.ntmps61
  go_wp2_with fail
  generalize ((w.alloc (.cells #[.bool na, .slice oa a.length ca] 98)).alloc (.cells #[.bool nb, .slice ob b.length cb] 98)) = W at *
  refine (over_div _ _ a b W ((unveil Ha).later PM.bel) ((unveil Hb).later PM.bel) (unveil NB) (unveil HBP) la lb).mono ?_
  rintro e w1 ⟨qo, qc, ro, rc, qs, rs, rfl, hb1, dq, nq, dr, nr, vq, vr⟩
  have P1 := PM.later hb1
  have P1' := veil P1
  obtain ⟨s1, bel1, a01, a11, b01, b11⟩ := P1
  have rl := dval_len rs dr.1 nr 150 (by rw [vr]; exact rem_len (unveil Hb).1 (unveil HBP) lb)
  have ql := dval_len qs dq.1 nq 150 (by rw [vq]; exact quo_len (unveil Ha).1 (unveil HBP) la)
  have DQ := veil dq
  have NQ := veil nq
  have DR := veil dr
  have NR := veil nr
  have VQ := veil vq
  have VR := veil vr
  clear hb1 dq nq dr nr vq vr PM
  go_wp2_with fail
  refine (plus_any _ _ rs rs w1 (unveil DR) (unveil DR) 150 rl rl (by omega)).mono ?_
  rintro e w2 ⟨v2, rfl, hb2, two, d2, v2e, n2, f2⟩
  have P2 := (unveil P1').later hb2
  have P2' := veil P2
  obtain ⟨s2, bel2, a02, a12, b02, b12⟩ := P2
  have D2 := veil d2
  have N2 := veil n2
  have DQ2 := veil ((unveil DQ).later hb2)
  have CMP1 := veil (show decide (dval b < dval two) = false by rw [v2e, unveil VR]; have := unveil HC; simp; omega)
  have CMP2 := veil (show decide (dval two < dval b) = false by rw [v2e, unveil VR]; have := unveil HC; simp; omega)
  clear hb2 d2 v2e n2 f2
  go_wp2_with fail
  refine (above_any _ _ two b w2 (unveil D2) ((unveil Hb).later (unveil P2').bel) (unveil N2) (unveil NB)).mono ?_
  rintro e w3 ⟨rfl, m3, hw3⟩
  rw [unveil CMP1]
  have P3 : BBox w w3 (.slice oa a.length ca) (.slice ob b.length cb) (.bool na) (.bool nb) := by rw [hw3]; exact (unveil P2').drewN m3
  have P3' := veil P3
  obtain ⟨s3, bel3, a03, a13, b03, b13⟩ := P3
  have D3 := veil (show Dg w3 v2 two by rw [hw3]; exact unveil D2)
  have DQ3 := veil (show Dg w3 (.slice qo qs.length qc) qs by rw [hw3]; exact unveil DQ2)
  clear hw3
  go_wp2_with fail
  refine (above_any _ _ b two w3 ((unveil Hb).later (unveil P3').bel) (unveil D3) (unveil NB) (unveil N2)).mono ?_
  rintro e w4 ⟨rfl, m4, hw4⟩
  rw [unveil CMP2]
  have P4 : BBox w w4 (.slice oa a.length ca) (.slice ob b.length cb) (.bool na) (.bool nb) := by rw [hw4]; exact (unveil P3').drewN m4
  have P4' := veil P4
  obtain ⟨s4, bel4, a04, a14, b04, b14⟩ := P4
  have D4 := veil (show Dg w4 v2 two by rw [hw4]; exact unveil D3)
  have DQ4 := veil (show Dg w4 (.slice qo qs.length qc) qs by rw [hw4]; exact unveil DQ3)
  clear hw4
  go_wp2_with fail
  have bl4 := (unveil P4').bel
  refine (sign_any _ _ qs w4 (unveil DQ4)).mono ?_
  rintro e w5 ⟨rfl, hbs⟩
  have bl5 : Below w.heap.size w w5 := bl4.trans (hbs.mono bl4.size)
  have BS := veil (bigR_round (na != nb) ((unveil DQ4).later hbs) (unveil NQ) (unveil VQ))
  clear hbs
  go_wp2_with fail
  refine (out_any _ _ w5 (unveil BS)).mono ?_
  rintro e w6 ⟨rfl, hbo⟩
  have bl6 : Below w.heap.size w w6 := bl5.trans (hbo.mono bl5.size)
  clear hbo
  go_wp2_with fail
  go_ret2
  exact ⟨rfl, bl6⟩

set_option maxHeartbeats 1600000 in
theorem round_down_lt (na : Bool) (nb : Bool) (mode : Int) (h1 : ¬ mode = 1) (h2 : ¬ mode = 2) (h3 : ¬ mode = 3) (h4 : ¬ mode = 4) (oa ob : Option Addr) (ca cb : Nat) (a b : List Int) (w : World) (ha : Dg w (.slice oa a.length ca) a) (hb : Dg w (.slice ob b.length cb) b) (nrm : Norm b) (hB : 0 < dval b) (la : a.length ≤ 150) (lb : b.length ≤ 150) (hc : 2 * (dval a % dval b) < dval b)  :
    RoundSays na nb mode false oa ob ca cb a b w := by
  have Ha := veil ha
  have Hb := veil hb
  have NB := veil nrm
  have HBP := veil hB
  have HC := veil hc
  have PM := BBox.made w na nb (.slice oa a.length ca) (.slice ob b.length cb)
  have f1 : (mode == 1) = false := by simp [h1]
  have f2 : (mode == 2) = false := by simp [h2]
  have f3 : (mode == 3) = false := by simp [h3]
  have f4 : (mode == 4) = false := by simp [h4]
  clear ha hb nrm hB hc
  unfold RoundSays
  go_enter Try.func61, Try.ntmps61
  go_wp2_with fail
  generalize ((w.alloc (.cells #[.bool na, .slice oa a.length ca] 98)).alloc (.cells #[.bool nb, .slice ob b.length cb] 98)) = W at *
  refine (over_div _ _ a b W ((unveil Ha).later PM.bel) ((unveil Hb).later PM.bel) (unveil NB) (unveil HBP) la lb).mono ?_
  rintro e w1 ⟨qo, qc, ro, rc, qs, rs, rfl, hb1, dq, nq, dr, nr, vq, vr⟩
  have P1 := PM.later hb1
  have P1' := veil P1
  obtain ⟨s1, bel1, a01, a11, b01, b11⟩ := P1
  have rl := dval_len rs dr.1 nr 150 (by rw [vr]; exact rem_len (unveil Hb).1 (unveil HBP) lb)
  have ql := dval_len qs dq.1 nq 150 (by rw [vq]; exact quo_len (unveil Ha).1 (unveil HBP) la)
  have DQ := veil dq
  have NQ := veil nq
  have DR := veil dr
  have NR := veil nr
  have VQ := veil vq
  have VR := veil vr
  clear hb1 dq nq dr nr vq vr PM
  go_wp2_with fail
  refine (plus_any _ _ rs rs w1 (unveil DR) (unveil DR) 150 rl rl (by omega)).mono ?_
  rintro e w2 ⟨v2, rfl, hb2, two, d2, v2e, n2, f2⟩
  have P2 := (unveil P1').later hb2
  have P2' := veil P2
  obtain ⟨s2, bel2, a02, a12, b02, b12⟩ := P2
  have D2 := veil d2
  have N2 := veil n2
  have DQ2 := veil ((unveil DQ).later hb2)
  have CMP1 := veil (show decide (dval b < dval two) = false by rw [v2e, unveil VR]; have := unveil HC; simp; omega)
  have CMP2 := veil (show decide (dval two < dval b) = true by rw [v2e, unveil VR]; have := unveil HC; simp; omega)
  clear hb2 d2 v2e n2 f2
  go_wp2_with fail
  refine (above_any _ _ two b w2 (unveil D2) ((unveil Hb).later (unveil P2').bel) (unveil N2) (unveil NB)).mono ?_
  rintro e w3 ⟨rfl, m3, hw3⟩
  rw [unveil CMP1]
  have P3 : BBox w w3 (.slice oa a.length ca) (.slice ob b.length cb) (.bool na) (.bool nb) := by rw [hw3]; exact (unveil P2').drewN m3
  have P3' := veil P3
  obtain ⟨s3, bel3, a03, a13, b03, b13⟩ := P3
  have D3 := veil (show Dg w3 v2 two by rw [hw3]; exact unveil D2)
  have DQ3 := veil (show Dg w3 (.slice qo qs.length qc) qs by rw [hw3]; exact unveil DQ2)
  clear hw3
  go_wp2_with fail
  refine (above_any _ _ b two w3 ((unveil Hb).later (unveil P3').bel) (unveil D3) (unveil NB) (unveil N2)).mono ?_
  rintro e w4 ⟨rfl, m4, hw4⟩
  rw [unveil CMP2]
  have P4 : BBox w w4 (.slice oa a.length ca) (.slice ob b.length cb) (.bool na) (.bool nb) := by rw [hw4]; exact (unveil P3').drewN m4
  have P4' := veil P4
  obtain ⟨s4, bel4, a04, a14, b04, b14⟩ := P4
  have D4 := veil (show Dg w4 v2 two by rw [hw4]; exact unveil D3)
  have DQ4 := veil (show Dg w4 (.slice qo qs.length qc) qs by rw [hw4]; exact unveil DQ3)
  clear hw4
  go_wp2_with fail
  have bl4 := (unveil P4').bel
  refine (sign_any _ _ qs w4 (unveil DQ4)).mono ?_
  rintro e w5 ⟨rfl, hbs⟩
  have bl5 : Below w.heap.size w w5 := bl4.trans (hbs.mono bl4.size)
  have BS := veil (bigR_round (na != nb) ((unveil DQ4).later hbs) (unveil NQ) (unveil VQ))
  clear hbs
  go_wp2_with fail
  refine (out_any _ _ w5 (unveil BS)).mono ?_
  rintro e w6 ⟨rfl, hbo⟩
  have bl6 : Below w.heap.size w w6 := bl5.trans (hbo.mono bl5.size)
  clear hbo
  go_wp2_with fail
  go_ret2
  exact ⟨rfl, bl6⟩

end Go.Proofs.Ytjlnbhmiahegmaa
