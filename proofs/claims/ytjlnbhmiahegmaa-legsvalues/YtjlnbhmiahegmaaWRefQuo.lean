/-
  WALKS: the document's answer (payoffref01): Div, Mod; NumQuotients.
-/
import Derived.Test.YtjlnbhmiahegmaaWRefRatio
import Derived.Deep.RegionHeld3
namespace Go.Proofs.Ytjlnbhmiahegmaa
open Go.RowKit
set_option maxRecDepth 100000
set_option linter.unusedVariables false

theorem tdiv_sgn (a b : Int) : sgn (decide (a < 0) != decide (b < 0)) (absI a / absI b) = a.tdiv b := by
  by_cases h1 : a < 0
  · rw [absI_neg h1]
    have ea : a.tdiv b = -((-a).tdiv b) := by rw [← Int.neg_tdiv, Int.neg_neg]
    by_cases h2 : b < 0
    · rw [absI_neg h2, ea]
      have eb : (-a).tdiv b = -((-a).tdiv (-b)) := by rw [Int.tdiv_neg, Int.neg_neg]
      rw [eb, Int.neg_neg, Int.tdiv_eq_ediv_of_nonneg (by omega)]
      simp [sgn, h1, h2]
    · rw [absI_pos h2, ea, Int.tdiv_eq_ediv_of_nonneg (by omega)]
      simp [sgn, h1, h2]
  · rw [absI_pos h1]
    by_cases h2 : b < 0
    · rw [absI_neg h2]
      have eb : a.tdiv b = -(a.tdiv (-b)) := by rw [Int.tdiv_neg, Int.neg_neg]
      rw [eb, Int.tdiv_eq_ediv_of_nonneg (by omega)]
      simp [sgn, h1, h2]
    · rw [absI_pos h2, Int.tdiv_eq_ediv_of_nonneg (by omega)]
      simp [sgn, h1, h2]
theorem tmod_sgn (a b : Int) : sgn (decide (a < 0)) (absI a % absI b) = a.tmod b := by
  have key : ∀ p : Int, 0 ≤ p → p % absI b = p.tmod b := fun p hp => by
    by_cases h2 : b < 0
    · rw [absI_neg h2, ← Int.tmod_neg, Int.tmod_eq_emod_of_nonneg hp]
    · rw [absI_pos h2, Int.tmod_eq_emod_of_nonneg hp]
  by_cases h1 : a < 0
  · have ea : a.tmod b = -((-a).tmod b) := by rw [← Int.neg_tmod, Int.neg_neg]
    rw [absI_neg h1, key _ (by omega), ea]
    simp [sgn, h1]
  · rw [absI_pos h1, key _ (by omega)]
    simp [sgn, h1]
theorem rndN_down (a b : Int) : rndN a b 0 = a.tdiv b := by
  rw [← tdiv_sgn]
  unfold rndN
  simp [away]

theorem refDiv_any (a b : Int) (ha : inR a) (hb : inR b) (w : World) :
    Calls Try.prog 43 #[.int .i64 a, .int .i64 b] w fun e w' => e = .returned (.tuple #[.int .i64 (divV a b), .int .i64 (divF a b)]) ∧ Below w.heap.size w w' := by
  unfold divV divF
  by_cases h0 : b = 0
  · rw [if_pos h0, if_pos h0]
    subst h0
    go_enter Try.func43, Try.ntmps43
    go_wp2
    go_ret2
    exact ⟨rfl, Below.refl _ _⟩
  · rw [if_neg h0, if_neg h0, ← rndN_down]
    have e0 : (b == 0) = false := by simp [h0]
    go_enter Try.func43, Try.ntmps43
    go_wp2_with fail
    refine (from_any a ha _).mono ?_
    rintro e w1 ⟨x, rfl, hb1, hx⟩
    go_wp2_with fail
    refine (from_any b hb _).mono ?_
    rintro e w2 ⟨y, rfl, hb2, hy⟩
    go_wp2_with fail
    refine (round_any _ _ a b 0 w2 (hx.later hb2) hy (ten150 a (ten100' a ha)) (ten150 b (ten100' b hb)) h0).mono ?_
    rintro e w3 ⟨rfl, hb3⟩
    go_wp2_with fail
    go_ret2
    exact ⟨rfl, chain (chain hb1 (Nat.le_refl _) hb2) (Nat.le_refl _) hb3⟩

set_option maxHeartbeats 1600000 in
theorem refMod_main (a b : Int) (ha : inR a) (hb : inR b) (h0 : ¬ b = 0) (w : World) :
    Calls Try.prog 44 #[.int .i64 a, .int .i64 b] w fun e w' => e = .returned (.tuple #[.int .i64 (fitV (a.tmod b)), .int .i64 (fitF (a.tmod b))]) ∧ Below w.heap.size w w' := by
  have e0 : (b == 0) = false := by simp [h0]
  have hfD := field_D
  have H0 := veil h0
  rw [← tmod_sgn]
  clear h0
  go_enter Try.func44, Try.ntmps44
  go_wp2_with fail
  refine (from_any a ha _).mono ?_
  rintro e w1 ⟨x, rfl, hb1, o, rfl, ds, hd, hn, hv⟩
  obtain ⟨_, _, oa, ca, rfl, _⟩ := id hd
  have Hd := veil hd
  have HV := veil hv
  have la := norm_len hd.1 hn (k := 100) (by rw [hv]; exact ten100' a ha)
  clear hd hv
  generalize hneg : decide (a < 0) = neg at *
  have HNG := veil hneg
  clear hneg
  go_wp2_with fail
  have c0 : (w1.alloc (.cells #[.bool neg, .slice oa ds.length ca] 98)).cell? ⟨w1.heap.size, 0, none⟩ = some (.bool neg) := by simp
  have c1 : (w1.alloc (.cells #[.bool neg, .slice oa ds.length ca] 98)).cell? ⟨w1.heap.size, 1, none⟩ = some (.slice oa ds.length ca) := by simp
  have bW : Below w1.heap.size w1 (w1.alloc (.cells #[.bool neg, .slice oa ds.length ca] 98)) := (Below.refl _ _).alloc (Nat.le_refl _) _
  have sW : w1.heap.size < (w1.alloc (.cells #[.bool neg, .slice oa ds.length ca] 98)).heap.size := by simp
  generalize (w1.alloc (.cells #[.bool neg, .slice oa ds.length ca] 98)) = W at *
  have FB := veil (from_any b hb W.drew)
  have BW := veil bW
  have HB1 := veil hb1
  clear bW hb1
  go_region_held3 (fun w' => w'.cell? ⟨w1.heap.size, 0, none⟩ = some (.bool neg) ∧ w'.cell? ⟨w1.heap.size, 1, none⟩ = some (.slice oa ds.length ca)) (refine ⟨?_, ?_⟩ <;> first | assumption | (simp [*]; done)) (first | (go_at_call 58; refine (unveil FB).mono ?_; rintro e w3 ⟨x3, rfl, hb3, o3, rfl, ds3, d3, n3, v3⟩; obtain ⟨_, _, o3, c3, rfl, _⟩ := id d3; have f0 : w3.cell? ⟨w1.heap.size, 0, none⟩ = some (.bool neg) := (hb3.cell (p := ⟨w1.heap.size, 0, none⟩) sW).trans c0; have f1 : w3.cell? ⟨w1.heap.size, 1, none⟩ = some (.slice oa ds.length ca) := (hb3.cell (p := ⟨w1.heap.size, 1, none⟩) sW).trans c1; have B3 := veil (show Below w1.heap.size w1 w3 from (unveil BW).drew.trans (hb3.mono (Nat.le_of_lt sW))); have s3 : w1.heap.size < w3.heap.size := Nat.lt_of_lt_of_le sW hb3.size; have D3 := veil d3; have V3 := veil v3; have N3 := veil n3; clear hb3 d3 v3 n3) | (go_at_call 62; refine (over_div _ _ ds ds3 w3 ((unveil Hd).later (unveil B3)) (unveil D3) (unveil N3) (by rw [unveil V3]; exact absI_zero (unveil H0)) (by omega) (by have := norm_len (unveil D3).1 (unveil N3) (k := 100) (by rw [unveil V3]; exact ten100' b hb); omega)).mono ?_; rintro e w4 ⟨qo, qc, ro, rc, qs, rs, rfl, hb4, dq, nq, dr, nr, vq, vr⟩; have g0 : w4.cell? ⟨w1.heap.size, 0, none⟩ = some (.bool neg) := (hb4.cell (p := ⟨w1.heap.size, 0, none⟩) s3).trans f0; have g1 : w4.cell? ⟨w1.heap.size, 1, none⟩ = some (.slice oa ds.length ca) := (hb4.cell (p := ⟨w1.heap.size, 1, none⟩) s3).trans f1; have B4 := veil ((unveil B3).trans (hb4.mono (Nat.le_of_lt s3))); have DR := veil dr; have NR := veil nr; have VR := veil vr; clear hb4 dq nq dr nr vq vr))
  all_goals go_wp2_with fail
  all_goals
    refine (sign_any _ _ rs w4 (unveil DR)).mono ?_
    rintro e w5 ⟨rfl, hb5⟩
    have BS := veil (bigR_round neg ((unveil DR).later hb5) (unveil NR) (show dval rs = absI a % absI b by rw [unveil VR, unveil HV, unveil V3]))
    have B5 := veil (chain (chain (unveil HB1) (Nat.le_refl _) (unveil B4)) (Nat.le_refl _) hb5)
    clear hb5
    go_wp2_with fail
    refine (out_any _ _ w5 (unveil BS)).mono ?_
    rintro e w6 ⟨rfl, hb6⟩
    have B6 := veil (chain (unveil B5) (Nat.le_refl _) hb6)
    clear hb6
    go_wp2_with fail
    go_ret2
    exact ⟨ret_ii (by rw [unveil HNG]) (by rw [unveil HNG]), unveil B6⟩

theorem refMod_any (a b : Int) (ha : inR a) (hb : inR b) (w : World) :
    Calls Try.prog 44 #[.int .i64 a, .int .i64 b] w fun e w' => e = .returned (.tuple #[.int .i64 (modV a b), .int .i64 (modF b)]) ∧ Below w.heap.size w w' := by
  unfold modV modF
  by_cases h0 : b = 0
  · rw [if_pos h0, if_pos h0]
    subst h0
    go_enter Try.func44, Try.ntmps44
    go_wp2
    go_ret2
    exact ⟨rfl, Below.refl _ _⟩
  · rw [if_neg h0, if_neg h0]
    have h := refMod_main a b ha hb h0 w
    have hi := tmod_in a b ha
    rw [fitV_in hi, fitF_in hi] at h
    exact h

end Go.Proofs.Ytjlnbhmiahegmaa
