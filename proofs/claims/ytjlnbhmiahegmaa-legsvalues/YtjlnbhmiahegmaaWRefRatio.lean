/-
  WALKS: the document's answer (payoffref01): Round for every two numbers; Ratio, Div, Mod.
-/
import Derived.Test.YtjlnbhmiahegmaaWRefRound2
import Derived.Test.YtjlnbhmiahegmaaWRefRound3
import Derived.Test.YtjlnbhmiahegmaaWRefTimesB
import Derived.Test.YtjlnbhmiahegmaaWRatio
namespace Go.Proofs.Ytjlnbhmiahegmaa
open Go.RowKit
set_option maxRecDepth 100000
set_option linter.unusedVariables false

theorem round_all (na nb : Bool) (mode : Int) (oa ob : Option Addr) (ca cb : Nat) (a b : List Int) (w : World) (ha : Dg w (.slice oa a.length ca) a) (hb : Dg w (.slice ob b.length cb) b) (nrm : Norm b) (hB : 0 < dval b) (la : a.length ≤ 150) (lb : b.length ≤ 150) :
    RoundSays na nb mode (away mode (na != nb) (dval a / dval b) (dval a % dval b) (dval b)) oa ob ca cb a b w := by
  have h0 := Int.emod_nonneg (dval a) (show dval b ≠ 0 by omega)
  by_cases h1 : mode = 1
  · subst h1
    by_cases hr : dval a % dval b = 0
    · have e : away 1 (na != nb) (dval a / dval b) (dval a % dval b) (dval b) = false := by simp [away, hr]
      rw [e]
      by_cases hs : nb = na
      · subst hs; exact round_floor_no_lt nb oa ob ca cb a b w ha hb nrm hB la lb (by omega)
      · obtain rfl : nb = !na := by cases na <;> cases nb <;> simp_all
        exact round_floor_zero na oa ob ca cb a b w ha hb nrm hB la lb (by omega) hr
    · by_cases hs : nb = na
      · subst hs
        have e : away 1 (nb != nb) (dval a / dval b) (dval a % dval b) (dval b) = false := by simp [away]
        rw [e]
        rcases Int.lt_trichotomy (2 * (dval a % dval b)) (dval b) with hc | hc | hc
        · exact round_floor_no_lt nb oa ob ca cb a b w ha hb nrm hB la lb hc
        · exact round_floor_no_eq nb oa ob ca cb a b w ha hb nrm hB la lb hc
        · exact round_floor_no_gt nb oa ob ca cb a b w ha hb nrm hB la lb hc
      · obtain rfl : nb = !na := by cases na <;> cases nb <;> simp_all
        have e : away 1 (na != !na) (dval a / dval b) (dval a % dval b) (dval b) = true := by simp [away, hr]
        rw [e]
        rcases Int.lt_trichotomy (2 * (dval a % dval b)) (dval b) with hc | hc | hc
        · exact round_floor_yes_lt na oa ob ca cb a b w ha hb nrm hB la lb hc (by omega)
        · exact round_floor_yes_eq na oa ob ca cb a b w ha hb nrm hB la lb hc (by omega)
        · exact round_floor_yes_gt na oa ob ca cb a b w ha hb nrm hB la lb hc (by omega)
  by_cases h2 : mode = 2
  · subst h2
    by_cases hr : dval a % dval b = 0
    · have e : away 2 (na != nb) (dval a / dval b) (dval a % dval b) (dval b) = false := by simp [away, hr]
      rw [e]
      by_cases hs : nb = na
      · subst hs; exact round_ceil_zero nb oa ob ca cb a b w ha hb nrm hB la lb (by omega) hr
      · obtain rfl : nb = !na := by cases na <;> cases nb <;> simp_all
        exact round_ceil_no_lt na oa ob ca cb a b w ha hb nrm hB la lb (by omega)
    · by_cases hs : nb = na
      · subst hs
        have e : away 2 (nb != nb) (dval a / dval b) (dval a % dval b) (dval b) = true := by simp [away, hr]
        rw [e]
        rcases Int.lt_trichotomy (2 * (dval a % dval b)) (dval b) with hc | hc | hc
        · exact round_ceil_yes_lt nb oa ob ca cb a b w ha hb nrm hB la lb hc (by omega)
        · exact round_ceil_yes_eq nb oa ob ca cb a b w ha hb nrm hB la lb hc (by omega)
        · exact round_ceil_yes_gt nb oa ob ca cb a b w ha hb nrm hB la lb hc (by omega)
      · obtain rfl : nb = !na := by cases na <;> cases nb <;> simp_all
        have e : away 2 (na != !na) (dval a / dval b) (dval a % dval b) (dval b) = false := by simp [away]
        rw [e]
        rcases Int.lt_trichotomy (2 * (dval a % dval b)) (dval b) with hc | hc | hc
        · exact round_ceil_no_lt na oa ob ca cb a b w ha hb nrm hB la lb hc
        · exact round_ceil_no_eq na oa ob ca cb a b w ha hb nrm hB la lb hc
        · exact round_ceil_no_gt na oa ob ca cb a b w ha hb nrm hB la lb hc
  by_cases h3 : mode = 3
  · subst h3
    rcases Int.lt_trichotomy (2 * (dval a % dval b)) (dval b) with hc | hc | hc
    · have e : away 3 (na != nb) (dval a / dval b) (dval a % dval b) (dval b) = false := by simp [away]; omega
      rw [e]; exact round_half_lt na nb oa ob ca cb a b w ha hb nrm hB la lb hc
    · have e : away 3 (na != nb) (dval a / dval b) (dval a % dval b) (dval b) = true := by simp [away]; omega
      rw [e]; exact round_half_eq na nb oa ob ca cb a b w ha hb nrm hB la lb hc
    · have e : away 3 (na != nb) (dval a / dval b) (dval a % dval b) (dval b) = true := by simp [away]; omega
      rw [e]; exact round_half_gt na nb oa ob ca cb a b w ha hb nrm hB la lb hc
  by_cases h4 : mode = 4
  · subst h4
    rcases Int.lt_trichotomy (2 * (dval a % dval b)) (dval b) with hc | hc | hc
    · have e : away 4 (na != nb) (dval a / dval b) (dval a % dval b) (dval b) = false := by
        unfold away
        by_cases hr : dval a % dval b = 0
        · simp [hr]
        · rw [if_neg hr, if_neg (by omega), if_neg (by omega), if_pos rfl, if_neg (by omega)]; simp; omega
      rw [e]; exact round_even_lt na nb oa ob ca cb a b w ha hb nrm hB la lb hc
    · have e : away 4 (na != nb) (dval a / dval b) (dval a % dval b) (dval b) = (dval a / dval b % 2 == 1) := by
        unfold away
        rw [if_neg (by omega), if_neg (by omega), if_neg (by omega), if_pos rfl, if_pos (by omega)]
      rw [e]
      cases ho : (dval a / dval b % 2 == 1)
      · exact round_even_even na nb oa ob ca cb a b w ha hb nrm hB la lb hc ho
      · exact round_even_odd na nb oa ob ca cb a b w ha hb nrm hB la lb hc ho
    · have e : away 4 (na != nb) (dval a / dval b) (dval a % dval b) (dval b) = true := by
        unfold away
        rw [if_neg (by omega), if_neg (by omega), if_neg (by omega), if_pos rfl, if_neg (by omega)]; simp; omega
      rw [e]; exact round_even_gt na nb oa ob ca cb a b w ha hb nrm hB la lb hc
  have e : away mode (na != nb) (dval a / dval b) (dval a % dval b) (dval b) = false := by simp [away, h1, h2, h3, h4]
  rw [e]
  rcases Int.lt_trichotomy (2 * (dval a % dval b)) (dval b) with hc | hc | hc
  · exact round_down_lt na nb mode h1 h2 h3 h4 oa ob ca cb a b w ha hb nrm hB la lb hc
  · exact round_down_eq na nb mode h1 h2 h3 h4 oa ob ca cb a b w ha hb nrm hB la lb hc
  · exact round_down_gt na nb mode h1 h2 h3 h4 oa ob ca cb a b w ha hb nrm hB la lb hc

/-- The rounded fraction of two whole numbers. -/
def rndN (p q mode : Int) : Int := sgn (decide (p < 0) != decide (q < 0)) (absI p / absI q + if away mode (decide (p < 0) != decide (q < 0)) (absI p / absI q) (absI p % absI q) (absI q) then 1 else 0)

theorem round_any (x y : Value) (p q mode : Int) (w : World) (hx : BigR w x p) (hy : BigR w y q) (bp : absI p < ten 150) (bq : absI q < ten 150) (hq : ¬ q = 0) :
    Calls Try.prog 61 #[x, y, .int .i64 mode] w fun e w' => e = .returned (.tuple #[.int .i64 (fitV (rndN p q mode)), .int .i64 (fitF (rndN p q mode))]) ∧ Below w.heap.size w w' := by
  obtain ⟨o1, rfl, a, da, na, va⟩ := hx
  obtain ⟨o2, rfl, b, db, nb, vb⟩ := hy
  obtain ⟨_, _, oa, ca, rfl, _⟩ := id da
  obtain ⟨_, _, ob, cb, rfl, _⟩ := id db
  have la := norm_len da.1 na (k := 150) (by omega)
  have lb := norm_len db.1 nb (k := 150) (by omega)
  have h := round_all (decide (p < 0)) (decide (q < 0)) mode oa ob ca cb a b w da db nb (by rw [vb]; exact absI_zero hq) la lb
  unfold RoundSays at h
  rw [va, vb] at h
  exact h

theorem ten150 (z : Int) (h : absI z < ten 100) : absI z < ten 150 := by
  have := ten_le (show 100 ≤ 150 by omega)
  omega
theorem ten38 (a b : Int) (ha : inR a) (hb : inR b) : absI (a * b) < ten 150 := by
  rw [absI_mul]
  obtain ⟨a1, a2⟩ := absI_bd a ha
  obtain ⟨b1, b2⟩ := absI_bd b hb
  have m1 := Int.mul_le_mul_of_nonneg_right a2 b1
  have h2 := ten_le (show 38 ≤ 150 by omega)
  rw [show ten 38 = 100000000000000000000000000000000000000 by decide] at h2
  omega

/-- Ratio's fraction is the rounded one. -/
theorem ratN_rnd (a b c mode : Int) : rndN (a * b) c mode = ratN a b c mode := by
  unfold rndN ratN rq rr rneg
  rw [absI_mul]
  by_cases h : a * b = 0
  · have h1 : absI a * absI b = 0 := by rw [← absI_mul, h]; rfl
    rw [h1]; simp [away, sgn]
  · rw [← sign_mul a b h]; rfl

theorem refRatio_any (a b c mode : Int) (ha : inR a) (hb : inR b) (hc : inR c) (h0 : ¬ c = 0) (w : World) :
    Calls Try.prog 45 #[.int .i64 a, .int .i64 b, .int .i64 c, .int .i64 mode] w fun e w' => e = .returned (.tuple #[.int .i64 (fitV (ratN a b c mode)), .int .i64 (fitF (ratN a b c mode))]) ∧ Below w.heap.size w w' := by
  have e0 : (c == 0) = false := by simp [h0]
  rw [← ratN_rnd]
  go_enter Try.func45, Try.ntmps45
  go_wp2_with fail
  refine (from_any a ha _).mono ?_
  rintro e w1 ⟨x, rfl, hb1, hx⟩
  go_wp2_with fail
  refine (from_any b hb _).mono ?_
  rintro e w2 ⟨y, rfl, hb2, hy⟩
  go_wp2_with fail
  refine (timesB_any _ _ a b w2 (hx.later hb2) hy (ten100' a ha) (ten100' b hb)).mono ?_
  rintro e w3 ⟨z, rfl, hb3, hz⟩
  go_wp2_with fail
  refine (from_any c hc _).mono ?_
  rintro e w4 ⟨u, rfl, hb4, hu⟩
  go_wp2_with fail
  refine (round_any _ _ (a * b) c mode w4 (hz.later hb4) hu (ten38 a b ha hb) (ten150 c (ten100' c hc)) h0).mono ?_
  rintro e w5 ⟨rfl, hb5⟩
  go_wp2_with fail
  go_ret2
  exact ⟨rfl, chain (chain (chain (chain hb1 (Nat.le_refl _) hb2) (Nat.le_refl _) hb3) (Nat.le_refl _) hb4) (Nat.le_refl _) hb5⟩

theorem refRatio_zero (a b mode : Int) (w : World) :
    Calls Try.prog 45 #[.int .i64 a, .int .i64 b, .int .i64 0, .int .i64 mode] w fun e w' => e = .returned (.tuple #[.int .i64 0, .int .i64 2]) ∧ w' = w := by
  go_enter Try.func45, Try.ntmps45
  go_wp2
  go_ret2
  exact ⟨rfl, rfl⟩

end Go.Proofs.Ytjlnbhmiahegmaa
