import Derived.Test.YtpfjnnkjoabgbaaGreatDoorXAT
import Derived.Test.YtpfjnnkjoabgbaaGreatDoorXAU
namespace Go.Proofs.YtpfjnnkjoabgbaaGreatDoor
open Go.RowKit

/-- Does the fraction of that sign, whole part q and rest r over d go away from zero? -/
def away (mode : Int) (neg : Bool) (q r d : Int) : Bool :=
  if r = 0 then false else if mode = 1 then neg else if mode = 2 then !neg
  else if mode = 4 then (if r = d - r then q % 2 == 1 else decide (d - r ≤ r)) else if mode = 3 then decide (d - r ≤ r) else false

theorem goesAway_any (mode : Int) (neg : Bool) (q r d : Int) (q0 : 0 ≤ q) (r0 : 0 ≤ r) (rd : r < d) (d1 : d < 18446744073709551616) (w : World) :
    Calls Tryz.prog 141 #[.int .i64 mode, .bool neg, .int .u64 q, .int .u64 r, .int .u64 d] w fun e w' => e = .returned (.bool (away mode neg q r d)) ∧ w' = w := by
  unfold away
  by_cases hr : r = 0
  · rw [if_pos hr]
    subst hr
    go_enter Tryz.func141, Tryz.ntmps141
    go_wp2
    go_ret
    exact ⟨rfl, rfl⟩
  · rw [if_neg hr]
    have e0 : (r == 0) = false := by simp [hr]
    by_cases h1 : mode = 1
    · rw [if_pos h1]
      subst h1
      go_enter Tryz.func141, Tryz.ntmps141
      go_wp2
      go_ret
      exact ⟨rfl, rfl⟩
    rw [if_neg h1]
    by_cases h2 : mode = 2
    · rw [if_pos h2]
      subst h2
      go_enter Tryz.func141, Tryz.ntmps141
      go_wp2
      go_ret
      exact ⟨rfl, rfl⟩
    rw [if_neg h2]
    by_cases h4 : mode = 4
    · rw [if_pos h4]
      subst h4
      by_cases hh : r = d - r
      · rw [if_pos hh]
        have e1 : (r == d - r) = true := by simp; omega
        clear hh
        go_enter Tryz.func141, Tryz.ntmps141
        go_wp2
        go_ret
        exact ⟨rfl, rfl⟩
      · rw [if_neg hh]
        have e1 : (r == d - r) = false := by simp; omega
        clear hh
        go_enter Tryz.func141, Tryz.ntmps141
        go_wp2
        go_ret
        exact ⟨rfl, rfl⟩
    rw [if_neg h4]
    by_cases h3 : mode = 3
    · rw [if_pos h3]
      subst h3
      go_enter Tryz.func141, Tryz.ntmps141
      go_wp2
      go_ret
      exact ⟨rfl, rfl⟩
    rw [if_neg h3]
    have f1 : (mode == 1) = false := by simp [h1]
    have f2 : (mode == 2) = false := by simp [h2]
    have f3 : (mode == 3) = false := by simp [h3]
    have f4 : (mode == 4) = false := by simp [h4]
    go_enter Tryz.func141, Tryz.ntmps141
    go_wp2
    go_ret
    exact ⟨rfl, rfl⟩

/-! ### num.Ratio -/
def rq (a b c : Int) : Int := absI a * absI b / absI c
def rr (a b c : Int) : Int := absI a * absI b % absI c
def rneg (a b c : Int) : Bool := dif a b != decide (c < 0)
/-- The rounded fraction, as it truly is. -/
def ratN (a b c mode : Int) : Int := sgn (rneg a b c) (rq a b c + if away mode (rneg a b c) (rq a b c) (rr a b c) (absI c) then 1 else 0)

theorem mul_parts (x y : Int) : mulHi x y * 18446744073709551616 + mulLo x y = x * y := by unfold mulHi mulLo; omega
theorem absI_zero {c : Int} (h : ¬ c = 0) : 0 < absI c := by unfold absI; split <;> omega
theorem sgn_out {neg : Bool} {n : Int} (h : 9223372036854775808 < n) : ¬ inR (sgn neg n) := by
  cases neg <;> simp [sgn, inR] <;> omega

theorem ratio_zero (a b mode : Int) (w : World) :
    Calls Tryz.prog 120 #[.int .i64 a, .int .i64 b, .int .i64 0, .int .i64 mode] w fun e w' => e = .returned (.tuple #[.int .i64 0, .int .i64 2]) ∧ w' = w := by
  go_enter Tryz.func120, Tryz.ntmps120
  go_wp2
  go_ret2
  exact ⟨rfl, rfl⟩

set_option maxHeartbeats 800000 in
theorem ratio_any (a b c mode : Int) (ha : inR a) (hb : inR b) (hc : inR c) (h0 : ¬ c = 0) (w : World) :
    Calls Tryz.prog 120 #[.int .i64 a, .int .i64 b, .int .i64 c, .int .i64 mode] w fun e w' => e = .returned (.tuple #[.int .i64 (fitV (ratN a b c mode)), .int .i64 (fitF (ratN a b c mode))]) ∧ ∃ n, w' = w.drewN n := by
  have e0 : (c == 0) = false := by simp [h0]
  obtain ⟨a1, a2⟩ := absI_bd a ha
  obtain ⟨b1, b2⟩ := absI_bd b hb
  obtain ⟨c1, c2⟩ := absI_bd c hc
  have c3 := absI_zero h0
  have hp := Int.mul_nonneg a1 b1
  have hlo : 0 ≤ mulLo (absI a) (absI b) ∧ mulLo (absI a) (absI b) < 18446744073709551616 := by unfold mulLo; omega
  have hhi : 0 ≤ mulHi (absI a) (absI b) := by unfold mulHi; omega
  have hpt := mul_parts (absI a) (absI b)
  have hdm := Int.emod_add_mul_ediv (absI a * absI b) (absI c)
  have hr0 : 0 ≤ rr a b c := Int.emod_nonneg _ (by omega)
  have hr1 : rr a b c < absI c := Int.emod_lt_of_pos _ c3
  have hq0 : 0 ≤ rq a b c := Int.ediv_nonneg hp (by omega)
  by_cases hh : absI c ≤ mulHi (absI a) (absI b)
  · have hbig : 18446744073709551616 ≤ rq a b c := by
      unfold rq
      refine (Int.le_ediv_iff_mul_le c3).2 ?_
      have := Int.mul_le_mul_of_nonneg_right hh (show (0 : Int) ≤ 18446744073709551616 by omega)
      rw [Int.mul_comm]; omega
    have hn : ¬ inR (ratN a b c mode) := sgn_out (by split <;> omega)
    rw [fitV_out hn, fitF_out hn]
    clear hn hbig hpt hdm hr0 hr1 hq0 hp h0
    go_enter Tryz.func120, Tryz.ntmps120
    go_wp2_with fail
    refine (sizeOf_any a ha _).mono ?_; rintro e w' ⟨rfl, rfl⟩
    go_wp2_with fail
    refine (sizeOf_any b hb _).mono ?_; rintro e w' ⟨rfl, rfl⟩
    go_wp2_with fail
    refine (mul64_any _ _ a1 (by omega) b1 (by omega) _).mono ?_; rintro e w' ⟨rfl, rfl⟩
    go_wp2_with fail
    refine (sizeOf_any c hc _).mono ?_; rintro e w' ⟨rfl, rfl⟩
    go_wp2_with fail
    go_ret2
    exact ⟨rfl, 0, rfl⟩
  · have hh' : decide (absI c ≤ mulHi (absI a) (absI b)) = false := by simp; omega
    have D : ∀ w, Calls Tryz.prog 140 #[.int .u64 (mulHi (absI a) (absI b)), .int .u64 (mulLo (absI a) (absI b)), .int .u64 (absI c)] w fun e w' => e = .returned (.tuple #[.int .u64 (rq a b c), .int .u64 (rr a b c)]) ∧ ∃ n, w' = w.drewN n := by
      intro w
      refine (div64_any _ _ _ hhi (by omega) hlo.1 hlo.2 (by omega) w).mono ?_
      rintro e w' ⟨rfl, hw⟩
      exact ⟨ret_ii (by unfold quo2 rq; rw [hpt]) (by unfold rem2 rr; rw [hpt]), hw⟩
    have DD := veil D
    have hq1 : rq a b c < 18446744073709551616 := by
      unfold rq
      refine Int.ediv_lt_of_lt_mul c3 ?_
      have h3 := Int.mul_le_mul_of_nonneg_right (show mulHi (absI a) (absI b) + 1 ≤ absI c by omega) (show (0 : Int) ≤ 18446744073709551616 by omega)
      omega
    clear D hpt hdm hp hlo hhi hh h0
    by_cases hw : 9223372036854775808 < rq a b c
    · have hn : ¬ inR (ratN a b c mode) := sgn_out (by split <;> omega)
      rw [fitV_out hn, fitF_out hn]
      clear hn
      go_enter Tryz.func120, Tryz.ntmps120
      go_wp2_with fail
      refine (sizeOf_any a ha _).mono ?_; rintro e w' ⟨rfl, rfl⟩
      go_wp2_with fail
      refine (sizeOf_any b hb _).mono ?_; rintro e w' ⟨rfl, rfl⟩
      go_wp2_with fail
      refine (mul64_any _ _ a1 (by omega) b1 (by omega) _).mono ?_; rintro e w' ⟨rfl, rfl⟩
      go_wp2_with fail
      refine (sizeOf_any c hc _).mono ?_; rintro e w' ⟨rfl, rfl⟩
      go_wp2_with fail
      refine (unveil DD _).mono ?_; rintro e w' ⟨rfl, n, rfl⟩
      go_wp2_with fail
      go_ret2
      exact ⟨rfl, n, rfl⟩
    · have hw' : decide (9223372036854775808 < rq a b c) = false := by simp; omega
      have hq2 : rq a b c ≤ 9223372036854775808 := by omega
      have A := veil (fun w => goesAway_any mode (rneg a b c) (rq a b c) (rr a b c) (absI c) hq0 hr0 hr1 (by omega) w)
      cases haw : away mode (rneg a b c) (rq a b c) (rr a b c) (absI c)
      · rw [haw] at A
        have S := veil (fun w => signed_any (rq a b c) (rneg a b c) hq0 hq1 w)
        have F := veil (show ratN a b c mode = sgn (rneg a b c) (rq a b c) by unfold ratN; rw [haw]; simp)
        clear haw hw
        go_enter Tryz.func120, Tryz.ntmps120
        go_wp2_with fail
        refine (sizeOf_any a ha _).mono ?_; rintro e w' ⟨rfl, rfl⟩
        go_wp2_with fail
        refine (sizeOf_any b hb _).mono ?_; rintro e w' ⟨rfl, rfl⟩
        go_wp2_with fail
        refine (mul64_any _ _ a1 (by omega) b1 (by omega) _).mono ?_; rintro e w' ⟨rfl, rfl⟩
        go_wp2_with fail
        refine (sizeOf_any c hc _).mono ?_; rintro e w' ⟨rfl, rfl⟩
        go_wp2_with fail
        refine (unveil DD _).mono ?_; rintro e w' ⟨rfl, n, rfl⟩
        go_wp2_with fail
        refine (unveil A _).mono ?_; rintro e w' ⟨rfl, rfl⟩
        go_wp2_with fail
        refine (unveil S _).mono ?_; rintro e w' ⟨rfl, rfl⟩
        go_wp2_with fail
        go_ret2
        exact ⟨ret_ii (by rw [unveil F]) (by rw [unveil F]), n, rfl⟩
      · rw [haw] at A
        have S := veil (fun w => signed_any (rq a b c + 1) (rneg a b c) (by omega) (by omega) w)
        have F := veil (show ratN a b c mode = sgn (rneg a b c) (rq a b c + 1) by unfold ratN; rw [haw]; simp)
        clear haw hw
        go_enter Tryz.func120, Tryz.ntmps120
        go_wp2_with fail
        refine (sizeOf_any a ha _).mono ?_; rintro e w' ⟨rfl, rfl⟩
        go_wp2_with fail
        refine (sizeOf_any b hb _).mono ?_; rintro e w' ⟨rfl, rfl⟩
        go_wp2_with fail
        refine (mul64_any _ _ a1 (by omega) b1 (by omega) _).mono ?_; rintro e w' ⟨rfl, rfl⟩
        go_wp2_with fail
        refine (sizeOf_any c hc _).mono ?_; rintro e w' ⟨rfl, rfl⟩
        go_wp2_with fail
        refine (unveil DD _).mono ?_; rintro e w' ⟨rfl, n, rfl⟩
        go_wp2_with fail
        refine (unveil A _).mono ?_; rintro e w' ⟨rfl, rfl⟩
        go_wp2_with fail
        refine (unveil S _).mono ?_; rintro e w' ⟨rfl, rfl⟩
        go_wp2_with fail
        go_ret2
        exact ⟨ret_ii (by rw [unveil F]) (by rw [unveil F]), n, rfl⟩

end Go.Proofs.YtpfjnnkjoabgbaaGreatDoor
