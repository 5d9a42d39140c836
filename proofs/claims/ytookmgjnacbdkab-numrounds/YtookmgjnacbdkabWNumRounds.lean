/-
  WALK: NumRounds.
-/
import Derived.Test.YtookmgjnacbdkabWRatio
import Derived.Test.YtookmgjnacbdkabWForms
import Derived.Deep.RegionHeld3
namespace Go.Proofs.Ytookmgjnacbdkab
open Go.RowKit
set_option linter.unusedVariables false

theorem absI_mulR (p q : Int) : absI (p * q) = absI p * absI q := by
  have h := sgn_mul p q
  have h0 := Int.mul_nonneg (absI_nonneg p) (absI_nonneg q)
  rw [← h]
  unfold sgn
  split
  · have e : absI (-(absI p * absI q)) = absI (absI p * absI q) := by generalize absI p * absI q = t; unfold absI; split <;> split <;> omega
    rw [e, absI_pos (by omega)]
  · rw [absI_pos (by omega)]
theorem sign_mulR (p q : Int) (h : ¬ p * q = 0) : (decide (p < 0) != decide (q < 0)) = decide (p * q < 0) := by
  have e := sgn_mul p q
  have h0 := Int.mul_nonneg (absI_nonneg p) (absI_nonneg q)
  show dif p q = _
  cases hd : dif p q
  · rw [hd] at e
    simp only [sgn] at e
    rw [← e]
    exact (decide_eq_false (by simpa using h0)).symm
  · rw [hd] at e
    simp only [sgn, if_true] at e
    exact (decide_eq_true (by omega)).symm
theorem tdiv_sgnR (a b : Int) : sgn (decide (a < 0) != decide (b < 0)) (absI a / absI b) = a.tdiv b := by
  by_cases h1 : a < 0
  · rw [absI_neg h1]
    have ea : a.tdiv b = -((-a).tdiv b) := by rw [← Int.neg_tdiv, Int.neg_neg]
    by_cases h2 : b < 0
    · rw [absI_neg h2, ea]
      have eb : (-a).tdiv b = -((-a).tdiv (-b)) := by rw [Int.tdiv_neg, Int.neg_neg]
      rw [eb, Int.neg_neg, Int.tdiv_eq_ediv_of_nonneg (by omega)]
      simp [sgn, h1, h2]
    · rw [absI_pos h2, ea, Int.tdiv_eq_ediv_of_nonneg (by omega)]
      simp [sgn, h1, h2]
  · rw [absI_pos h1]
    by_cases h2 : b < 0
    · rw [absI_neg h2]
      have eb : a.tdiv b = -(a.tdiv (-b)) := by rw [Int.tdiv_neg, Int.neg_neg]
      rw [eb, Int.tdiv_eq_ediv_of_nonneg (by omega)]
      simp [sgn, h1, h2]
    · rw [absI_pos h2, Int.tdiv_eq_ediv_of_nonneg (by omega)]
      simp [sgn, h1, h2]
def rndNR (p q mode : Int) : Int := sgn (decide (p < 0) != decide (q < 0)) (absI p / absI q + if away mode (decide (p < 0) != decide (q < 0)) (absI p / absI q) (absI p % absI q) (absI q) then 1 else 0)
theorem rndN_downR (a b : Int) : rndNR a b 0 = a.tdiv b := by
  rw [← tdiv_sgnR]
  unfold rndNR
  simp [away]

theorem ratN_rndR (a b c mode : Int) : rndNR (a * b) c mode = ratN a b c mode := by
  unfold rndNR ratN rq rr rneg
  rw [absI_mulR]
  by_cases h : a * b = 0
  · have h1 : absI a * absI b = 0 := by rw [← absI_mulR, h]; rfl
    rw [h1]; simp [away, sgn]
  · rw [← sign_mulR a b h]; rfl
theorem below_nqR {B : Nat} {a w : World} (h : Below B a w) (n : Nat) : Below B a (w.drewN n) := ⟨h.os, h.tape, h.output, h.size, h.block⟩

/-- What a call of Ratio tells. -/
def Tells (a b c m x f : Int) : Prop := ∀ w, Calls Try.prog 10 #[.int .i64 a, .int .i64 b, .int .i64 c, .int .i64 m] w fun e w' => e = .returned (.tuple #[.int .i64 x, .int .i64 f]) ∧ ∃ n, w' = w.drewN n

/-- The five roundings of one fraction. -/
def Five (v : Nat → Int) : Prop :=
  (v 2 = v 1 ∧ v 0 = v 1 ∧ v 3 = v 1 ∧ v 4 = v 1) ∨
  (v 2 = v 1 + 1 ∧ (v 0 = v 1 ∧ 0 ≤ v 1 ∨ v 0 = v 2 ∧ v 1 < 0) ∧ (v 3 = v 1 ∨ v 3 = v 2) ∧ (v 4 = v 1 ∨ v 4 = v 2) ∧ (v 3 = v 4 ∨ (v 4 % 2 = 0 ∧ v 3 = v 1 + v 2 - v 0)))
theorem five_ratN (a b c : Int) (hc : ¬ c = 0) : Five fun j => ratN a b c (j : Int) := by
  have hd := absI_zero hc
  have hr0 : 0 ≤ rr a b c := Int.emod_nonneg _ (by omega)
  have hq0 : 0 ≤ rq a b c := Int.ediv_nonneg (Int.mul_nonneg (absI_nonneg a) (absI_nonneg b)) (by omega)
  unfold Five ratN
  generalize rq a b c = Q at *
  generalize rr a b c = r at *
  generalize absI c = d at *
  by_cases hr : r = 0
  · left; simp [away, hr]
  · right
    cases rneg a b c
    · by_cases h1 : r = d - r
      · by_cases h2 : Q % 2 = 1
        · have e : (Q % 2 == 1) = true := by simp [h2]
          have e3 : d - r ≤ r := by omega
          simp [away, hr, sgn, ← h1, h2]; omega
        · have e : (Q % 2 == 1) = false := by simp [h2]
          simp [away, hr, sgn, ← h1, h2]; omega
      · by_cases h3 : d - r ≤ r
        · simp [away, hr, sgn, h1, h3]; omega
        · simp [away, hr, sgn, h1, h3]; omega
    · by_cases h1 : r = d - r
      · by_cases h2 : Q % 2 = 1
        · simp [away, hr, sgn, ← h1, h2]; omega
        · simp [away, hr, sgn, ← h1, h2]; omega
      · by_cases h3 : d - r ≤ r
        · simp [away, hr, sgn, h1, h3]; omega
        · simp [away, hr, sgn, h1, h3]; omega

/-- The two arrays, as far as they are filled. -/
structure RB (w wr : World) (k : Nat) (vf ff : Nat → Int) : Prop where
  size : w.heap.size + 1 < wr.heap.size
  bel : Below w.heap.size w wr
  vc : ∀ j, j < 5 → ∃ x, wr.cell? ⟨w.heap.size, j, none⟩ = some (.int .i64 x) ∧ (j < k → x = vf j)
  fc : ∀ j, j < 5 → ∃ x, wr.cell? ⟨w.heap.size + 1, j, none⟩ = some (.int .i64 x) ∧ (j < k → x = ff j)
  vz : ∀ j, wr.frozen? ⟨w.heap.size, j, none⟩ = false
  fz : ∀ j, wr.frozen? ⟨w.heap.size + 1, j, none⟩ = false
theorem RB.draws {w wr : World} {k : Nat} {vf ff : Nat → Int} (h : RB w wr k vf ff) (n : Nat) : RB w (wr.drewN n) k vf ff := ⟨h.size, below_nqR h.bel n, h.vc, h.fc, h.vz, h.fz⟩
theorem RB.step {w wr : World} {k : Nat} {vf ff : Nat → Int} (h : RB w wr k vf ff) (hk : k < 5) : RB w ((wr.setCell ⟨w.heap.size, k, none⟩ (.int .i64 (vf k))).setCell ⟨w.heap.size + 1, k, none⟩ (.int .i64 (ff k))) (k + 1) vf ff := by
  obtain ⟨size, bel, vc, fc, vz, fz⟩ := h
  refine ⟨by simpa using size, (bel.setCell (Nat.le_refl _) _).setCell (by simp) _, fun j hj => ?_, fun j hj => ?_, fun j => by simpa using vz j, fun j => by simpa using fz j⟩
  · rw [World.cell?_setCell_other _ _ _ _ (by simp)]
    by_cases e : j = k
    · subst e
      obtain ⟨x, hx, _⟩ := vc j hj
      exact ⟨vf j, World.cell?_setCell_same _ _ _ hx, fun _ => rfl⟩
    · obtain ⟨x, hx, h2⟩ := vc j hj
      refine ⟨x, ?_, fun hjk => h2 (by omega)⟩
      rw [World.cell?_setCell_other _ _ _ _ (by first | (simp; done) | (simp; omega))]; exact hx
  · by_cases e : j = k
    · subst e
      obtain ⟨x, hx, _⟩ := fc j hj
      refine ⟨ff j, World.cell?_setCell_same _ _ _ (u := .int .i64 x) ?_, fun _ => rfl⟩
      rw [World.cell?_setCell_other _ _ _ _ (by simp)]; exact hx
    · obtain ⟨x, hx, h2⟩ := fc j hj
      refine ⟨x, ?_, fun hjk => h2 (by omega)⟩
      rw [World.cell?_setCell_other _ _ _ _ (by first | (simp; done) | (simp; omega)), World.cell?_setCell_other _ _ _ _ (by simp)]; exact hx
theorem RB.v {w wr : World} {vf ff : Nat → Int} (h : RB w wr 5 vf ff) (j : Nat) (hj : j < 5) : wr.cell? ⟨w.heap.size, j, none⟩ = some (.int .i64 (vf j)) := by
  obtain ⟨x, hx, h2⟩ := h.vc j hj; rw [hx, h2 hj]
theorem RB.f {w wr : World} {vf ff : Nat → Int} (h : RB w wr 5 vf ff) (j : Nat) (hj : j < 5) : wr.cell? ⟨w.heap.size + 1, j, none⟩ = some (.int .i64 (ff j)) := by
  obtain ⟨x, hx, h2⟩ := h.fc j hj; rw [hx, h2 hj]

theorem ratN_one (a b : Int) : ratN a b 1 0 = a * b := by
  rw [← ratN_rndR, rndN_downR, Int.tdiv_one]
theorem ratN_div (a c : Int) : ratN a 1 c 0 = a.tdiv c := by
  rw [← ratN_rndR, rndN_downR, Int.mul_one]

theorem tmod2 {x : Int} (h : x % 2 = 0) : x.tmod 2 = 0 := Int.tmod_eq_zero_of_dvd (Int.dvd_of_emod_eq_zero h)
theorem five_congr {v u : Nat → Int} (h : ∀ j, j < 5 → v j = u j) (hu : Five u) : Five v := by
  unfold Five at *; rw [h 0 (by omega), h 1 (by omega), h 2 (by omega), h 3 (by omega), h 4 (by omega)]; exact hu

theorem RB.made (w : World) (vf ff : Nat → Int) : RB w ((w.alloc (.cells #[.int .i64 0, .int .i64 0, .int .i64 0, .int .i64 0, .int .i64 0] 27)).alloc (.cells #[.int .i64 0, .int .i64 0, .int .i64 0, .int .i64 0, .int .i64 0] 28)) 0 vf ff := by
  refine ⟨by simp, ((Below.refl _ _).alloc (Nat.le_refl _) _).alloc (by simp) _, fun j hj => ⟨0, ?_, fun h => by omega⟩, fun j hj => ⟨0, ?_, fun h => by omega⟩, fun j => by simp [go_sem], fun j => by simp [go_sem]⟩
  · match j, hj with
    | 0, _ => simp [go_sem]
    | 1, _ => simp [go_sem]
    | 2, _ => simp [go_sem]
    | 3, _ => simp [go_sem]
    | 4, _ => simp [go_sem]
  · match j, hj with
    | 0, _ => simp [go_sem]
    | 1, _ => simp [go_sem]
    | 2, _ => simp [go_sem]
    | 3, _ => simp [go_sem]
    | 4, _ => simp [go_sem]

set_option maxRecDepth 100000 in
set_option maxHeartbeats 3200000 in
theorem numRounds_main (a b c : Int) (ha : inR a) (hb : inR b) (hc : inR c) (h0 : ¬ c = 0) (w : World) (vf ff : Nat → Int) (hT : Hid (∀ k : Nat, Tells a b c k (vf k) (ff k))) (hF : Hid (∀ k, ff k = 0 ∨ ff k = 1)) (h5 : Hid ((∀ j, j < 5 → ff j = 0) → Five vf ∧ ∀ j, inR (vf j))) :
    Calls Try.prog 4 #[.int .i64 a, .int .i64 b, .int .i64 c] w fun e w' => e = .returned (.bool true) ∧ Below w.heap.size w w' := by
  have e0 : (c == 0) = false := by simp [h0]
  have M0 := veil (RB.made w vf ff)
  have H0 := veil h0
  have hone : inR 1 := by unfold inR; omega
  have RP := veil (fun w => ratio_any a b 1 0 ha hb hone (by omega) w)
  rw [ratN_one] at RP
  have RD := veil (fun w => ratio_any a 1 c 0 ha hone hc h0 w)
  rw [ratN_div] at RD
  have DV := veil (fun w => div_any a c ha w)
  unfold divV divF at DV
  rw [if_neg h0, if_neg h0] at DV
  clear h0
  go_enter Try.func4, Try.ntmps4
  go_wp2_with fail
  go_loopw [9] (fun i wr => ∃ k : Nat, k ≤ 5 ∧ i = .int .i64 k ∧ RB w wr k vf ff) (fun i _ => 5 - (intOf i).toNat)
  case atStart => exact ⟨0, by omega, rfl, unveil M0⟩
  case round =>
    obtain ⟨k, hk, rfl, rb⟩ := hrel
    have RR := veil rb
    by_cases hk5 : k < 5
    · clear rb
      go_wp2_with fail
      refine (unveil hT k _).mono ?_
      rintro e w3 ⟨rfl, n3, hw3⟩
      have R3 := veil (show RB w w3 k vf ff by rw [hw3]; exact (unveil RR).draws n3)
      obtain ⟨x1, c1, _⟩ := (unveil R3).vc k hk5
      obtain ⟨x2, c2, _⟩ := (unveil R3).fc k hk5
      have z1 := (unveil R3).vz k
      have z2 := (unveil R3).fz k
      have R4 := veil ((unveil R3).step hk5)
      clear hw3 R3 RR
      go_wp2_with (go_at_call 11; refine (has_keep _ _ _).mono ?_; rintro e w' ⟨rfl, rfl⟩)
      go_roundw
      case rel => exact ⟨k + 1, by omega, by go_num, unveil R4⟩
      case measure => simp [intOf]; omega
    · have hk5' : k = 5 := by omega
      subst hk5'
      clear rb
      go_wp2_with (go_at_call 11; refine (has_keep _ _ _).mono ?_; rintro e w' ⟨rfl, rfl⟩)
      refine (unveil RP _).mono ?_
      rintro e w3 ⟨rfl, n3, hw3⟩
      have R3 := veil (show RB w w3 5 vf ff by rw [hw3]; exact (unveil RR).draws n3)
      clear hw3 RR
      go_wp2_with (go_at_call 11; refine (has_keep _ _ _).mono ?_; rintro e w' ⟨rfl, rfl⟩)
      refine (mul_any a b ha hb w3).mono ?_
      rintro e w4 ⟨rfl, rfl⟩
      go_wp2_with (go_at_call 11; refine (has_keep _ _ _).mono ?_; rintro e w' ⟨rfl, rfl⟩)
      refine (unveil RD _).mono ?_
      rintro e w5 ⟨rfl, n5, hw5⟩
      have R5 := veil (show RB w w5 5 vf ff by rw [hw5]; exact (unveil R3).draws n5)
      clear hw5 R3
      go_wp2_with (go_at_call 11; refine (has_keep _ _ _).mono ?_; rintro e w' ⟨rfl, rfl⟩)
      refine (unveil DV _).mono ?_
      rintro e w6 ⟨rfl, hw6⟩
      subst hw6
      go_wp2_with (go_at_call 11; refine (has_keep _ _ _).mono ?_; rintro e w' ⟨rfl, rfl⟩)
      have hw6 := R5
      go_loopw [18] (fun i wr' => ∃ k : Nat, k ≤ 5 ∧ i = .int .i64 k ∧ wr' = w6 ∧ ∀ j, j < k → ff j = 0) (fun i _ => 5 - (intOf i).toNat)
      case atStart => exact ⟨0, by omega, rfl, rfl, fun j hj => by omega⟩
      case round =>
        obtain ⟨k, hk', rfl, rfl, hz⟩ := hrel
        have HZ := veil hz
        clear hz
        by_cases hk5 : k < 5
        · have cf := (unveil R5).f k hk5
          rcases unveil hF k with hf | hf
          · rw [hf] at cf
            have HF := veil hf
            clear hf
            go_wp2_with (go_at_call 11; refine (has_keep _ _ _).mono ?_; rintro e w' ⟨rfl, rfl⟩)
            go_roundw
            case rel => exact ⟨k + 1, by omega, by go_num, trivial, fun j hj => by
              by_cases e : j = k
              · subst e; exact unveil HF
              · exact unveil HZ j (by omega)⟩
            case measure => simp [intOf]; omega
          · rw [hf] at cf
            clear hf
            go_wp2_with (go_at_call 11; refine (has_keep _ _ _).mono ?_; rintro e w' ⟨rfl, rfl⟩)
            go_ret
            exact ⟨rfl, (unveil R5).bel⟩
        · have hk5' : k = 5 := by omega
          subst hk5'
          obtain ⟨F5, hin⟩ := unveil h5 (unveil HZ)
          have VC := veil (fun j hj => (unveil R5).v j hj)
          have c0 := unveil VC 0 (by omega)
          have c1 := unveil VC 1 (by omega)
          have c2 := unveil VC 2 (by omega)
          have c3 := unveil VC 3 (by omega)
          have c4 := unveil VC 4 (by omega)
          have i1 := hin 1
          have i2 := hin 2
          unfold inR at i1 i2
          rcases F5 with ⟨e2, e0', e3, e4⟩ | ⟨e2, h0', h3, h4, h34⟩
          · have VX := veil (show ∀ j, j < 5 → vf j = vf 1 from fun j hj => by
              match j, hj with
              | 0, _ => exact e0'
              | 1, _ => rfl
              | 2, _ => exact e2
              | 3, _ => exact e3
              | 4, _ => exact e4)
            rw [e0'] at c0
            rw [e2] at c2 i2
            rw [e3] at c3
            rw [e4] at c4
            clear e0' e2 e3 e4 hin
            obtain ⟨x, hx⟩ : ∃ x, vf 1 = x := ⟨_, rfl⟩
            rw [hx] at c0 c1 c2 c3 c4 i1 i2 VX
            clear hx
            go_wp2_with fail
            go_loopw [21] (fun i wr' => ∃ k : Nat, k ≤ 5 ∧ i = .int .i64 k ∧ wr' = wr) (fun i _ => 5 - (intOf i).toNat)
            case atStart => exact ⟨0, by omega, rfl, rfl⟩
            case round =>
              obtain ⟨k, hk', rfl, rfl⟩ := hrel
              by_cases hk5 : k < 5
              · have cv := unveil VC k hk5
                rw [unveil VX k hk5] at cv
                go_wp2_with fail
                go_roundw
                case rel => exact ⟨k + 1, by omega, by go_num, trivial⟩
                case measure => simp [intOf]; omega
              · have hk5' : k = 5 := by omega
                subst hk5'
                go_wp2_with fail
                go_ret
                exact ⟨rfl, (unveil R5).bel⟩
          · have VX := veil (show ∀ j, j < 5 → vf j = vf 1 ∨ vf j = vf 1 + 1 from fun j hj => by
              match j, hj with
              | 0, _ => omega
              | 1, _ => omega
              | 2, _ => omega
              | 3, _ => omega
              | 4, _ => omega)
            rw [e2] at c2 i2 h0' h3 h4 h34
            obtain ⟨x, hx⟩ : ∃ x, vf 1 = x := ⟨_, rfl⟩
            obtain ⟨y0, hy0⟩ : ∃ x, vf 0 = x := ⟨_, rfl⟩
            obtain ⟨y3, hy3⟩ : ∃ x, vf 3 = x := ⟨_, rfl⟩
            obtain ⟨y4, hy4⟩ : ∃ x, vf 4 = x := ⟨_, rfl⟩
            rw [hx] at c1 c2 i1 i2 VX h0' h3 h4 h34
            rw [hy0] at c0 h0' h34
            rw [hy3] at c3 h3 h34
            rw [hy4] at c4 h4 h34
            clear hx hy0 hy3 hy4 e2 hin
            have H := veil (And.intro h0' (And.intro h3 (And.intro h4 h34)))
            clear h0' h3 h4 h34
            have x1 : (x + 1 == x) = false := by simp; omega
            have x2 : (x == x + 1) = false := by simp; omega
            go_wp2_with fail
            go_loopw [21] (fun i wr' => ∃ k : Nat, k ≤ 5 ∧ i = .int .i64 k ∧ wr' = wr) (fun i _ => 5 - (intOf i).toNat)
            case atStart => exact ⟨0, by omega, rfl, rfl⟩
            case round =>
              obtain ⟨k, hk', rfl, rfl⟩ := hrel
              by_cases hk5 : k < 5
              · have cv := unveil VC k hk5
                rcases unveil VX k hk5 with e | e
                · rw [e] at cv
                  clear e
                  go_wp2_with fail
                  go_roundw
                  case rel => exact ⟨k + 1, by omega, by go_num, trivial⟩
                  case measure => simp [intOf]; omega
                · rw [e] at cv
                  clear e
                  go_wp2_with fail
                  go_roundw
                  case rel => exact ⟨k + 1, by omega, by go_num, trivial⟩
                  case measure => simp [intOf]; omega
              · have hk5' : k = 5 := by omega
                subst hk5'
                obtain ⟨h0', h3, h4, h34⟩ := unveil H
                rcases h0' with ⟨rfl, hs⟩ | ⟨rfl, hs⟩
                · have d0 : decide (y0 < 0) = false := by simp; omega
                  by_cases h34' : y3 = y4
                  · subst h34'
                    clear h3 h4 h34
                    go_wp2_with fail
                    go_ret
                    exact ⟨rfl, (unveil R5).bel⟩
                  · have e3 : y3 = y0 + 1 := by omega
                    have e4 : y4 = y0 := by omega
                    have hm : y0 % 2 = 0 := by omega
                    have ht : y0.tmod 2 = 0 := tmod2 hm
                    have hq : (y0 + 1 == wrap64 (wrap64 (y0 + (y0 + 1)) - y0)) = true := by simp [wrap64]; omega
                    subst e3 e4
                    clear h3 h4 h34 h34' hm
                    go_wp2_with fail
                    go_ret
                    exact ⟨rfl, (unveil R5).bel⟩
                · have d0 : decide (x < 0) = true := by simp; omega
                  by_cases h34' : y3 = y4
                  · subst h34'
                    clear h3 h4 h34
                    go_wp2_with fail
                    go_ret
                    exact ⟨rfl, (unveil R5).bel⟩
                  · have e3 : y3 = x := by omega
                    have e4 : y4 = x + 1 := by omega
                    have hm : (x + 1) % 2 = 0 := by omega
                    have ht : (x + 1).tmod 2 = 0 := tmod2 hm
                    have hq : (x == wrap64 (wrap64 (x + (x + 1)) - (x + 1))) = true := by simp [wrap64]; omega
                    subst e3 e4
                    clear h3 h4 h34 h34' hm
                    go_wp2_with fail
                    go_ret
                    exact ⟨rfl, (unveil R5).bel⟩

set_option maxRecDepth 100000 in
set_option maxHeartbeats 3200000 in
theorem numRounds_zero (a b : Int) (ha : inR a) (hb : inR b) (w : World) :
    Calls Try.prog 4 #[.int .i64 a, .int .i64 b, .int .i64 0] w fun e w' => e = .returned (.bool true) ∧ Below w.heap.size w w' := by
  have M0 := veil (RB.made w (fun _ => 0) (fun _ => 2))
  have hone : inR 1 := by unfold inR; omega
  have RP := veil (fun w => ratio_any a b 1 0 ha hb hone (by omega) w)
  rw [ratN_one] at RP
  have DV := veil (fun w => div_any a 0 ha w)
  unfold divV divF at DV
  rw [if_pos rfl, if_pos rfl] at DV
  go_enter Try.func4, Try.ntmps4
  go_wp2_with fail
  go_loopw [9] (fun i wr => ∃ k : Nat, k ≤ 5 ∧ i = .int .i64 k ∧ RB w wr k (fun _ => 0) (fun _ => 2)) (fun i _ => 5 - (intOf i).toNat)
  case atStart => exact ⟨0, by omega, rfl, unveil M0⟩
  case round =>
    obtain ⟨k, hk, rfl, rb⟩ := hrel
    have RR := veil rb
    by_cases hk5 : k < 5
    · clear rb
      go_wp2_with fail
      refine (ratio_zero _ _ _ _).mono ?_
      rintro e w3 ⟨rfl, hw3⟩
      subst hw3
      obtain ⟨x1, c1, _⟩ := (unveil RR).vc k hk5
      obtain ⟨x2, c2, _⟩ := (unveil RR).fc k hk5
      have z1 := (unveil RR).vz k
      have z2 := (unveil RR).fz k
      have R4 := veil ((unveil RR).step hk5)
      obtain ⟨y1, d1, ey1⟩ := (unveil R4).vc k hk5
      obtain ⟨y2, d2, ey2⟩ := (unveil R4).fc k hk5
      rw [ey1 (by omega)] at d1
      rw [ey2 (by omega)] at d2
      clear RR ey1 ey2
      go_wp2_with (go_at_call 11; refine (has_keep _ _ _).mono ?_; rintro e w' ⟨rfl, rfl⟩)
      go_roundw
      case rel => exact ⟨k + 1, by omega, by go_num, unveil R4⟩
      case measure => simp [intOf]; omega
    · have hk5' : k = 5 := by omega
      subst hk5'
      clear rb
      go_wp2_with (go_at_call 11; refine (has_keep _ _ _).mono ?_; rintro e w' ⟨rfl, rfl⟩)
      refine (unveil RP _).mono ?_
      rintro e w3 ⟨rfl, n3, hw3⟩
      have R3 := veil (show RB w w3 5 (fun _ => 0) (fun _ => 2) by rw [hw3]; exact (unveil RR).draws n3)
      clear hw3 RR
      go_wp2_with (go_at_call 11; refine (has_keep _ _ _).mono ?_; rintro e w' ⟨rfl, rfl⟩)
      refine (mul_any a b ha hb w3).mono ?_
      rintro e w4 ⟨rfl, rfl⟩
      go_wp2_with (go_at_call 11; refine (has_keep _ _ _).mono ?_; rintro e w' ⟨rfl, rfl⟩)
      refine (ratio_zero _ _ _ _).mono ?_
      rintro e w5 ⟨rfl, hw5⟩
      subst hw5
      go_wp2_with (go_at_call 11; refine (has_keep _ _ _).mono ?_; rintro e w' ⟨rfl, rfl⟩)
      refine (unveil DV _).mono ?_
      rintro e w6 ⟨rfl, hw6⟩
      subst hw6
      have cf := (unveil R3).f 0 (by omega)
      go_wp2_with (go_at_call 11; refine (has_keep _ _ _).mono ?_; rintro e w' ⟨rfl, rfl⟩)
      go_loopw [18] (fun i wr' => i = .int .i64 0 ∧ RB w wr' 5 (fun _ => 0) (fun _ => 2)) (fun i _ => 0)
      case atStart => exact ⟨rfl, unveil R3⟩
      case round =>
        obtain ⟨rfl, rb⟩ := hrel
        have cf := rb.f 0 (by omega)
        have RB5 := veil rb
        clear rb
        go_wp2_with (go_at_call 11; refine (has_keep _ _ _).mono ?_; rintro e w' ⟨rfl, rfl⟩)
        go_ret
        exact ⟨rfl, (unveil RB5).bel⟩

theorem numRounds_walk (a b c : Int) (ha : inR a) (hb : inR b) (hc : inR c) (w : World) :
    Calls Try.prog 4 #[.int .i64 a, .int .i64 b, .int .i64 c] w fun e w' => e = .returned (.bool true) ∧ Below w.heap.size w w' := by
  by_cases h0 : c = 0
  · subst h0; exact numRounds_zero a b ha hb w
  · refine numRounds_main a b c ha hb hc h0 w (fun k => fitV (ratN a b c (k : Int))) (fun k => fitF (ratN a b c (k : Int))) (veil ?_) (veil ?_) (veil ?_)
    · intro k w
      exact ratio_any a b c k ha hb hc h0 w
    · intro k
      have := fitF_bd (ratN a b c (k : Int))
      show fitF (ratN a b c (k : Int)) = 0 ∨ fitF (ratN a b c (k : Int)) = 1
      omega
    · intro hz
      refine ⟨five_congr (fun j hj => ?_) (five_ratN a b c h0), fun j => fitV_bd _⟩
      by_cases hi : inR (ratN a b c (j : Int))
      · exact fitV_in hi
      · have h1 := hz j hj
        simp only [fitF_out hi] at h1
        omega

end Go.Proofs.Ytookmgjnacbdkab
