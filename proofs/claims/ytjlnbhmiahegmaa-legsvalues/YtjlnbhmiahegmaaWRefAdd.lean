/-
  WALKS: the document's answer (payoffref01): Plus for every two numbers; Add, Sub, Neg, Abs.
-/
import Derived.Test.YtjlnbhmiahegmaaWRefBig
namespace Go.Proofs.Ytjlnbhmiahegmaa
open Go.RowKit
set_option linter.unusedVariables false

theorem norm_le_len {a b : List Int} (hb : Digs b) (ha : Digs a) (na : Norm a) (h : dval a ≤ dval b) : a.length ≤ b.length := by
  refine Nat.le_of_not_lt fun hc => ?_
  have := norm_longer ha na hb hc
  omega

theorem agg_snd {a b x y : Value} (h : Value.agg #[a, x] = .agg #[b, y]) : x = y := by
  injection h with h
  have := congrArg (fun l : Array Value => l.toList) h
  simp at this
  exact this.2

theorem plusB_any (x y : Value) (p q : Int) (w : World) (hx : BigR w x p) (hy : BigR w y q) (bp : absI p < ten 100) (bq : absI q < ten 100) :
    Calls Try.prog 59 #[x, y] w fun e w' => ∃ z, e = .returned z ∧ Below w.heap.size w w' ∧ BigR w' z (p + q) ∧ ∀ ng o, z = .agg #[.bool ng, o] → Fresh w.heap.size o := by
  obtain ⟨o1, rfl, a, da, na, va⟩ := hx
  obtain ⟨o2, rfl, b, db, nb, vb⟩ := hy
  obtain ⟨_, _, oa, ca, rfl, _⟩ := id da
  obtain ⟨_, _, ob, cb, rfl, _⟩ := id db
  have la := norm_len da.1 na (k := 100) (by omega)
  have lb := norm_len db.1 nb (k := 100) (by omega)
  by_cases hp : p < 0
  · rw [decide_eq_true hp]
    rw [absI_neg hp] at va
    by_cases hq : q < 0
    · rw [decide_eq_true hq]
      rw [absI_neg hq] at vb
      refine (plusB_same true oa ob ca cb a b w da db (by omega) (by omega)).mono ?_
      rintro e w' ⟨v, ds, rfl, hbel, hd, hv, hn, hfr⟩
      exact ⟨_, rfl, hbel, bigR_sign hd hn (by rw [hv, absI_neg (by omega)]; omega) (fun _ => (decide_eq_true (by omega)).symm), fun ng o e => by rw [← agg_snd e]; exact hfr⟩
    · rw [decide_eq_false hq]
      rw [absI_pos hq] at vb
      by_cases h : dval a < dval b
      · refine (plusB_up_true oa ob ca cb a b w da db na nb h (norm_le_len db.1 da.1 na (by omega)) (by omega) (by omega)).mono ?_
        rintro e w' ⟨v, ds, rfl, hbel, hd, hv, hn, hfr⟩
        exact ⟨_, rfl, hbel, bigR_sign hd hn (by rw [hv, absI_pos (by omega)]; omega) (fun _ => (decide_eq_false (by omega)).symm), fun ng o e => by rw [← agg_snd e]; exact hfr⟩
      · refine (plusB_down_true oa ob ca cb a b w da db na nb (by omega) (norm_le_len da.1 db.1 nb (by omega)) (by omega) (by omega)).mono ?_
        rintro e w' ⟨v, ds, rfl, hbel, hd, hv, hn, hfr⟩
        exact ⟨_, rfl, hbel, bigR_sign hd hn (by rw [hv]; unfold absI; split <;> omega) (fun _ => (decide_eq_true (by omega)).symm), fun ng o e => by rw [← agg_snd e]; exact hfr⟩
  · rw [decide_eq_false hp]
    rw [absI_pos hp] at va
    by_cases hq : q < 0
    · rw [decide_eq_true hq]
      rw [absI_neg hq] at vb
      by_cases h : dval a < dval b
      · refine (plusB_up_false oa ob ca cb a b w da db na nb h (norm_le_len db.1 da.1 na (by omega)) (by omega) (by omega)).mono ?_
        rintro e w' ⟨v, ds, rfl, hbel, hd, hv, hn, hfr⟩
        exact ⟨_, rfl, hbel, bigR_sign hd hn (by rw [hv, absI_neg (by omega)]; omega) (fun _ => (decide_eq_true (by omega)).symm), fun ng o e => by rw [← agg_snd e]; exact hfr⟩
      · refine (plusB_down_false oa ob ca cb a b w da db na nb (by omega) (norm_le_len da.1 db.1 nb (by omega)) (by omega) (by omega)).mono ?_
        rintro e w' ⟨v, ds, rfl, hbel, hd, hv, hn, hfr⟩
        exact ⟨_, rfl, hbel, bigR_sign hd hn (by rw [hv]; unfold absI; split <;> omega) (fun _ => (decide_eq_false (by omega)).symm), fun ng o e => by rw [← agg_snd e]; exact hfr⟩
    · rw [decide_eq_false hq]
      rw [absI_pos hq] at vb
      refine (plusB_same false oa ob ca cb a b w da db (by omega) (by omega)).mono ?_
      rintro e w' ⟨v, ds, rfl, hbel, hd, hv, hn, hfr⟩
      exact ⟨_, rfl, hbel, bigR_sign hd hn (by rw [hv, absI_pos (by omega)]; omega) (fun _ => (decide_eq_false (by omega)).symm), fun ng o e => by rw [← agg_snd e]; exact hfr⟩

theorem ten100 (z : Int) (h : inR z) : absI z < ten 100 := by
  have h1 := (absI_bd z h).2
  have h2 := ten_le (show 19 ≤ 100 by omega)
  rw [ten19] at h2
  omega

theorem refAdd_any (a b : Int) (ha : inR a) (hb : inR b) (w : World) :
    Calls Try.prog 40 #[.int .i64 a, .int .i64 b] w fun e w' => e = .returned (.tuple #[.int .i64 (fitV (a + b)), .int .i64 (fitF (a + b))]) ∧ Below w.heap.size w w' := by
  go_enter Try.func40, Try.ntmps40
  go_wp2_with fail
  refine (from_any a ha _).mono ?_
  rintro e w1 ⟨x, rfl, hb1, hx⟩
  obtain ⟨o, rfl, hx'⟩ := id hx
  go_wp2_with fail
  refine (from_any b hb _).mono ?_
  rintro e w2 ⟨y, rfl, hb2, hy⟩
  obtain ⟨o2, rfl, hy'⟩ := id hy
  go_wp2_with fail
  refine (plusB_any _ _ a b w2 (hx.later hb2) hy (ten100 a ha) (ten100 b hb)).mono ?_
  rintro e w3 ⟨z, rfl, hb3, hz, _⟩
  go_wp2_with fail
  refine (out_any _ _ w3 hz).mono ?_
  rintro e w4 ⟨rfl, hb4⟩
  go_wp2_with fail
  go_ret2
  exact ⟨rfl, chain (chain (chain hb1 (Nat.le_refl _) hb2) (Nat.le_refl _) hb3) (Nat.le_refl _) hb4⟩

theorem refSub_any (a b : Int) (ha : inR a) (hb : inR b) (w : World) :
    Calls Try.prog 41 #[.int .i64 a, .int .i64 b] w fun e w' => e = .returned (.tuple #[.int .i64 (fitV (a - b)), .int .i64 (fitF (a - b))]) ∧ Below w.heap.size w w' := by
  go_enter Try.func41, Try.ntmps41
  go_wp2_with fail
  refine (from_any a ha _).mono ?_
  rintro e w1 ⟨x, rfl, hb1, hx⟩
  obtain ⟨o, rfl, hx'⟩ := id hx
  go_wp2_with fail
  refine (from_any b hb _).mono ?_
  rintro e w2 ⟨y, rfl, hb2, hy⟩
  obtain ⟨o2, rfl, hy'⟩ := id hy
  go_wp2_with fail
  refine (minusB_any _ b w2 hy).mono ?_
  rintro e w3 ⟨y2, rfl, hb3, hy2⟩
  go_wp2_with fail
  refine (plusB_any _ _ a (-b) w3 ((hx.later hb2).later hb3) hy2 (ten100 a ha) (by rw [absI_opp]; exact ten100 b hb)).mono ?_
  rintro e w4 ⟨z, rfl, hb4, hz, _⟩
  go_wp2_with fail
  refine (out_any _ _ w4 hz).mono ?_
  rintro e w5 ⟨rfl, hb5⟩
  go_wp2_with fail
  go_ret2
  exact ⟨ret_ii (by rw [Int.sub_eq_add_neg]) (by rw [Int.sub_eq_add_neg]), chain (chain (chain (chain hb1 (Nat.le_refl _) hb2) (Nat.le_refl _) hb3) (Nat.le_refl _) hb4) (Nat.le_refl _) hb5⟩

theorem refNeg_any (a : Int) (ha : inR a) (w : World) :
    Calls Try.prog 38 #[.int .i64 a] w fun e w' => e = .returned (.tuple #[.int .i64 (fitV (-a)), .int .i64 (fitF (-a))]) ∧ Below w.heap.size w w' := by
  go_enter Try.func38, Try.ntmps38
  go_wp2_with fail
  refine (from_any a ha _).mono ?_
  rintro e w1 ⟨x, rfl, hb1, hx⟩
  obtain ⟨o, rfl, hx'⟩ := id hx
  go_wp2_with fail
  refine (minusB_any _ a w1 hx).mono ?_
  rintro e w2 ⟨y, rfl, hb2, hy⟩
  go_wp2_with fail
  refine (out_any _ _ w2 hy).mono ?_
  rintro e w3 ⟨rfl, hb3⟩
  go_wp2_with fail
  go_ret2
  exact ⟨rfl, chain (chain hb1 (Nat.le_refl _) hb2) (Nat.le_refl _) hb3⟩

theorem refAbs_any (a : Int) (ha : inR a) (w : World) :
    Calls Try.prog 39 #[.int .i64 a] w fun e w' => e = .returned (.tuple #[.int .i64 (fitV (absI a)), .int .i64 (fitF (absI a))]) ∧ Below w.heap.size w w' := by
  have hfD := field_D
  go_enter Try.func39, Try.ntmps39
  go_wp2_with fail
  refine (from_any a ha _).mono ?_
  rintro e w1 ⟨x, rfl, hb1, o, rfl, ds, hd, hn, hv⟩
  obtain ⟨_, _, oa, ca, rfl, _⟩ := id hd
  go_wp2_with fail
  have hB : BigR w1 (.agg #[.bool false, .slice oa ds.length ca]) (absI a) := by
    have e : absI (absI a) = absI a := absI_pos (a := absI a) (by have := absI_nonneg a; omega)
    refine ⟨_, ?_, ds, hd, hn, hv.trans e.symm⟩
    rw [decide_eq_false (by have := absI_nonneg a; omega)]
  refine (out_any _ _ w1 hB).mono ?_
  rintro e w2 ⟨rfl, hb2⟩
  go_wp2_with fail
  go_ret2
  exact ⟨rfl, chain hb1 (Nat.le_refl _) hb2⟩

end Go.Proofs.Ytjlnbhmiahegmaa
