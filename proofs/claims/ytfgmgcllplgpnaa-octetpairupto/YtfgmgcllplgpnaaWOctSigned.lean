/-
  WALK: OctetSigned.
-/
import Derived.Test.YtfgmgcllplgpnaaWOct5
namespace Go.Proofs.Ytfgmgcllplgpnaa
open Go.RowKit
set_option linter.unusedVariables false
set_option linter.unusedSimpArgs false

theorem vl_twin (y : Nat) : (vl (2 * y)).length = (vl (2 * y + 1)).length := by
  by_cases h : y < 64
  · rw [vl_one (by omega), vl_one (by omega)]; rfl
  · rw [vl_more (x := 2 * y) (by omega), vl_more (x := 2 * y + 1) (by omega), show 2 * y / 128 = (2 * y + 1) / 128 by omega]; rfl
theorem vl_head (x : Nat) : ∃ c t, vl x = c :: t ∧ c % 2 = (x : Int) % 2 := by
  by_cases h : x < 128
  · exact ⟨_, _, vl_one h, rfl⟩
  · exact ⟨_, _, vl_more (by omega), by omega⟩
theorem zz_twin (x : Int) : (vl (zz x)).length = (vl (zz (-1 - x))).length := by
  by_cases h : x < 0
  · have e1 : zz x = 2 * (-x - 1).toNat + 1 := by unfold zz; rw [if_pos h]; omega
    have e2 : zz (-1 - x) = 2 * (-x - 1).toNat := by unfold zz; rw [if_neg (by omega)]; omega
    rw [e1, e2, vl_twin]
  · have e1 : zz x = 2 * x.toNat := by unfold zz; rw [if_neg h]; omega
    have e2 : zz (-1 - x) = 2 * x.toNat + 1 := by unfold zz; rw [if_pos (by omega)]; omega
    rw [e1, e2, vl_twin]
theorem zz_odd (x : Int) : (zz x : Int) % 2 ≠ (zz (-1 - x) : Int) % 2 := by
  unfold zz
  by_cases h : x < 0
  · rw [if_pos h, if_neg (by omega)]; omega
  · rw [if_neg h, if_pos (by omega)]; omega
/-- A row of one byte or more: where it lies, and its first byte. -/
theorem own_first {w : World} {B : Nat} {v : Value} {n : Nat} {c : Int} {t : List Int} (h : Own w B v n (c :: t)) : ∃ g cap, v = .slice (some ⟨g, 0, none⟩) n cap ∧ w.cell? ⟨g, 0, none⟩ = some (.int .u8 c) := by
  have h1 := h.1
  rw [bcs_len] at h1
  rcases h.2 with ⟨rfl, h0⟩ | ⟨g, cap, cur, rfl, _⟩
  · subst h0; simp at h1
  · refine ⟨g, cap, rfl, ?_⟩
    rw [h.cellAt 0 (by simp at h1; omega)]
    rfl
/-- An own row as a list where the world holds it. -/
theorem own_bl {w : World} {B : Nat} {a : Option Addr} {n cap : Nat} {xs : List Int} (h : Own w B (.slice a n cap) n xs) (hb : ∀ c ∈ xs, 0 ≤ c ∧ c ≤ 255) (hn : n ≤ 140737488355328) : BL w a n xs ∧ (a = none → n = 0) ∧ n ≤ cap := by
  have hl : xs.length = n := by have := h.1; rw [bcs_len] at this; omega
  rcases h.2 with ⟨e, h0⟩ | ⟨g, c, cur, e, _, hg, hnc, _⟩
  · injection e with e1 e2 e3
    subst e1
    exact ⟨⟨hl, hn, hb, .inl h0⟩, fun _ => h0, by omega⟩
  · injection e with e1 e2 e3
    subst e1 e3
    refine ⟨⟨hl, hn, hb, .inr ⟨g, 0, rfl, (Array.getElem?_eq_some_iff.1 hg).1, fun i hi => ?_⟩⟩, (fun e => by cases e), hnc⟩
    rw [Nat.zero_add, h.cellAt i (by omega)]
    have : i < xs.length := by omega
    simp [bcs, List.getD, this]
theorem below_drewN {B : Nat} {a w : World} (h : Below B a w) (n : Nat) : Below B a (w.drewN n) := ⟨h.os, h.tape, h.output, h.size, h.block⟩
theorem own_nil (w : World) (B : Nat) : Own w B (.slice none 0 0) 0 [] := ⟨rfl, .inl ⟨rfl, rfl⟩⟩
theorem own_later {w w' : World} {B : Nat} {v : Value} {n : Nat} {xs : List Int} (h : Own w B v n xs) (g : w.grownBy w' none) : Own w' B v n xs := h.kept g (by cases v.ownBlock <;> simp)
theorem uR_vl (x : Nat) (h : x < 18446744073709551616) (lim : Nat) (hl : x ≤ lim) : uR (vl x) lim = (x, 0, (vl x).length) := by
  unfold uR; rw [rd_vl' x h]; simp; omega

set_option maxRecDepth 100000 in
set_option maxHeartbeats 4000000 in
theorem octetSigned_any (x : Int) (w : World) (hx : -9223372036854775808 ≤ x ∧ x ≤ 9223372036854775807) :
    Calls Try.prog 4 #[.int .i64 x] w fun e w' => e = .returned (.bool true) ∧ Below w.heap.size w w' := by
  have K1 := Lib.hid (appendInt_any (.slice none 0 0) w.heap.size 0 [] x w (own_nil _ _) (by omega) (Nat.le_refl _) hx)
  have K2 := Lib.hid (fun W (q : w.heap.size ≤ W.heap.size) => appendInt_any (.slice none 0 0) w.heap.size 0 [] (-1 - x) W (own_nil _ _) (by omega) q (by omega))
  have KN := Lib.hid (fun a cap W (q : BL W a (vl (zz x)).length (vl (zz x))) (q0 : a = none → (vl (zz x)).length = 0) => newReader_any a (vl (zz x)).length cap (vl (zz x)) W q q0)
  have KI := Lib.hid (fun B p a cap W (q : RB W B p a (vl (zz x)).length cap (vl (zz x)) 0) => int_any B p a (vl (zz x)).length cap (vl (zz x)) 0 W q)
  have KL := Lib.hid (fun B p a cap k W (q : RB W B p a (vl (zz x)).length cap (vl (zz x)) k) => left_any B p a (vl (zz x)).length cap (vl (zz x)) k W q)
  have hb := vl_byte (zz x)
  have hl := vl_len10 (zz_lt hx)
  have tw := zz_twin x
  have od := zz_odd x
  obtain ⟨c1, t1, e1, p1⟩ := vl_head (zz x)
  obtain ⟨c2, t2, e2, p2⟩ := vl_head (zz (-1 - x))
  have b1 := vl_byte (zz x) c1 (by rw [e1]; simp)
  have b2 := vl_byte (zz (-1 - x)) c2 (by rw [e2]; simp)
  have U := uR_vl (zz x) (zz_lt hx) 18446744073709551615 (by have := zz_lt hx; omega)
  rw [List.drop_zero, U] at KI
  simp only [uz_zz, Nat.zero_add, List.nil_append] at KI K1 K2
  rw [← p1, ← p2] at od
  rw [← tw] at K2
  have hp := vl_pos (zz x)
  have sx : IntKind.i64.wrap (-1 - x) = -1 - x := by simp [IntKind.wrap, IntKind.bits, IntKind.signed]; omega
  have HB := Lib.hid hb
  have E1 := Lib.hid e1
  have E2 := Lib.hid e2
  generalize (vl (zz x)).length = m at *
  generalize vl (zz x) = xs at *
  generalize vl (zz (-1 - x)) = ys at *
  have od' : (c1 % 2 == c2 % 2) = false := by simpa using od
  have od2 : (Int.tmod c1 2 == Int.tmod c2 2) = false := by rw [Int.tmod_eq_emod_of_nonneg b1.1, Int.tmod_eq_emod_of_nonneg b2.1]; exact od'
  have m1 : ¬ (10 : Int) < (m : Int) := by omega
  have m2 : ¬ (m : Int) < 1 := by omega
  have m3 : decide ((10 : Int) < (m : Int)) = false := decide_eq_false m1
  have m4 : decide ((m : Int) < 1) = false := decide_eq_false m2
  have m5 : 0 < m := by omega
  clear hb e1 e2 p1 p2 tw U od
  go_enter Try.func4, Try.ntmps4
  go_wp2_with (first
    | (go_at_call 15; have qq := O1; refine (K2.out _ S1.out).mono ?_; rintro e w2 ⟨v2, rfl, h2⟩; have B2 := Lib.hid (B1.out.trans (h2.below S1.out)); have O2 := Lib.hid h2.own; have P1 := Lib.hid (own_later O1.out h2.grown); have O2' := h2.own; rw [E2.out] at O2'; obtain ⟨g2, cap2, rfl, cc2⟩ := own_first O2'; have P1' := P1.out; rw [E1.out] at P1'; obtain ⟨g1', cap1', q1, cc1⟩ := own_first P1'; injection q1 with q1 _ q2; injection q1 with q1; injection q1 with q1; subst q1 q2; clear h2 O2' P1')
    | (go_at_call 15; refine K1.out.mono ?_; rintro e w1 ⟨v1, rfl, h1⟩; have B1 := Lib.hid (h1.below (Nat.le_refl _)); have S1 := Lib.hid h1.grown.size; have O1 := Lib.hid h1.own; have O1' := h1.own; rw [E1.out] at O1'; obtain ⟨g1, cap1, rfl, _⟩ := own_first O1'; clear h1 O1'))
  go_quiet (fail)
  go_wp2_with (first
    | (go_at_call 10; refine (KN.out _ _ _ (own_bl (own_later P1.out (gr_drewN (gr_refl none _) _)) HB.out (by omega)).1 (fun e => by cases e)).mono ?_; rintro e w3 ⟨p, a3, cap3, rfl, h3, h4⟩; have R3 := Lib.hid h3; have B3 := Lib.hid (show Below w.heap.size w w3 from (below_drewN B2.out nq).trans (h4.mono (below_drewN B2.out nq).size)); clear h3 h4)
    | (go_at_call 16; refine (KI.out _ _ _ _ _ R3.out).mono ?_; rintro e w4 ⟨rfl, h3, h4⟩; have R4 := Lib.hid h3; have B4 := Lib.hid (B3.out.trans (gr_out h4 (Nat.le_trans (below_drewN B2.out nq).size R3.out.base) B3.out.size)); clear h3 h4)
    | (go_at_call 17; refine (KL.out _ _ _ _ _ _ R4.out).mono ?_; rintro e w5 ⟨rfl, h3⟩; have B5 := Lib.hid (B4.out.trans ((Below.refl _ _).grown h3 B4.out.size (fun k e => by cases e))); clear h3))
  go_ret
  exact ⟨by first | rfl | simp, B5.out⟩
end Go.Proofs.Ytfgmgcllplgpnaa
