/-
  THE STATEMENT CodeParts.
-/
import Derived.Test.YtklbbfmpgijhbaaDoorWSame11
namespace Go.Proofs.YtklbbfmpgijhbaaDoor
open Go.RowKit
set_option linter.unusedVariables false
set_option linter.unusedSimpArgs false

theorem own_one (w : World) (c : Int) (B : Nat) (hB : B ≤ w.heap.size) : Own (w.alloc (.cells #[.int .u8 c] 5)) B (.slice (some ⟨w.heap.size, 0, none⟩) 1 1) 1 [c] :=
  ⟨rfl, .inr ⟨w.heap.size, 1, #[.int .u8 c], rfl, hB, heap_new w _, Nat.le_refl _, by unfold maxLen; omega, rfl, rfl⟩⟩
theorem li_one (w : World) (o a b : Int) : LI (w.alloc (.cells #[.int .i64 o, .int .i64 a, .int .i64 b] 33)) (some ⟨w.heap.size, 0, none⟩) 1 [⟨o, a, b⟩] := by
  refine ⟨rfl, by omega, .inr ⟨w.heap.size, 0, rfl, by simp, fun i hi => ?_⟩⟩
  obtain rfl : i = 0 := by omega
  obtain ⟨c0, c1, c2⟩ := box3 (heap_new w (.cells #[.int .i64 o, .int .i64 a, .int .i64 b] 33))
  exact ⟨c0, c1, c2⟩
theorem box_keep {w w' : World} {q : Nat} {o : Obj} (h : w.heap[q]? = some o) (b : Below w.heap.size w w') : w'.heap[q]? = some o := (b.block q (Array.getElem?_eq_some_iff.1 h).1).trans h
theorem row_in {k : Nat} (hk : k < 29) : RowE k (nmA k) (onA k) (tkA k) (ptA k) (baA k) (bbA k) 0 := ⟨.inl ⟨k, hk, rfl, rfl, rfl, rfl, rfl, rfl, rfl, rfl⟩⟩
set_option maxRecDepth 100000 in
set_option maxHeartbeats 4000000 in
theorem codeParts_go (o a b : Int) (w : World) (hR : Rws w) :
    Calls Tryd.prog 6 #[.agg #[.int .i64 o, .int .i64 a, .int .i64 b]] w fun e w' => e = .returned (.bool true) ∧ Below w.heap.size w w' := by
  have B0 := Lib.hid ((Below.refl w.heap.size w).alloc (Nat.le_refl _) (.cells #[.int .i64 o, .int .i64 a, .int .i64 b] 33))
  have X0 := Lib.hid (heap_new w (.cells #[.int .i64 o, .int .i64 a, .int .i64 b] 33))
  have RR := Lib.hid hR
  have KV := Lib.hid (fun W (q : Rws W) => valid_any o a b W q)
  have KE := Lib.hid (fun W (q : Rws W) => encode_any (some ⟨W.heap.size, 0, none⟩) 1 1 [⟨o, a, b⟩] (W.alloc (.cells #[.int .i64 o, .int .i64 a, .int .i64 b] 33)) (li_one W o a b) (q.alloc _))
  by_cases hv : In.okP ⟨o, a, b⟩
  · obtain ⟨k, x, y, hi, hk, hx, hy⟩ := okP_nat hv
    have EE := Lib.hid (p := encR [⟨(k : Int), (x : Int), (y : Int)⟩] = ((k : Int) :: preB x y (onA k), 0)) (by
      rw [encR_ok (by simp) (by intro i h; simp at h; rw [h, ← hi]; exact hv), ← enc_pre]
      simp [encs])
    obtain ⟨t1, t2, t3, _⟩ := tab_facts k hk
    have VZ := Lib.hid (okV_pos hv)
    obtain ⟨rfl, rfl, rfl⟩ : o = (k : Int) ∧ a = (x : Int) ∧ b = (y : Int) := by injection hi with h1 h2 h3; exact ⟨h1, h2, h3⟩
    rw [VZ.out] at KV
    unfold EncE at KE
    rw [EE.out] at KE
    have KO := Lib.hid (fun W (q : Rws W) => operands_any (row_in hk) W q)
    have kw : IntKind.u8.wrap (k : Int) = (k : Int) := by simp [IntKind.wrap, IntKind.bits, IntKind.signed]; omega
    have xw : IntKind.u64.wrap (x : Int) = (x : Int) := by simp [IntKind.wrap, IntKind.bits, IntKind.signed]; omega
    have yw : IntKind.u64.wrap (y : Int) = (y : Int) := by simp [IntKind.wrap, IntKind.bits, IntKind.signed]; omega
    have PL := Lib.hid (pre_len (x := x) (y := y) (by omega) (by omega))
    have KU := Lib.hid (fun (u : Value) (B m : Nat) (zs : List Int) (z : Nat) (hz : z ≤ 262143) (W : World) (q : Own W B u m zs) (hm : m ≤ 140737488354000) (hB : B ≤ W.heap.size) => appendUint_any u B m zs z W q hm hB (by omega))
    have XB := Lib.hid (show x ≤ 262143 by omega)
    have YB := Lib.hid (show y ≤ 262143 by omega)
    have BY := Lib.hid (p := ∀ c ∈ ((k : Int) :: preB x y (onA k)), 0 ≤ c ∧ c ≤ 255) (by rw [← enc_pre]; exact enc_byte hv)
    have BL5 := Lib.hid (p := ((k : Int) :: preB x y (onA k)).length ≤ 6) (by have := PL.out (onA k); simp; omega)
    clear hv hi hx hy t2 t3 hR EE VZ
    obtain ⟨on, hon⟩ : ∃ on, onA k = on := ⟨_, rfl⟩
    rw [hon] at KO KE BY BL5 t1
    clear hon
    have on3 : on = 0 ∨ on = 1 ∨ on = 2 := by omega
    have KS := Lib.hid (fun A A' n n' c c' xs ys W (h : BL W A n xs) (h' : BL W A' n' ys) => same11_any A A' n n' c c' xs ys W h h')
    rcases on3 with rfl | rfl | rfl
    · have PB : preB x y 0 = [] := by simp [preB]
      rw [PB] at KE BY BL5
      go_enter Tryd.func6, Tryd.ntmps6
      go_wp2_with (first
        | (go_at_call 19; refine (KV.out _ (RR.out.below B0.out)).mono ?_; rintro e w1 ⟨rfl, h1⟩; have B1 := Lib.hid (B0.out.trans (h1.mono B0.out.size)); have X1 := Lib.hid (box_keep X0.out h1); obtain ⟨d0, d1, d2⟩ := box3 X1.out; clear h1)
        | (go_at_call 17; refine (KO.out _ (RR.out.below B1.out)).mono ?_; rintro e w2 ⟨rfl, h1⟩; have B2 := Lib.hid (B1.out.trans (h1.mono B1.out.size)); have X2 := Lib.hid (box_keep X1.out h1); obtain ⟨e0, e1, e2⟩ := box3 X2.out; clear h1)
        | (go_at_call 21; refine (KE.out _ (RR.out.below B2.out)).mono ?_; rintro e w3 ⟨v3, rfl, h1, h2⟩; have B3 := Lib.hid ((B2.out.alloc B2.out.size _).trans (h2.mono (by have := B2.out.size; simp; omega))); have X3 := Lib.hid (box_keep ((Below.heap_alloc _ _ _ (Array.getElem?_eq_some_iff.1 X2.out).1).trans X2.out) h2); obtain ⟨f0, f1, f2⟩ := box3 X3.out; obtain ⟨A3, c3, hv3, hs3⟩ := own_sl h1 BY.out (by have := BL5.out; omega); subst hv3; have S3 := Lib.hid hs3; have W3 := Lib.hid (own_one w3 (k : Int) w3.heap.size (Nat.le_refl _)); have Z3 := Lib.hid ((Below.refl w3.heap.size w3).alloc (Nat.le_refl _) (.cells #[.int .u8 (k : Int)] 5)); have Y3 := Lib.hid (box3 (box_keep X3.out Z3.out)); obtain ⟨f3, f4, f5⟩ := Y3.out; clear h1 h2 hs3)
        | (go_at_call 23; refine (KS.out _ _ _ _ _ _ _ _ _ (S3.out.later Z3.out).1 (own_bl W3.out BY.out (by omega)).1).mono ?_; rintro e w5 ⟨rfl, q, h1⟩; subst h1))
      go_ret
      exact ⟨ret_b (by simp), below_drewN (B3.out.alloc B3.out.size _) _⟩
    · have PB : preB x y 1 = vl x := by simp [preB]
      rw [PB] at KE BY BL5
      go_enter Tryd.func6, Tryd.ntmps6
      go_wp2_with (first
        | (go_at_call 19; refine (KV.out _ (RR.out.below B0.out)).mono ?_; rintro e w1 ⟨rfl, h1⟩; have B1 := Lib.hid (B0.out.trans (h1.mono B0.out.size)); have X1 := Lib.hid (box_keep X0.out h1); obtain ⟨d0, d1, d2⟩ := box3 X1.out; clear h1)
        | (go_at_call 17; refine (KO.out _ (RR.out.below B1.out)).mono ?_; rintro e w2 ⟨rfl, h1⟩; have B2 := Lib.hid (B1.out.trans (h1.mono B1.out.size)); have X2 := Lib.hid (box_keep X1.out h1); obtain ⟨e0, e1, e2⟩ := box3 X2.out; clear h1)
        | (go_at_call 21; refine (KE.out _ (RR.out.below B2.out)).mono ?_; rintro e w3 ⟨v3, rfl, h1, h2⟩; have B3 := Lib.hid ((B2.out.alloc B2.out.size _).trans (h2.mono (by have := B2.out.size; simp; omega))); have X3 := Lib.hid (box_keep ((Below.heap_alloc _ _ _ (Array.getElem?_eq_some_iff.1 X2.out).1).trans X2.out) h2); obtain ⟨f0, f1, f2⟩ := box3 X3.out; obtain ⟨A3, c3, hv3, hs3⟩ := own_sl h1 BY.out (by have := BL5.out; omega); subst hv3; have S3 := Lib.hid hs3; have W3 := Lib.hid (own_one w3 (k : Int) w3.heap.size (Nat.le_refl _)); have Z3 := Lib.hid ((Below.refl w3.heap.size w3).alloc (Nat.le_refl _) (.cells #[.int .u8 (k : Int)] 5)); have Y3 := Lib.hid (box3 (box_keep X3.out Z3.out)); obtain ⟨f3, f4, f5⟩ := Y3.out; clear h1 h2 hs3)
        | (go_at_call 22; refine (KU.out _ _ _ _ x XB.out _ W3.out (by omega) (by simp)).mono ?_; rintro e w4 ⟨v4, rfl, h1⟩; have Z4 := Lib.hid (Z3.out.trans (h1.below (by simp))); obtain ⟨A4, c4, hv4, hs4⟩ := own_sl h1.own (by simpa using BY.out) (by have := BL5.out; simp at this ⊢; omega); subst hv4; have S4 := Lib.hid hs4; clear h1 hs4)
        | (go_at_call 23; refine (KS.out _ _ _ _ _ _ _ _ _ (S3.out.later Z4.out).1 S4.out.1).mono ?_; rintro e w5 ⟨rfl, q, h1⟩; subst h1))
      go_ret
      exact ⟨ret_b (by simp), below_drewN (B3.out.trans (Z4.out.mono B3.out.size)) _⟩
    · have PB : preB x y 2 = vl x ++ vl y := by simp [preB]
      rw [PB] at KE BY BL5
      have P0 : True := trivial
      have QL := Lib.hid (p := 1 + (vl x).length ≤ 140737488354000) (by have := BL5.out; simp at this; omega)
      have QM := Lib.hid (p := 1 + (vl x).length + (vl y).length ≤ 140737488355328) (by have := BL5.out; simp at this; omega)
      have QB := Lib.hid (p := ∀ c ∈ [(k : Int)] ++ vl x ++ vl y, 0 ≤ c ∧ c ≤ 255) (by simpa using BY.out)
      go_enter Tryd.func6, Tryd.ntmps6
      go_wp2_with (first
        | (go_at_call 19; refine (KV.out _ (RR.out.below B0.out)).mono ?_; rintro e w1 ⟨rfl, h1⟩; have B1 := Lib.hid (B0.out.trans (h1.mono B0.out.size)); have X1 := Lib.hid (box_keep X0.out h1); obtain ⟨d0, d1, d2⟩ := box3 X1.out; clear h1)
        | (go_at_call 17; refine (KO.out _ (RR.out.below B1.out)).mono ?_; rintro e w2 ⟨rfl, h1⟩; have B2 := Lib.hid (B1.out.trans (h1.mono B1.out.size)); have X2 := Lib.hid (box_keep X1.out h1); obtain ⟨e0, e1, e2⟩ := box3 X2.out; clear h1)
        | (go_at_call 21; refine (KE.out _ (RR.out.below B2.out)).mono ?_; rintro e w3 ⟨v3, rfl, h1, h2⟩; have B3 := Lib.hid ((B2.out.alloc B2.out.size _).trans (h2.mono (by have := B2.out.size; simp; omega))); have X3 := Lib.hid (box_keep ((Below.heap_alloc _ _ _ (Array.getElem?_eq_some_iff.1 X2.out).1).trans X2.out) h2); obtain ⟨f0, f1, f2⟩ := box3 X3.out; obtain ⟨A3, c3, hv3, hs3⟩ := own_sl h1 BY.out (by have := BL5.out; omega); subst hv3; have S3 := Lib.hid (p := Sl w3 A3 ((vl x).length + (vl y).length + 1) c3 ((k : Int) :: (vl x ++ vl y))) (by simpa using hs3); have W3 := Lib.hid (own_one w3 (k : Int) w3.heap.size (Nat.le_refl _)); have Z3 := Lib.hid ((Below.refl w3.heap.size w3).alloc (Nat.le_refl _) (.cells #[.int .u8 (k : Int)] 5)); have Y3 := Lib.hid (box3 (box_keep X3.out Z3.out)); obtain ⟨f3, f4, f5⟩ := Y3.out; clear h1 h2 hs3)
        | (go_at_call 22; have qq := P0; refine (KU.out _ _ _ _ x XB.out _ W3.out (by omega) (by simp)).mono ?_; rintro e w4 ⟨v4, rfl, h1⟩; have Z4 := Lib.hid (Z3.out.trans (h1.below (by simp))); have O4 := Lib.hid h1.own; have Y4 := Lib.hid (box3 (box_keep X3.out Z4.out)); obtain ⟨g3, g4, g5⟩ := Y4.out; clear h1 P0)
        | (go_at_call 22; refine (KU.out v4 w3.heap.size (1 + (vl x).length) ([(k : Int)] ++ vl x) y YB.out w4 O4.out QL.out Z4.out.size).mono ?_; rintro e w6 ⟨v6, rfl, h1⟩; have Z6 := Lib.hid (Z4.out.trans (h1.below Z4.out.size)); obtain ⟨A6, c6, hv6, hs6⟩ := own_sl h1.own QB.out QM.out; subst hv6; have S6 := Lib.hid hs6; clear h1 hs6)
        | (go_at_call 23; refine (KS.out _ _ _ _ _ _ _ _ _ (S3.out.later Z6.out).1 S6.out.1).mono ?_; rintro e w5 ⟨rfl, q, h1⟩; subst h1))
      go_ret
      exact ⟨ret_b (by simp), below_drewN (B3.out.trans (Z6.out.mono B3.out.size)) _⟩
  · have VZ := Lib.hid (okV_neg hv)
    have EE := Lib.hid (p := encR [⟨o, a, b⟩] = ([], 111)) (encR_odd (by simp) (fun q => hv (q _ (by simp))))
    obtain ⟨n, on, tk, pt, ra, rb, er, hE⟩ := row_ex o
    have KO := Lib.hid (fun W (q : Rws W) => operands_any hE W q)
    rw [VZ.out] at KV
    unfold EncE at KE
    rw [EE.out] at KE
    clear hv hR hE EE VZ
    go_enter Tryd.func6, Tryd.ntmps6
    go_wp2_with (first
      | (go_at_call 19; refine (KV.out _ (RR.out.below B0.out)).mono ?_; rintro e w1 ⟨rfl, h1⟩; have B1 := Lib.hid (B0.out.trans (h1.mono B0.out.size)); have X1 := Lib.hid (box_keep X0.out h1); obtain ⟨d0, d1, d2⟩ := box3 X1.out; clear h1)
      | (go_at_call 17; refine (KO.out _ (RR.out.below B1.out)).mono ?_; rintro e w2 ⟨rfl, h1⟩; have B2 := Lib.hid (B1.out.trans (h1.mono B1.out.size)); have X2 := Lib.hid (box_keep X1.out h1); obtain ⟨e0, e1, e2⟩ := box3 X2.out; clear h1)
      | (go_at_call 21; refine (KE.out _ (RR.out.below B2.out)).mono ?_; rintro e w3 ⟨v3, rfl, h1, h2⟩; have B3 := Lib.hid ((B2.out.alloc B2.out.size _).trans (h2.mono (by have := B2.out.size; simp; omega))); clear h1 h2))
    go_ret
    exact ⟨rfl, B3.out⟩
end Go.Proofs.YtklbbfmpgijhbaaDoor
