/-
  THE STATEMENT CodeOnly.
-/
import Derived.Test.YtklbbfmpgijhbaaDoorWCodeJ
namespace Go.Proofs.YtklbbfmpgijhbaaDoor
open Go.RowKit
set_option linter.unusedVariables false
set_option linter.unusedSimpArgs false

theorem li_nil (w : World) : LI w none 0 [] := ⟨rfl, by omega, .inl rfl⟩
set_option maxRecDepth 100000 in
set_option maxHeartbeats 2000000 in
theorem codeOnly_go (a : Option Addr) (n cap : Nat) (xs : List Int) (c : Int) (w : World) (h : BL w a n xs) (h0 : a = none → n = 0) (hR : Rws w) :
    Calls Tryd.prog 12 #[.slice a n cap, .int .i64 c] w fun e w' => e = .returned (.bool true) ∧ Below w.heap.size w w' := by
  have KB := Lib.hid (codeBack_go none 0 0 [] none 0 0 [] w (li_nil w) (li_nil w) (by omega) (by omega) hR)
  have KD := Lib.hid (fun W (q : Below w.heap.size w W) => decode_any a n cap xs c W (h.later q) h0 (hR.below q))
  have HH := Lib.hid h
  have RR := Lib.hid hR
  have XL := h.1
  have XB := Lib.hid h.2.2.1
  have XN := Lib.hid h.2.1
  clear h hR h0
  by_cases c0 : c < 0
  · have E := Lib.hid (p := decA xs c = ([], 1, 0)) (by unfold decA; rw [if_pos c0])
    go_enter Tryd.func12, Tryd.ntmps12
    go_wp2_with (first
      | (go_at_call 10; refine KB.out.mono ?_; rintro e w1 ⟨rfl, h1⟩; have B1 := Lib.hid h1; clear h1)
      | (go_at_call 31; refine (KD.out _ B1.out).mono ?_; rintro e w2 ⟨⟨v2, he, h1⟩, h2⟩; rw [E.out] at he h1; subst he; have B2 := Lib.hid (B1.out.trans (h2.mono B1.out.size)); clear h1 h2))
    go_ret
    exact ⟨rfl, B2.out⟩
  · by_cases c1 : 262144 < c
    · have E := Lib.hid (p := decA xs c = ([], 6, 0)) (by unfold decA; rw [if_neg c0, if_pos c1])
      go_enter Tryd.func12, Tryd.ntmps12
      go_wp2_with (first
        | (go_at_call 10; refine KB.out.mono ?_; rintro e w1 ⟨rfl, h1⟩; have B1 := Lib.hid h1; clear h1)
        | (go_at_call 31; refine (KD.out _ B1.out).mono ?_; rintro e w2 ⟨⟨v2, he, h1⟩, h2⟩; rw [E.out] at he h1; subst he; have B2 := Lib.hid (B1.out.trans (h2.mono B1.out.size)); clear h1 h2))
      go_ret
      exact ⟨rfl, B2.out⟩
    · obtain ⟨k, rfl⟩ : ∃ k : Nat, c = (k : Int) := ⟨c.toNat, by omega⟩
      have E := Lib.hid (decA_nat (bs := xs) (N := k) (by omega))
      by_cases he : (decs k xs).2.1 = 0
      · obtain ⟨d1, d2, d3, d4⟩ := decs_ok k xs XB.out he
        have EE := Lib.hid (p := decA xs (k : Int) = ((decs k xs).1, 0, 0)) (by rw [E.out]; generalize decs k xs = r at *; obtain ⟨r1, r2, r3⟩ := r; simp at he d4 ⊢; exact ⟨he, d4⟩)
        have KE := Lib.hid (p := ∀ A c W, LI W A k (decs k xs).1 → Rws W → Calls Tryd.prog 21 #[.slice A k c] W fun e w' => ∃ v', e = .returned (.tuple #[v', .int .i64 0]) ∧ Own w' W.heap.size v' xs.length xs ∧ Below W.heap.size W w') (fun A c W q r => by
          have := encode_any A k c (decs k xs).1 W q r
          unfold EncE at this; rw [encR_ok (by rw [d2]; omega) d3, d1] at this; exact this)
        have D2 := Lib.hid d2
        have KBd := Lib.hid (p := k ≤ 5864062014805) (by omega)
        have XLH := Lib.hid XL
        clear E he d1 d2 d3 d4 XL
        generalize (decs k xs).1 = L at *
        have KS := Lib.hid (fun A A' n n' c c' xs ys W (h : BL W A n xs) (h' : BL W A' n' ys) => same11_any A A' n n' c c' xs ys W h h')
        go_enter Tryd.func12, Tryd.ntmps12
        go_wp2_with (first
          | (go_at_call 10; refine KB.out.mono ?_; rintro e w1 ⟨rfl, h1⟩; have B1 := Lib.hid h1; clear h1)
          | (go_at_call 31; refine (KD.out _ B1.out).mono ?_; rintro e w2 ⟨⟨v2, he, h1⟩, h2⟩; rw [EE.out] at he h1; subst he; obtain ⟨A2, c2, hv2, hl2, _, _⟩ := own_liN h1 D2.out KBd.out; subst hv2; have L2 := Lib.hid hl2; have B2 := Lib.hid (B1.out.trans (h2.mono B1.out.size)); clear h1 h2 hl2)
          | (go_at_call 21; refine (KE.out _ _ _ L2.out (RR.out.below B2.out)).mono ?_; rintro e w3 ⟨v3, rfl, h1, h2⟩; obtain ⟨A3, c3, hv3, hs3⟩ := own_slN h1 XLH.out XB.out XN.out; subst hv3; have S3 := Lib.hid hs3; have B3 := Lib.hid (B2.out.trans (h2.mono B2.out.size)); clear h1 h2 hs3)
          | (go_at_call 23; refine (KS.out _ _ _ _ _ _ _ _ _ S3.out.1 (HH.out.later B3.out)).mono ?_; rintro e w4 ⟨he, q, h1⟩; subst h1; rw [decide_eq_true rfl] at he; subst he))
        go_ret
        exact ⟨rfl, below_drewN B3.out _⟩
      · obtain ⟨d1, d2⟩ := decs_err k xs XB.out he
        rw [XL] at d2
        obtain ⟨er, pl, hr⟩ : ∃ er pl, decs k xs = ([], er, pl) := ⟨(decs k xs).2.1, (decs k xs).2.2, by generalize decs k xs = r at *; obtain ⟨r1, r2, r3⟩ := r; simp at d1 ⊢; exact d1⟩
        have EE := Lib.hid (p := decA xs (k : Int) = ([], er, pl)) (by rw [E.out, hr])
        rw [hr] at d2 he
        simp only at d2 he
        have he' : (er == 0) = false := by simpa using he
        have p1 : (pl : Int) ≤ (n : Int) := by omega
        have p0 : (0 : Int) ≤ (pl : Int) := by omega
        clear E hr d1
        go_enter Tryd.func12, Tryd.ntmps12
        go_wp2_with (first
          | (go_at_call 10; refine KB.out.mono ?_; rintro e w1 ⟨rfl, h1⟩; have B1 := Lib.hid h1; clear h1)
          | (go_at_call 31; refine (KD.out _ B1.out).mono ?_; rintro e w2 ⟨⟨v2, he, h1⟩, h2⟩; rw [EE.out] at he h1; subst he; obtain ⟨A2, c2, hv2, hl2, _, _⟩ := own_liN (N := 0) h1 rfl (by omega); subst hv2; have B2 := Lib.hid (B1.out.trans (h2.mono B1.out.size)); clear h1 h2 hl2))
        go_ret
        exact ⟨rfl, B2.out⟩
end Go.Proofs.YtklbbfmpgijhbaaDoor
