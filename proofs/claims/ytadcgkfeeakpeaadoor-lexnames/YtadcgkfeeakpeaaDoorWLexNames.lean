/-
  WALK: LexNames.
-/
import Derived.Test.YtadcgkfeeakpeaaDoorWLexTells
import Derived.Test.YtadcgkfeeakpeaaDoorWLexN
namespace Go.Proofs.YtadcgkfeeakpeaaDoor
open Go.RowKit Lx
set_option linter.unusedVariables false
set_option linter.unusedSimpArgs false

/-- What the four functions answer of a text. -/
structure ND (s : ByteArray) (sm kw cp cu : Bool) : Prop where
  ks : ∀ W, Calls Tryd.prog 16 #[.string s] W fun e w' => e = .returned (.bool sm) ∧ Below W.heap.size W w'
  kk : ∀ W, Calls Tryd.prog 19 #[.string s] W fun e w' => e = .returned (.bool kw) ∧ Below W.heap.size W w'
  kc : ∀ W, Calls Tryd.prog 17 #[.string s] W fun e w' => e = .returned (.bool cp) ∧ w' = W
  ku : ∀ W, Calls Tryd.prog 18 #[.string s] W fun e w' => e = .returned (.bool cu) ∧ w' = W
theorem nd_of (s : ByteArray) (hs : s.size ≤ 9223372036854775807) {sm kw cp cu : Bool} (h1 : smlB (lst s) = sm) (h2 : kwB (lst s) = kw) (h3 : nameB cpN (lst s) = cp) (h4 : curB (lst s) = cu) : ND s sm kw cp cu := by
  subst h1; subst h2; subst h3; subst h4
  exact ⟨fun W => small_any s W hs, fun W => keyword_any s W hs, fun W => capital_any s W hs, fun W => currency_any s W⟩
theorem ndA : ND ⟨#[97]⟩ true false false false := nd_of _ (by decide) (by decide) (by decide) (by decide) (by decide)
theorem ndE : ND ⟨#[69, 85, 82]⟩ false false true true := nd_of _ (by decide) (by decide) (by decide) (by decide) (by decide)
/-- The walks, case by case. -/
theorem tl_lt {w : World} {x o : Nat} {t : Tok} (h : TL w (some ⟨x, o, none⟩) 1 [t]) : x < w.heap.size := by
  rcases h.2.2 with h0 | ⟨y, o', e, hx, _⟩
  · omega
  · injection e with e; injection e with e1 e2; subst e1; exact hx
theorem tk_again {w w' : World} {x o : Nat} {v0 v1 v2 v3 v4 v5 v6 v7 v8 : Value} (c0 : w.cell? ⟨x, o, none⟩ = some v0) (c1 : w.cell? ⟨x, o + 1, none⟩ = some v1) (c2 : w.cell? ⟨x, o + 2, none⟩ = some v2) (c3 : w.cell? ⟨x, o + 3, none⟩ = some v3) (c4 : w.cell? ⟨x, o + 4, none⟩ = some v4) (c5 : w.cell? ⟨x, o + 5, none⟩ = some v5) (c6 : w.cell? ⟨x, o + 6, none⟩ = some v6) (c7 : w.cell? ⟨x, o + 7, none⟩ = some v7) (c8 : w.cell? ⟨x, o + 8, none⟩ = some v8) (b : Below w.heap.size w w') (hx : x < w.heap.size) :
    w'.cell? ⟨x, o, none⟩ = some v0 ∧ w'.cell? ⟨x, o + 1, none⟩ = some v1 ∧ w'.cell? ⟨x, o + 2, none⟩ = some v2 ∧ w'.cell? ⟨x, o + 3, none⟩ = some v3 ∧ w'.cell? ⟨x, o + 4, none⟩ = some v4 ∧ w'.cell? ⟨x, o + 5, none⟩ = some v5 ∧ w'.cell? ⟨x, o + 6, none⟩ = some v6 ∧ w'.cell? ⟨x, o + 7, none⟩ = some v7 ∧ w'.cell? ⟨x, o + 8, none⟩ = some v8 :=
  ⟨(b.cell (p := ⟨x, o, none⟩) hx).trans c0, (b.cell (p := ⟨x, o + 1, none⟩) hx).trans c1, (b.cell (p := ⟨x, o + 2, none⟩) hx).trans c2, (b.cell (p := ⟨x, o + 3, none⟩) hx).trans c3, (b.cell (p := ⟨x, o + 4, none⟩) hx).trans c4, (b.cell (p := ⟨x, o + 5, none⟩) hx).trans c5, (b.cell (p := ⟨x, o + 6, none⟩) hx).trans c6, (b.cell (p := ⟨x, o + 7, none⟩) hx).trans c7, (b.cell (p := ⟨x, o + 8, none⟩) hx).trans c8⟩
set_option maxRecDepth 100000 in
set_option maxHeartbeats 2000000 in
theorem lexNames_a1 (s : ByteArray) (w : World) (hM : Hid (Mon w)) (hE : Hid (Ev w)) (hD : ND s false true false false) (hS : Scn (lst s) [⟨1, lst s, 0, 0, 0, 0, 0, 0, 0⟩] 0 0) :
    Calls Tryd.prog 7 #[.string s] w fun e w' => e = .returned (.bool true) ∧ Below w.heap.size w w' := by
  have KT := Lib.hid takes_any
  have HM := Lib.hid (p := ∀ W, Below w.heap.size w W → Mon W) (fun W b => mon_below (Nat.le_refl _) b hM.out)
  have HE := Lib.hid (p := ∀ W, Below w.heap.size w W → Ev W) (fun W b => ev_below hE.out b)
  have KA := Lib.hid ndA
  have KE := Lib.hid ndE
  have KD := Lib.hid hD
  have KS := Lib.hid (fun W hM hE => scan_isM s _ 0 0 hS W hM hE)
  rw [show ([⟨1, lst s, 0, 0, 0, 0, 0, 0, 0⟩] : List Tok).length = 1 from rfl] at KS
  have ES := bs_lst s
  clear hS hD
  go_enter Tryd.func7, Tryd.ntmps7
  go_wp2_with (first
      | (go_at_call 11; refine (KT.out _ hM.out hE.out).mono ?_; rintro e w1 ⟨rfl, b1⟩; have B1 := Lib.hid b1; clear b1; have P0 := Lib.hid (p := (1 : Nat) = 1) rfl)
      | (go_at_call 16; have qq := P0; refine (KA.out.ks _).mono ?_; rintro e w2 ⟨rfl, b2⟩; have B2 := Lib.hid (B1.out.trans (b2.mono B1.out.size)); clear b2 P0; have P1 := Lib.hid (p := (1 : Nat) = 1) rfl; have P2 := Lib.hid (p := (1 : Nat) = 1) rfl)
      | (go_at_call 17; have qq := P1; refine (KE.out.kc _).mono ?_; rintro e w' ⟨rfl, hw⟩; have hw' := hw.symm; clear hw; subst hw'; clear P1)
      | (go_at_call 18; have qq := P2; refine (KE.out.ku _).mono ?_; rintro e w' ⟨rfl, hw⟩; have hw' := hw.symm; clear hw; subst hw'; clear P2)
      | (go_at_call 12; refine (KS.out _ (HM.out _ B2.out) (HE.out _ B2.out)).mono ?_; rintro e w3 ⟨a, cap, rfl, hL⟩; have B3 := Lib.hid (B2.out.trans (hL.bel.mono B2.out.size)); have T3 := Lib.hid hL.tl; obtain ⟨x, o, rfl, hK⟩ := TL.one T3.out; obtain ⟨c0, c1, c2, c3, c4, c5, c6, c7, c8⟩ := hK; have hx := (tl_lt T3.out); clear hL)
      | (go_at_call 19; refine (KD.out.kk _).mono ?_; rintro e w4 ⟨rfl, b4⟩; have B4 := Lib.hid (B3.out.trans (b4.mono B3.out.size)); obtain ⟨c0, c1, c2, c3, c4, c5, c6, c7, c8⟩ := tk_again c0 c1 c2 c3 c4 c5 c6 c7 c8 b4 hx; have hx := Nat.lt_of_lt_of_le hx b4.size; clear b4; have P4 := Lib.hid (p := (1 : Nat) = 1) rfl)
      | (go_at_call 16; have qq := P4; refine (KD.out.ks _).mono ?_; rintro e w5 ⟨rfl, b5⟩; have B5 := Lib.hid (B4.out.trans (b5.mono B4.out.size)); obtain ⟨c0, c1, c2, c3, c4, c5, c6, c7, c8⟩ := tk_again c0 c1 c2 c3 c4 c5 c6 c7 c8 b5 hx; clear b5 P4)
      | (go_at_call 17; refine (KD.out.kc _).mono ?_; rintro e w' ⟨rfl, hw⟩; have hw' := hw.symm; clear hw; subst hw')
      | (go_at_call 18; refine (KD.out.ku _).mono ?_; rintro e w' ⟨rfl, hw⟩; have hw' := hw.symm; clear hw; subst hw')
      | (go_at_call 16; refine (KD.out.ks _).mono ?_; rintro e w6 ⟨rfl, b6⟩; have B6 := Lib.hid (B5.out.trans (b6.mono B5.out.size)); clear b6))
  go_ret
  exact ⟨rfl, B6.out⟩
set_option maxRecDepth 100000 in
set_option maxHeartbeats 2000000 in
theorem lexNames_a2 (s : ByteArray) (w : World) (hM : Hid (Mon w)) (hE : Hid (Ev w)) (hD : ND s true false false false) (hS : Scn (lst s) [⟨1, lst s, 0, 0, 0, 0, 0, 0, 0⟩] 0 0) :
    Calls Tryd.prog 7 #[.string s] w fun e w' => e = .returned (.bool true) ∧ Below w.heap.size w w' := by
  have KT := Lib.hid takes_any
  have HM := Lib.hid (p := ∀ W, Below w.heap.size w W → Mon W) (fun W b => mon_below (Nat.le_refl _) b hM.out)
  have HE := Lib.hid (p := ∀ W, Below w.heap.size w W → Ev W) (fun W b => ev_below hE.out b)
  have KA := Lib.hid ndA
  have KE := Lib.hid ndE
  have KD := Lib.hid hD
  have KS := Lib.hid (fun W hM hE => scan_isM s _ 0 0 hS W hM hE)
  rw [show ([⟨1, lst s, 0, 0, 0, 0, 0, 0, 0⟩] : List Tok).length = 1 from rfl] at KS
  have ES := bs_lst s
  clear hS hD
  go_enter Tryd.func7, Tryd.ntmps7
  go_wp2_with (first
      | (go_at_call 11; refine (KT.out _ hM.out hE.out).mono ?_; rintro e w1 ⟨rfl, b1⟩; have B1 := Lib.hid b1; clear b1; have P0 := Lib.hid (p := (1 : Nat) = 1) rfl)
      | (go_at_call 16; have qq := P0; refine (KA.out.ks _).mono ?_; rintro e w2 ⟨rfl, b2⟩; have B2 := Lib.hid (B1.out.trans (b2.mono B1.out.size)); clear b2 P0; have P1 := Lib.hid (p := (1 : Nat) = 1) rfl; have P2 := Lib.hid (p := (1 : Nat) = 1) rfl)
      | (go_at_call 17; have qq := P1; refine (KE.out.kc _).mono ?_; rintro e w' ⟨rfl, hw⟩; have hw' := hw.symm; clear hw; subst hw'; clear P1)
      | (go_at_call 18; have qq := P2; refine (KE.out.ku _).mono ?_; rintro e w' ⟨rfl, hw⟩; have hw' := hw.symm; clear hw; subst hw'; clear P2)
      | (go_at_call 12; refine (KS.out _ (HM.out _ B2.out) (HE.out _ B2.out)).mono ?_; rintro e w3 ⟨a, cap, rfl, hL⟩; have B3 := Lib.hid (B2.out.trans (hL.bel.mono B2.out.size)); have T3 := Lib.hid hL.tl; obtain ⟨x, o, rfl, hK⟩ := TL.one T3.out; obtain ⟨c0, c1, c2, c3, c4, c5, c6, c7, c8⟩ := hK; have hx := (tl_lt T3.out); clear hL)
      | (go_at_call 19; refine (KD.out.kk _).mono ?_; rintro e w4 ⟨rfl, b4⟩; have B4 := Lib.hid (B3.out.trans (b4.mono B3.out.size)); obtain ⟨c0, c1, c2, c3, c4, c5, c6, c7, c8⟩ := tk_again c0 c1 c2 c3 c4 c5 c6 c7 c8 b4 hx; have hx := Nat.lt_of_lt_of_le hx b4.size; clear b4; have P4 := Lib.hid (p := (1 : Nat) = 1) rfl)
      | (go_at_call 16; have qq := P4; refine (KD.out.ks _).mono ?_; rintro e w5 ⟨rfl, b5⟩; have B5 := Lib.hid (B4.out.trans (b5.mono B4.out.size)); obtain ⟨c0, c1, c2, c3, c4, c5, c6, c7, c8⟩ := tk_again c0 c1 c2 c3 c4 c5 c6 c7 c8 b5 hx; clear b5 P4)
      | (go_at_call 17; refine (KD.out.kc _).mono ?_; rintro e w' ⟨rfl, hw⟩; have hw' := hw.symm; clear hw; subst hw')
      | (go_at_call 18; refine (KD.out.ku _).mono ?_; rintro e w' ⟨rfl, hw⟩; have hw' := hw.symm; clear hw; subst hw')
      | (go_at_call 16; refine (KD.out.ks _).mono ?_; rintro e w6 ⟨rfl, b6⟩; have B6 := Lib.hid (B5.out.trans (b6.mono B5.out.size)); clear b6))
  go_ret
  exact ⟨rfl, B6.out⟩
set_option maxRecDepth 100000 in
set_option maxHeartbeats 2000000 in
theorem lexNames_b1 (s : ByteArray) (w : World) (hM : Hid (Mon w)) (hE : Hid (Ev w)) (hD : ND s false false true true) (hS : Scn (lst s) [⟨2, lst s, 0, 0, 0, 0, 0, 0, 0⟩] 0 0) (h3 : s.size = 3) :
    Calls Tryd.prog 7 #[.string s] w fun e w' => e = .returned (.bool true) ∧ Below w.heap.size w w' := by
  have KT := Lib.hid takes_any
  have HM := Lib.hid (p := ∀ W, Below w.heap.size w W → Mon W) (fun W b => mon_below (Nat.le_refl _) b hM.out)
  have HE := Lib.hid (p := ∀ W, Below w.heap.size w W → Ev W) (fun W b => ev_below hE.out b)
  have KA := Lib.hid ndA
  have KE := Lib.hid ndE
  have KD := Lib.hid hD
  have KS := Lib.hid (fun W hM hE => scan_isM s _ 0 0 hS W hM hE)
  rw [show ([⟨2, lst s, 0, 0, 0, 0, 0, 0, 0⟩] : List Tok).length = 1 from rfl] at KS
  have ES := bs_lst s
  have q3 : ((s.size : Int) != 3) = false := by rw [h3]; rfl
  have q3' : ((s.size : Int) == 3) = true := by rw [h3]; rfl
  have q3'' : (s.size : Int) = 3 := by omega
  clear hS hD h3
  go_enter Tryd.func7, Tryd.ntmps7
  go_wp2_with (first
      | (go_at_call 11; refine (KT.out _ hM.out hE.out).mono ?_; rintro e w1 ⟨rfl, b1⟩; have B1 := Lib.hid b1; clear b1; have P0 := Lib.hid (p := (1 : Nat) = 1) rfl)
      | (go_at_call 16; have qq := P0; refine (KA.out.ks _).mono ?_; rintro e w2 ⟨rfl, b2⟩; have B2 := Lib.hid (B1.out.trans (b2.mono B1.out.size)); clear b2 P0; have P1 := Lib.hid (p := (1 : Nat) = 1) rfl; have P2 := Lib.hid (p := (1 : Nat) = 1) rfl)
      | (go_at_call 17; have qq := P1; refine (KE.out.kc _).mono ?_; rintro e w' ⟨rfl, hw⟩; have hw' := hw.symm; clear hw; subst hw'; clear P1)
      | (go_at_call 18; have qq := P2; refine (KE.out.ku _).mono ?_; rintro e w' ⟨rfl, hw⟩; have hw' := hw.symm; clear hw; subst hw'; clear P2)
      | (go_at_call 12; refine (KS.out _ (HM.out _ B2.out) (HE.out _ B2.out)).mono ?_; rintro e w3 ⟨a, cap, rfl, hL⟩; have B3 := Lib.hid (B2.out.trans (hL.bel.mono B2.out.size)); have T3 := Lib.hid hL.tl; obtain ⟨x, o, rfl, hK⟩ := TL.one T3.out; obtain ⟨c0, c1, c2, c3, c4, c5, c6, c7, c8⟩ := hK; have hx := (tl_lt T3.out); clear hL)
      | (go_at_call 19; refine (KD.out.kk _).mono ?_; rintro e w4 ⟨rfl, b4⟩; have B4 := Lib.hid (B3.out.trans (b4.mono B3.out.size)); obtain ⟨c0, c1, c2, c3, c4, c5, c6, c7, c8⟩ := tk_again c0 c1 c2 c3 c4 c5 c6 c7 c8 b4 hx; have hx := Nat.lt_of_lt_of_le hx b4.size; clear b4; have P4 := Lib.hid (p := (1 : Nat) = 1) rfl)
      | (go_at_call 16; have qq := P4; refine (KD.out.ks _).mono ?_; rintro e w5 ⟨rfl, b5⟩; have B5 := Lib.hid (B4.out.trans (b5.mono B4.out.size)); obtain ⟨c0, c1, c2, c3, c4, c5, c6, c7, c8⟩ := tk_again c0 c1 c2 c3 c4 c5 c6 c7 c8 b5 hx; clear b5 P4)
      | (go_at_call 17; refine (KD.out.kc _).mono ?_; rintro e w' ⟨rfl, hw⟩; have hw' := hw.symm; clear hw; subst hw')
      | (go_at_call 18; refine (KD.out.ku _).mono ?_; rintro e w' ⟨rfl, hw⟩; have hw' := hw.symm; clear hw; subst hw')
      | (go_at_call 16; refine (KD.out.ks _).mono ?_; rintro e w6 ⟨rfl, b6⟩; have B6 := Lib.hid (B5.out.trans (b6.mono B5.out.size)); clear b6))
  go_ret
  exact ⟨rfl, B6.out⟩
set_option maxRecDepth 100000 in
set_option maxHeartbeats 2000000 in
theorem lexNames_b2 (s : ByteArray) (w : World) (hM : Hid (Mon w)) (hE : Hid (Ev w)) (hD : ND s false false true false) (hS : Scn (lst s) [⟨2, lst s, 0, 0, 0, 0, 0, 0, 0⟩] 0 0) (h3 : s.size ≠ 3) :
    Calls Tryd.prog 7 #[.string s] w fun e w' => e = .returned (.bool true) ∧ Below w.heap.size w w' := by
  have KT := Lib.hid takes_any
  have HM := Lib.hid (p := ∀ W, Below w.heap.size w W → Mon W) (fun W b => mon_below (Nat.le_refl _) b hM.out)
  have HE := Lib.hid (p := ∀ W, Below w.heap.size w W → Ev W) (fun W b => ev_below hE.out b)
  have KA := Lib.hid ndA
  have KE := Lib.hid ndE
  have KD := Lib.hid hD
  have KS := Lib.hid (fun W hM hE => scan_isM s _ 0 0 hS W hM hE)
  rw [show ([⟨2, lst s, 0, 0, 0, 0, 0, 0, 0⟩] : List Tok).length = 1 from rfl] at KS
  have ES := bs_lst s
  have q3' : ((s.size : Int) == 3) = false := by rw [beq_eq_false_iff_ne]; omega
  have q3'' : ¬ (s.size : Int) = 3 := by omega
  clear hS hD h3
  go_enter Tryd.func7, Tryd.ntmps7
  go_wp2_with (first
      | (go_at_call 11; refine (KT.out _ hM.out hE.out).mono ?_; rintro e w1 ⟨rfl, b1⟩; have B1 := Lib.hid b1; clear b1; have P0 := Lib.hid (p := (1 : Nat) = 1) rfl)
      | (go_at_call 16; have qq := P0; refine (KA.out.ks _).mono ?_; rintro e w2 ⟨rfl, b2⟩; have B2 := Lib.hid (B1.out.trans (b2.mono B1.out.size)); clear b2 P0; have P1 := Lib.hid (p := (1 : Nat) = 1) rfl; have P2 := Lib.hid (p := (1 : Nat) = 1) rfl)
      | (go_at_call 17; have qq := P1; refine (KE.out.kc _).mono ?_; rintro e w' ⟨rfl, hw⟩; have hw' := hw.symm; clear hw; subst hw'; clear P1)
      | (go_at_call 18; have qq := P2; refine (KE.out.ku _).mono ?_; rintro e w' ⟨rfl, hw⟩; have hw' := hw.symm; clear hw; subst hw'; clear P2)
      | (go_at_call 12; refine (KS.out _ (HM.out _ B2.out) (HE.out _ B2.out)).mono ?_; rintro e w3 ⟨a, cap, rfl, hL⟩; have B3 := Lib.hid (B2.out.trans (hL.bel.mono B2.out.size)); have T3 := Lib.hid hL.tl; obtain ⟨x, o, rfl, hK⟩ := TL.one T3.out; obtain ⟨c0, c1, c2, c3, c4, c5, c6, c7, c8⟩ := hK; have hx := (tl_lt T3.out); clear hL)
      | (go_at_call 19; refine (KD.out.kk _).mono ?_; rintro e w4 ⟨rfl, b4⟩; have B4 := Lib.hid (B3.out.trans (b4.mono B3.out.size)); obtain ⟨c0, c1, c2, c3, c4, c5, c6, c7, c8⟩ := tk_again c0 c1 c2 c3 c4 c5 c6 c7 c8 b4 hx; have hx := Nat.lt_of_lt_of_le hx b4.size; clear b4; have P4 := Lib.hid (p := (1 : Nat) = 1) rfl)
      | (go_at_call 16; have qq := P4; refine (KD.out.ks _).mono ?_; rintro e w5 ⟨rfl, b5⟩; have B5 := Lib.hid (B4.out.trans (b5.mono B4.out.size)); obtain ⟨c0, c1, c2, c3, c4, c5, c6, c7, c8⟩ := tk_again c0 c1 c2 c3 c4 c5 c6 c7 c8 b5 hx; clear b5 P4)
      | (go_at_call 17; refine (KD.out.kc _).mono ?_; rintro e w' ⟨rfl, hw⟩; have hw' := hw.symm; clear hw; subst hw')
      | (go_at_call 18; refine (KD.out.ku _).mono ?_; rintro e w' ⟨rfl, hw⟩; have hw' := hw.symm; clear hw; subst hw')
      | (go_at_call 16; refine (KD.out.ks _).mono ?_; rintro e w6 ⟨rfl, b6⟩; have B6 := Lib.hid (B5.out.trans (b6.mono B5.out.size)); clear b6))
  go_ret
  exact ⟨rfl, B6.out⟩
set_option maxRecDepth 100000 in
set_option maxHeartbeats 2000000 in
theorem lexNames_c0 (s : ByteArray) (w : World) (hM : Hid (Mon w)) (hE : Hid (Ev w)) (hD : ND s false false true false) (hS : Scn (lst s) [⟨2, lst s, 0, 0, 0, 0, 0, 0, 0⟩] 0 0) (h3 : s.size = 3) (z1 : 1 < s.size) (z2 : 2 < s.size) (hq : s[1].toNat < 65) :
    Calls Tryd.prog 7 #[.string s] w fun e w' => e = .returned (.bool true) ∧ Below w.heap.size w w' := by
  have KT := Lib.hid takes_any
  have HM := Lib.hid (p := ∀ W, Below w.heap.size w W → Mon W) (fun W b => mon_below (Nat.le_refl _) b hM.out)
  have HE := Lib.hid (p := ∀ W, Below w.heap.size w W → Ev W) (fun W b => ev_below hE.out b)
  have KA := Lib.hid ndA
  have KE := Lib.hid ndE
  have KD := Lib.hid hD
  have KS := Lib.hid (fun W hM hE => scan_isM s _ 0 0 hS W hM hE)
  rw [show ([⟨2, lst s, 0, 0, 0, 0, 0, 0, 0⟩] : List Tok).length = 1 from rfl] at KS
  have ES := bs_lst s
  have q3' : ((s.size : Int) == 3) = true := by rw [h3]; rfl
  have q3'' : (s.size : Int) = 3 := by omega
  have f0 : (s[1].toNat : Int) < 65 := by omega
  clear hS hD hq h3
  go_enter Tryd.func7, Tryd.ntmps7
  go_wp2_with (first
      | (go_at_call 11; refine (KT.out _ hM.out hE.out).mono ?_; rintro e w1 ⟨rfl, b1⟩; have B1 := Lib.hid b1; clear b1; have P0 := Lib.hid (p := (1 : Nat) = 1) rfl)
      | (go_at_call 16; have qq := P0; refine (KA.out.ks _).mono ?_; rintro e w2 ⟨rfl, b2⟩; have B2 := Lib.hid (B1.out.trans (b2.mono B1.out.size)); clear b2 P0; have P1 := Lib.hid (p := (1 : Nat) = 1) rfl; have P2 := Lib.hid (p := (1 : Nat) = 1) rfl)
      | (go_at_call 17; have qq := P1; refine (KE.out.kc _).mono ?_; rintro e w' ⟨rfl, hw⟩; have hw' := hw.symm; clear hw; subst hw'; clear P1)
      | (go_at_call 18; have qq := P2; refine (KE.out.ku _).mono ?_; rintro e w' ⟨rfl, hw⟩; have hw' := hw.symm; clear hw; subst hw'; clear P2)
      | (go_at_call 12; refine (KS.out _ (HM.out _ B2.out) (HE.out _ B2.out)).mono ?_; rintro e w3 ⟨a, cap, rfl, hL⟩; have B3 := Lib.hid (B2.out.trans (hL.bel.mono B2.out.size)); have T3 := Lib.hid hL.tl; obtain ⟨x, o, rfl, hK⟩ := TL.one T3.out; obtain ⟨c0, c1, c2, c3, c4, c5, c6, c7, c8⟩ := hK; have hx := (tl_lt T3.out); clear hL)
      | (go_at_call 19; refine (KD.out.kk _).mono ?_; rintro e w4 ⟨rfl, b4⟩; have B4 := Lib.hid (B3.out.trans (b4.mono B3.out.size)); obtain ⟨c0, c1, c2, c3, c4, c5, c6, c7, c8⟩ := tk_again c0 c1 c2 c3 c4 c5 c6 c7 c8 b4 hx; have hx := Nat.lt_of_lt_of_le hx b4.size; clear b4; have P4 := Lib.hid (p := (1 : Nat) = 1) rfl)
      | (go_at_call 16; have qq := P4; refine (KD.out.ks _).mono ?_; rintro e w5 ⟨rfl, b5⟩; have B5 := Lib.hid (B4.out.trans (b5.mono B4.out.size)); obtain ⟨c0, c1, c2, c3, c4, c5, c6, c7, c8⟩ := tk_again c0 c1 c2 c3 c4 c5 c6 c7 c8 b5 hx; clear b5 P4)
      | (go_at_call 17; refine (KD.out.kc _).mono ?_; rintro e w' ⟨rfl, hw⟩; have hw' := hw.symm; clear hw; subst hw')
      | (go_at_call 18; refine (KD.out.ku _).mono ?_; rintro e w' ⟨rfl, hw⟩; have hw' := hw.symm; clear hw; subst hw')
      | (go_at_call 16; refine (KD.out.ks _).mono ?_; rintro e w6 ⟨rfl, b6⟩; have B6 := Lib.hid (B5.out.trans (b6.mono B5.out.size)); clear b6))
  go_ret
  exact ⟨rfl, B6.out⟩
set_option maxRecDepth 100000 in
set_option maxHeartbeats 2000000 in
theorem lexNames_c1 (s : ByteArray) (w : World) (hM : Hid (Mon w)) (hE : Hid (Ev w)) (hD : ND s false false true false) (hS : Scn (lst s) [⟨2, lst s, 0, 0, 0, 0, 0, 0, 0⟩] 0 0) (h3 : s.size = 3) (z1 : 1 < s.size) (z2 : 2 < s.size) (hq : s[1].toNat = 95) :
    Calls Tryd.prog 7 #[.string s] w fun e w' => e = .returned (.bool true) ∧ Below w.heap.size w w' := by
  have KT := Lib.hid takes_any
  have HM := Lib.hid (p := ∀ W, Below w.heap.size w W → Mon W) (fun W b => mon_below (Nat.le_refl _) b hM.out)
  have HE := Lib.hid (p := ∀ W, Below w.heap.size w W → Ev W) (fun W b => ev_below hE.out b)
  have KA := Lib.hid ndA
  have KE := Lib.hid ndE
  have KD := Lib.hid hD
  have KS := Lib.hid (fun W hM hE => scan_isM s _ 0 0 hS W hM hE)
  rw [show ([⟨2, lst s, 0, 0, 0, 0, 0, 0, 0⟩] : List Tok).length = 1 from rfl] at KS
  have ES := bs_lst s
  have q3' : ((s.size : Int) == 3) = true := by rw [h3]; rfl
  have q3'' : (s.size : Int) = 3 := by omega
  have f0 : decide ((s[1].toNat : Int) < 65) = false := decide_eq_false (by omega)
  have f1 : ((s[1].toNat : Int) == 95) = true := by rw [beq_iff_eq]; omega
  clear hS hD hq h3
  go_enter Tryd.func7, Tryd.ntmps7
  go_wp2_with (first
      | (go_at_call 11; refine (KT.out _ hM.out hE.out).mono ?_; rintro e w1 ⟨rfl, b1⟩; have B1 := Lib.hid b1; clear b1; have P0 := Lib.hid (p := (1 : Nat) = 1) rfl)
      | (go_at_call 16; have qq := P0; refine (KA.out.ks _).mono ?_; rintro e w2 ⟨rfl, b2⟩; have B2 := Lib.hid (B1.out.trans (b2.mono B1.out.size)); clear b2 P0; have P1 := Lib.hid (p := (1 : Nat) = 1) rfl; have P2 := Lib.hid (p := (1 : Nat) = 1) rfl)
      | (go_at_call 17; have qq := P1; refine (KE.out.kc _).mono ?_; rintro e w' ⟨rfl, hw⟩; have hw' := hw.symm; clear hw; subst hw'; clear P1)
      | (go_at_call 18; have qq := P2; refine (KE.out.ku _).mono ?_; rintro e w' ⟨rfl, hw⟩; have hw' := hw.symm; clear hw; subst hw'; clear P2)
      | (go_at_call 12; refine (KS.out _ (HM.out _ B2.out) (HE.out _ B2.out)).mono ?_; rintro e w3 ⟨a, cap, rfl, hL⟩; have B3 := Lib.hid (B2.out.trans (hL.bel.mono B2.out.size)); have T3 := Lib.hid hL.tl; obtain ⟨x, o, rfl, hK⟩ := TL.one T3.out; obtain ⟨c0, c1, c2, c3, c4, c5, c6, c7, c8⟩ := hK; have hx := (tl_lt T3.out); clear hL)
      | (go_at_call 19; refine (KD.out.kk _).mono ?_; rintro e w4 ⟨rfl, b4⟩; have B4 := Lib.hid (B3.out.trans (b4.mono B3.out.size)); obtain ⟨c0, c1, c2, c3, c4, c5, c6, c7, c8⟩ := tk_again c0 c1 c2 c3 c4 c5 c6 c7 c8 b4 hx; have hx := Nat.lt_of_lt_of_le hx b4.size; clear b4; have P4 := Lib.hid (p := (1 : Nat) = 1) rfl)
      | (go_at_call 16; have qq := P4; refine (KD.out.ks _).mono ?_; rintro e w5 ⟨rfl, b5⟩; have B5 := Lib.hid (B4.out.trans (b5.mono B4.out.size)); obtain ⟨c0, c1, c2, c3, c4, c5, c6, c7, c8⟩ := tk_again c0 c1 c2 c3 c4 c5 c6 c7 c8 b5 hx; clear b5 P4)
      | (go_at_call 17; refine (KD.out.kc _).mono ?_; rintro e w' ⟨rfl, hw⟩; have hw' := hw.symm; clear hw; subst hw')
      | (go_at_call 18; refine (KD.out.ku _).mono ?_; rintro e w' ⟨rfl, hw⟩; have hw' := hw.symm; clear hw; subst hw')
      | (go_at_call 16; refine (KD.out.ks _).mono ?_; rintro e w6 ⟨rfl, b6⟩; have B6 := Lib.hid (B5.out.trans (b6.mono B5.out.size)); clear b6))
  go_ret
  exact ⟨rfl, B6.out⟩
set_option maxRecDepth 100000 in
set_option maxHeartbeats 2000000 in
theorem lexNames_c2 (s : ByteArray) (w : World) (hM : Hid (Mon w)) (hE : Hid (Ev w)) (hD : ND s false false true false) (hS : Scn (lst s) [⟨2, lst s, 0, 0, 0, 0, 0, 0, 0⟩] 0 0) (h3 : s.size = 3) (z1 : 1 < s.size) (z2 : 2 < s.size) (hq : s[1].toNat ≠ 95 ∧ ¬ s[1].toNat < 65 ∧ s[2].toNat < 65) :
    Calls Tryd.prog 7 #[.string s] w fun e w' => e = .returned (.bool true) ∧ Below w.heap.size w w' := by
  have KT := Lib.hid takes_any
  have HM := Lib.hid (p := ∀ W, Below w.heap.size w W → Mon W) (fun W b => mon_below (Nat.le_refl _) b hM.out)
  have HE := Lib.hid (p := ∀ W, Below w.heap.size w W → Ev W) (fun W b => ev_below hE.out b)
  have KA := Lib.hid ndA
  have KE := Lib.hid ndE
  have KD := Lib.hid hD
  have KS := Lib.hid (fun W hM hE => scan_isM s _ 0 0 hS W hM hE)
  rw [show ([⟨2, lst s, 0, 0, 0, 0, 0, 0, 0⟩] : List Tok).length = 1 from rfl] at KS
  have ES := bs_lst s
  have q3' : ((s.size : Int) == 3) = true := by rw [h3]; rfl
  have q3'' : (s.size : Int) = 3 := by omega
  have f0 : decide ((s[1].toNat : Int) < 65) = false := decide_eq_false (by omega)
  have f1 : ((s[1].toNat : Int) == 95) = false := by rw [beq_eq_false_iff_ne]; omega
  have f2 : (s[2].toNat : Int) < 65 := by omega
  clear hS hD hq h3
  go_enter Tryd.func7, Tryd.ntmps7
  go_wp2_with (first
      | (go_at_call 11; refine (KT.out _ hM.out hE.out).mono ?_; rintro e w1 ⟨rfl, b1⟩; have B1 := Lib.hid b1; clear b1; have P0 := Lib.hid (p := (1 : Nat) = 1) rfl)
      | (go_at_call 16; have qq := P0; refine (KA.out.ks _).mono ?_; rintro e w2 ⟨rfl, b2⟩; have B2 := Lib.hid (B1.out.trans (b2.mono B1.out.size)); clear b2 P0; have P1 := Lib.hid (p := (1 : Nat) = 1) rfl; have P2 := Lib.hid (p := (1 : Nat) = 1) rfl)
      | (go_at_call 17; have qq := P1; refine (KE.out.kc _).mono ?_; rintro e w' ⟨rfl, hw⟩; have hw' := hw.symm; clear hw; subst hw'; clear P1)
      | (go_at_call 18; have qq := P2; refine (KE.out.ku _).mono ?_; rintro e w' ⟨rfl, hw⟩; have hw' := hw.symm; clear hw; subst hw'; clear P2)
      | (go_at_call 12; refine (KS.out _ (HM.out _ B2.out) (HE.out _ B2.out)).mono ?_; rintro e w3 ⟨a, cap, rfl, hL⟩; have B3 := Lib.hid (B2.out.trans (hL.bel.mono B2.out.size)); have T3 := Lib.hid hL.tl; obtain ⟨x, o, rfl, hK⟩ := TL.one T3.out; obtain ⟨c0, c1, c2, c3, c4, c5, c6, c7, c8⟩ := hK; have hx := (tl_lt T3.out); clear hL)
      | (go_at_call 19; refine (KD.out.kk _).mono ?_; rintro e w4 ⟨rfl, b4⟩; have B4 := Lib.hid (B3.out.trans (b4.mono B3.out.size)); obtain ⟨c0, c1, c2, c3, c4, c5, c6, c7, c8⟩ := tk_again c0 c1 c2 c3 c4 c5 c6 c7 c8 b4 hx; have hx := Nat.lt_of_lt_of_le hx b4.size; clear b4; have P4 := Lib.hid (p := (1 : Nat) = 1) rfl)
      | (go_at_call 16; have qq := P4; refine (KD.out.ks _).mono ?_; rintro e w5 ⟨rfl, b5⟩; have B5 := Lib.hid (B4.out.trans (b5.mono B4.out.size)); obtain ⟨c0, c1, c2, c3, c4, c5, c6, c7, c8⟩ := tk_again c0 c1 c2 c3 c4 c5 c6 c7 c8 b5 hx; clear b5 P4)
      | (go_at_call 17; refine (KD.out.kc _).mono ?_; rintro e w' ⟨rfl, hw⟩; have hw' := hw.symm; clear hw; subst hw')
      | (go_at_call 18; refine (KD.out.ku _).mono ?_; rintro e w' ⟨rfl, hw⟩; have hw' := hw.symm; clear hw; subst hw')
      | (go_at_call 16; refine (KD.out.ks _).mono ?_; rintro e w6 ⟨rfl, b6⟩; have B6 := Lib.hid (B5.out.trans (b6.mono B5.out.size)); clear b6))
  go_ret
  exact ⟨rfl, B6.out⟩
set_option maxRecDepth 100000 in
set_option maxHeartbeats 2000000 in
theorem lexNames_c3 (s : ByteArray) (w : World) (hM : Hid (Mon w)) (hE : Hid (Ev w)) (hD : ND s false false true false) (hS : Scn (lst s) [⟨2, lst s, 0, 0, 0, 0, 0, 0, 0⟩] 0 0) (h3 : s.size = 3) (z1 : 1 < s.size) (z2 : 2 < s.size) (hq : s[1].toNat ≠ 95 ∧ ¬ s[1].toNat < 65 ∧ s[2].toNat = 95) :
    Calls Tryd.prog 7 #[.string s] w fun e w' => e = .returned (.bool true) ∧ Below w.heap.size w w' := by
  have KT := Lib.hid takes_any
  have HM := Lib.hid (p := ∀ W, Below w.heap.size w W → Mon W) (fun W b => mon_below (Nat.le_refl _) b hM.out)
  have HE := Lib.hid (p := ∀ W, Below w.heap.size w W → Ev W) (fun W b => ev_below hE.out b)
  have KA := Lib.hid ndA
  have KE := Lib.hid ndE
  have KD := Lib.hid hD
  have KS := Lib.hid (fun W hM hE => scan_isM s _ 0 0 hS W hM hE)
  rw [show ([⟨2, lst s, 0, 0, 0, 0, 0, 0, 0⟩] : List Tok).length = 1 from rfl] at KS
  have ES := bs_lst s
  have q3' : ((s.size : Int) == 3) = true := by rw [h3]; rfl
  have q3'' : (s.size : Int) = 3 := by omega
  have f0 : decide ((s[1].toNat : Int) < 65) = false := decide_eq_false (by omega)
  have f1 : ((s[1].toNat : Int) == 95) = false := by rw [beq_eq_false_iff_ne]; omega
  have f2 : decide ((s[2].toNat : Int) < 65) = false := decide_eq_false (by omega)
  have f3 : ((s[2].toNat : Int) == 95) = true := by rw [beq_iff_eq]; omega
  clear hS hD hq h3
  go_enter Tryd.func7, Tryd.ntmps7
  go_wp2_with (first
      | (go_at_call 11; refine (KT.out _ hM.out hE.out).mono ?_; rintro e w1 ⟨rfl, b1⟩; have B1 := Lib.hid b1; clear b1; have P0 := Lib.hid (p := (1 : Nat) = 1) rfl)
      | (go_at_call 16; have qq := P0; refine (KA.out.ks _).mono ?_; rintro e w2 ⟨rfl, b2⟩; have B2 := Lib.hid (B1.out.trans (b2.mono B1.out.size)); clear b2 P0; have P1 := Lib.hid (p := (1 : Nat) = 1) rfl; have P2 := Lib.hid (p := (1 : Nat) = 1) rfl)
      | (go_at_call 17; have qq := P1; refine (KE.out.kc _).mono ?_; rintro e w' ⟨rfl, hw⟩; have hw' := hw.symm; clear hw; subst hw'; clear P1)
      | (go_at_call 18; have qq := P2; refine (KE.out.ku _).mono ?_; rintro e w' ⟨rfl, hw⟩; have hw' := hw.symm; clear hw; subst hw'; clear P2)
      | (go_at_call 12; refine (KS.out _ (HM.out _ B2.out) (HE.out _ B2.out)).mono ?_; rintro e w3 ⟨a, cap, rfl, hL⟩; have B3 := Lib.hid (B2.out.trans (hL.bel.mono B2.out.size)); have T3 := Lib.hid hL.tl; obtain ⟨x, o, rfl, hK⟩ := TL.one T3.out; obtain ⟨c0, c1, c2, c3, c4, c5, c6, c7, c8⟩ := hK; have hx := (tl_lt T3.out); clear hL)
      | (go_at_call 19; refine (KD.out.kk _).mono ?_; rintro e w4 ⟨rfl, b4⟩; have B4 := Lib.hid (B3.out.trans (b4.mono B3.out.size)); obtain ⟨c0, c1, c2, c3, c4, c5, c6, c7, c8⟩ := tk_again c0 c1 c2 c3 c4 c5 c6 c7 c8 b4 hx; have hx := Nat.lt_of_lt_of_le hx b4.size; clear b4; have P4 := Lib.hid (p := (1 : Nat) = 1) rfl)
      | (go_at_call 16; have qq := P4; refine (KD.out.ks _).mono ?_; rintro e w5 ⟨rfl, b5⟩; have B5 := Lib.hid (B4.out.trans (b5.mono B4.out.size)); obtain ⟨c0, c1, c2, c3, c4, c5, c6, c7, c8⟩ := tk_again c0 c1 c2 c3 c4 c5 c6 c7 c8 b5 hx; clear b5 P4)
      | (go_at_call 17; refine (KD.out.kc _).mono ?_; rintro e w' ⟨rfl, hw⟩; have hw' := hw.symm; clear hw; subst hw')
      | (go_at_call 18; refine (KD.out.ku _).mono ?_; rintro e w' ⟨rfl, hw⟩; have hw' := hw.symm; clear hw; subst hw')
      | (go_at_call 16; refine (KD.out.ks _).mono ?_; rintro e w6 ⟨rfl, b6⟩; have B6 := Lib.hid (B5.out.trans (b6.mono B5.out.size)); clear b6))
  go_ret
  exact ⟨rfl, B6.out⟩
set_option maxRecDepth 100000 in
set_option maxHeartbeats 2000000 in
theorem lexNames_n1 (s : ByteArray) (w : World) (hM : Hid (Mon w)) (hE : Hid (Ev w)) (hD : ND s false false false false) (ts : List Tok) (p : Nat) (er : Int) (hS : Scn (lst s) ts p er) (he : er ≠ 0) :
    Calls Tryd.prog 7 #[.string s] w fun e w' => e = .returned (.bool true) ∧ Below w.heap.size w w' := by
  have KT := Lib.hid takes_any
  have HM := Lib.hid (p := ∀ W, Below w.heap.size w W → Mon W) (fun W b => mon_below (Nat.le_refl _) b hM.out)
  have HE := Lib.hid (p := ∀ W, Below w.heap.size w W → Ev W) (fun W b => ev_below hE.out b)
  have KA := Lib.hid ndA
  have KE := Lib.hid ndE
  have KD := Lib.hid hD
  have KS := Lib.hid (fun W hM hE => scan_isM s _ p er hS W hM hE)
  have er0 : (er == 0) = false := by rw [beq_eq_false_iff_ne]; exact he
  clear hS hD he
  go_enter Tryd.func7, Tryd.ntmps7
  go_wp2_with (first
      | (go_at_call 11; refine (KT.out _ hM.out hE.out).mono ?_; rintro e w1 ⟨rfl, b1⟩; have B1 := Lib.hid b1; clear b1; have P0 := Lib.hid (p := (1 : Nat) = 1) rfl)
      | (go_at_call 16; have qq := P0; refine (KA.out.ks _).mono ?_; rintro e w2 ⟨rfl, b2⟩; have B2 := Lib.hid (B1.out.trans (b2.mono B1.out.size)); clear b2 P0; have P1 := Lib.hid (p := (1 : Nat) = 1) rfl; have P2 := Lib.hid (p := (1 : Nat) = 1) rfl)
      | (go_at_call 17; have qq := P1; refine (KE.out.kc _).mono ?_; rintro e w' ⟨rfl, hw⟩; have hw' := hw.symm; clear hw; subst hw'; clear P1)
      | (go_at_call 18; have qq := P2; refine (KE.out.ku _).mono ?_; rintro e w' ⟨rfl, hw⟩; have hw' := hw.symm; clear hw; subst hw'; clear P2)
      | (go_at_call 12; refine (KS.out _ (HM.out _ B2.out) (HE.out _ B2.out)).mono ?_; rintro e w3 ⟨a, cap, rfl, hL⟩; have B3 := Lib.hid (B2.out.trans (hL.bel.mono B2.out.size)); have T3 := Lib.hid hL.tl; clear hL)
      | (go_at_call 19; refine (KD.out.kk _).mono ?_; rintro e w4 ⟨rfl, b4⟩; have B4 := Lib.hid (B3.out.trans (b4.mono B3.out.size)); clear b4; have P4 := Lib.hid (p := (1 : Nat) = 1) rfl)
      | (go_at_call 16; have qq := P4; refine (KD.out.ks _).mono ?_; rintro e w5 ⟨rfl, b5⟩; have B5 := Lib.hid (B4.out.trans (b5.mono B4.out.size)); clear b5 P4)
      | (go_at_call 17; refine (KD.out.kc _).mono ?_; rintro e w' ⟨rfl, hw⟩; have hw' := hw.symm; clear hw; subst hw')
      | (go_at_call 18; refine (KD.out.ku _).mono ?_; rintro e w' ⟨rfl, hw⟩; have hw' := hw.symm; clear hw; subst hw')
      | (go_at_call 16; refine (KD.out.ks _).mono ?_; rintro e w6 ⟨rfl, b6⟩; have B6 := Lib.hid (B5.out.trans (b6.mono B5.out.size)); clear b6))
  go_ret
  exact ⟨rfl, B6.out⟩
set_option maxRecDepth 100000 in
set_option maxHeartbeats 2000000 in
theorem lexNames_n2 (s : ByteArray) (w : World) (hM : Hid (Mon w)) (hE : Hid (Ev w)) (hD : ND s false false false false) (ts : List Tok) (p : Nat) (hS : Scn (lst s) ts p 0) (hl : ts.length ≠ 1) :
    Calls Tryd.prog 7 #[.string s] w fun e w' => e = .returned (.bool true) ∧ Below w.heap.size w w' := by
  have KT := Lib.hid takes_any
  have HM := Lib.hid (p := ∀ W, Below w.heap.size w W → Mon W) (fun W b => mon_below (Nat.le_refl _) b hM.out)
  have HE := Lib.hid (p := ∀ W, Below w.heap.size w W → Ev W) (fun W b => ev_below hE.out b)
  have KA := Lib.hid ndA
  have KE := Lib.hid ndE
  have KD := Lib.hid hD
  have KS := Lib.hid (fun W hM hE => scan_isM s _ p 0 hS W hM hE)
  have er0 : ((ts.length : Int) == 1) = false := by rw [beq_eq_false_iff_ne]; omega
  clear hS hD hl
  generalize ts.length = n at *
  go_enter Tryd.func7, Tryd.ntmps7
  go_wp2_with (first
      | (go_at_call 11; refine (KT.out _ hM.out hE.out).mono ?_; rintro e w1 ⟨rfl, b1⟩; have B1 := Lib.hid b1; clear b1; have P0 := Lib.hid (p := (1 : Nat) = 1) rfl)
      | (go_at_call 16; have qq := P0; refine (KA.out.ks _).mono ?_; rintro e w2 ⟨rfl, b2⟩; have B2 := Lib.hid (B1.out.trans (b2.mono B1.out.size)); clear b2 P0; have P1 := Lib.hid (p := (1 : Nat) = 1) rfl; have P2 := Lib.hid (p := (1 : Nat) = 1) rfl)
      | (go_at_call 17; have qq := P1; refine (KE.out.kc _).mono ?_; rintro e w' ⟨rfl, hw⟩; have hw' := hw.symm; clear hw; subst hw'; clear P1)
      | (go_at_call 18; have qq := P2; refine (KE.out.ku _).mono ?_; rintro e w' ⟨rfl, hw⟩; have hw' := hw.symm; clear hw; subst hw'; clear P2)
      | (go_at_call 12; refine (KS.out _ (HM.out _ B2.out) (HE.out _ B2.out)).mono ?_; rintro e w3 ⟨a, cap, rfl, hL⟩; have B3 := Lib.hid (B2.out.trans (hL.bel.mono B2.out.size)); have T3 := Lib.hid hL.tl; clear hL)
      | (go_at_call 19; refine (KD.out.kk _).mono ?_; rintro e w4 ⟨rfl, b4⟩; have B4 := Lib.hid (B3.out.trans (b4.mono B3.out.size)); clear b4; have P4 := Lib.hid (p := (1 : Nat) = 1) rfl)
      | (go_at_call 16; have qq := P4; refine (KD.out.ks _).mono ?_; rintro e w5 ⟨rfl, b5⟩; have B5 := Lib.hid (B4.out.trans (b5.mono B4.out.size)); clear b5 P4)
      | (go_at_call 17; refine (KD.out.kc _).mono ?_; rintro e w' ⟨rfl, hw⟩; have hw' := hw.symm; clear hw; subst hw')
      | (go_at_call 18; refine (KD.out.ku _).mono ?_; rintro e w' ⟨rfl, hw⟩; have hw' := hw.symm; clear hw; subst hw')
      | (go_at_call 16; refine (KD.out.ks _).mono ?_; rintro e w6 ⟨rfl, b6⟩; have B6 := Lib.hid (B5.out.trans (b6.mono B5.out.size)); clear b6))
  go_ret
  exact ⟨rfl, B6.out⟩
set_option maxRecDepth 100000 in
set_option maxHeartbeats 2000000 in
theorem lexNames_n3 (s : ByteArray) (w : World) (hM : Hid (Mon w)) (hE : Hid (Ev w)) (hD : ND s false false false false) (t : Tok) (p : Nat) (hS : Scn (lst s) [t] p 0) (hl : t.t ≠ lst s) :
    Calls Tryd.prog 7 #[.string s] w fun e w' => e = .returned (.bool true) ∧ Below w.heap.size w w' := by
  have KT := Lib.hid takes_any
  have HM := Lib.hid (p := ∀ W, Below w.heap.size w W → Mon W) (fun W b => mon_below (Nat.le_refl _) b hM.out)
  have HE := Lib.hid (p := ∀ W, Below w.heap.size w W → Ev W) (fun W b => ev_below hE.out b)
  have KA := Lib.hid ndA
  have KE := Lib.hid ndE
  have KD := Lib.hid hD
  have KS := Lib.hid (fun W hM hE => scan_isM s _ p 0 hS W hM hE)
  rw [show ([t] : List Tok).length = 1 from rfl] at KS
  have ne : ((bs t.t).toList == s.toList) = false := by
    rw [beq_eq_false_iff_ne]
    intro e
    have e1 : ∀ b : ByteArray, b.toList = lst b := fun b => by obtain ⟨⟨l⟩⟩ := b; rw [ByteArray.toList_mk]; rfl
    rw [e1, e1, lst_bs] at e
    exact hl e
  obtain ⟨tk, tt, ta, tn, ty, tm, td, tnn, tu⟩ := t
  simp only at ne
  clear hS hD hl
  go_enter Tryd.func7, Tryd.ntmps7
  go_wp2_with (first
      | (go_at_call 11; refine (KT.out _ hM.out hE.out).mono ?_; rintro e w1 ⟨rfl, b1⟩; have B1 := Lib.hid b1; clear b1; have P0 := Lib.hid (p := (1 : Nat) = 1) rfl)
      | (go_at_call 16; have qq := P0; refine (KA.out.ks _).mono ?_; rintro e w2 ⟨rfl, b2⟩; have B2 := Lib.hid (B1.out.trans (b2.mono B1.out.size)); clear b2 P0; have P1 := Lib.hid (p := (1 : Nat) = 1) rfl; have P2 := Lib.hid (p := (1 : Nat) = 1) rfl)
      | (go_at_call 17; have qq := P1; refine (KE.out.kc _).mono ?_; rintro e w' ⟨rfl, hw⟩; have hw' := hw.symm; clear hw; subst hw'; clear P1)
      | (go_at_call 18; have qq := P2; refine (KE.out.ku _).mono ?_; rintro e w' ⟨rfl, hw⟩; have hw' := hw.symm; clear hw; subst hw'; clear P2)
      | (go_at_call 12; refine (KS.out _ (HM.out _ B2.out) (HE.out _ B2.out)).mono ?_; rintro e w3 ⟨a, cap, rfl, hL⟩; have B3 := Lib.hid (B2.out.trans (hL.bel.mono B2.out.size)); have T3 := Lib.hid hL.tl; obtain ⟨x, o, rfl, hK⟩ := TL.one T3.out; obtain ⟨c0, c1, c2, c3, c4, c5, c6, c7, c8⟩ := hK; have hx := (tl_lt T3.out); clear hL)
      | (go_at_call 19; refine (KD.out.kk _).mono ?_; rintro e w4 ⟨rfl, b4⟩; have B4 := Lib.hid (B3.out.trans (b4.mono B3.out.size)); obtain ⟨c0, c1, c2, c3, c4, c5, c6, c7, c8⟩ := tk_again c0 c1 c2 c3 c4 c5 c6 c7 c8 b4 hx; have hx := Nat.lt_of_lt_of_le hx b4.size; clear b4; have P4 := Lib.hid (p := (1 : Nat) = 1) rfl)
      | (go_at_call 16; have qq := P4; refine (KD.out.ks _).mono ?_; rintro e w5 ⟨rfl, b5⟩; have B5 := Lib.hid (B4.out.trans (b5.mono B4.out.size)); obtain ⟨c0, c1, c2, c3, c4, c5, c6, c7, c8⟩ := tk_again c0 c1 c2 c3 c4 c5 c6 c7 c8 b5 hx; clear b5 P4)
      | (go_at_call 17; refine (KD.out.kc _).mono ?_; rintro e w' ⟨rfl, hw⟩; have hw' := hw.symm; clear hw; subst hw')
      | (go_at_call 18; refine (KD.out.ku _).mono ?_; rintro e w' ⟨rfl, hw⟩; have hw' := hw.symm; clear hw; subst hw')
      | (go_at_call 16; refine (KD.out.ks _).mono ?_; rintro e w6 ⟨rfl, b6⟩; have B6 := Lib.hid (B5.out.trans (b6.mono B5.out.size)); clear b6))
  go_ret
  exact ⟨rfl, B6.out⟩
set_option maxRecDepth 100000 in
set_option maxHeartbeats 2000000 in
theorem lexNames_n4 (s : ByteArray) (w : World) (hM : Hid (Mon w)) (hE : Hid (Ev w)) (hD : ND s false false false false) (t : Tok) (p : Nat) (hS : Scn (lst s) [t] p 0) (hl : t.t = lst s) (k1 : t.k ≠ 1) (k2 : t.k ≠ 2) :
    Calls Tryd.prog 7 #[.string s] w fun e w' => e = .returned (.bool true) ∧ Below w.heap.size w w' := by
  have KT := Lib.hid takes_any
  have HM := Lib.hid (p := ∀ W, Below w.heap.size w W → Mon W) (fun W b => mon_below (Nat.le_refl _) b hM.out)
  have HE := Lib.hid (p := ∀ W, Below w.heap.size w W → Ev W) (fun W b => ev_below hE.out b)
  have KA := Lib.hid ndA
  have KE := Lib.hid ndE
  have KD := Lib.hid hD
  have KS := Lib.hid (fun W hM hE => scan_isM s _ p 0 hS W hM hE)
  rw [show ([t] : List Tok).length = 1 from rfl] at KS
  have q1 : (t.k == 1) = false := by rw [beq_eq_false_iff_ne]; exact k1
  have q2 : (t.k == 2) = false := by rw [beq_eq_false_iff_ne]; exact k2
  obtain ⟨tk, tt, ta, tn, ty, tm, td, tnn, tu⟩ := t
  simp only at q1 q2 hl k1 k2
  subst hl
  have ES := bs_lst s
  clear hS hD
  go_enter Tryd.func7, Tryd.ntmps7
  go_wp2_with (first
      | (go_at_call 11; refine (KT.out _ hM.out hE.out).mono ?_; rintro e w1 ⟨rfl, b1⟩; have B1 := Lib.hid b1; clear b1; have P0 := Lib.hid (p := (1 : Nat) = 1) rfl)
      | (go_at_call 16; have qq := P0; refine (KA.out.ks _).mono ?_; rintro e w2 ⟨rfl, b2⟩; have B2 := Lib.hid (B1.out.trans (b2.mono B1.out.size)); clear b2 P0; have P1 := Lib.hid (p := (1 : Nat) = 1) rfl; have P2 := Lib.hid (p := (1 : Nat) = 1) rfl)
      | (go_at_call 17; have qq := P1; refine (KE.out.kc _).mono ?_; rintro e w' ⟨rfl, hw⟩; have hw' := hw.symm; clear hw; subst hw'; clear P1)
      | (go_at_call 18; have qq := P2; refine (KE.out.ku _).mono ?_; rintro e w' ⟨rfl, hw⟩; have hw' := hw.symm; clear hw; subst hw'; clear P2)
      | (go_at_call 12; refine (KS.out _ (HM.out _ B2.out) (HE.out _ B2.out)).mono ?_; rintro e w3 ⟨a, cap, rfl, hL⟩; have B3 := Lib.hid (B2.out.trans (hL.bel.mono B2.out.size)); have T3 := Lib.hid hL.tl; obtain ⟨x, o, rfl, hK⟩ := TL.one T3.out; obtain ⟨c0, c1, c2, c3, c4, c5, c6, c7, c8⟩ := hK; have hx := (tl_lt T3.out); clear hL)
      | (go_at_call 19; refine (KD.out.kk _).mono ?_; rintro e w4 ⟨rfl, b4⟩; have B4 := Lib.hid (B3.out.trans (b4.mono B3.out.size)); obtain ⟨c0, c1, c2, c3, c4, c5, c6, c7, c8⟩ := tk_again c0 c1 c2 c3 c4 c5 c6 c7 c8 b4 hx; have hx := Nat.lt_of_lt_of_le hx b4.size; clear b4; have P4 := Lib.hid (p := (1 : Nat) = 1) rfl)
      | (go_at_call 16; have qq := P4; refine (KD.out.ks _).mono ?_; rintro e w5 ⟨rfl, b5⟩; have B5 := Lib.hid (B4.out.trans (b5.mono B4.out.size)); obtain ⟨c0, c1, c2, c3, c4, c5, c6, c7, c8⟩ := tk_again c0 c1 c2 c3 c4 c5 c6 c7 c8 b5 hx; clear b5 P4)
      | (go_at_call 17; refine (KD.out.kc _).mono ?_; rintro e w' ⟨rfl, hw⟩; have hw' := hw.symm; clear hw; subst hw')
      | (go_at_call 18; refine (KD.out.ku _).mono ?_; rintro e w' ⟨rfl, hw⟩; have hw' := hw.symm; clear hw; subst hw')
      | (go_at_call 16; refine (KD.out.ks _).mono ?_; rintro e w6 ⟨rfl, b6⟩; have B6 := Lib.hid (B5.out.trans (b6.mono B5.out.size)); clear b6))
  go_ret
  exact ⟨rfl, B6.out⟩
theorem lexNames_go (s : ByteArray) (hs : s.size ≤ 9223372036854775807) (w : World) (hM : Mon w) (hE : Ev w) :
    Calls Tryd.prog 7 #[.string s] w fun e w' => e = .returned (.bool true) ∧ Below w.heap.size w w' := by
  have HM := Lib.hid hM
  have HE := Lib.hid hE
  cases hA : nameB smN (lst s) with
  | true =>
    have hc := small_not_capital hA
    have hu : curB (lst s) = false := by
      cases h : curB (lst s) with
      | false => rfl
      | true => rw [(cur_name h).1] at hc; cases hc
    have hl := (nameE_ok (nameB_parts hA).2.2).2.1
    have hS : Scn (lst s) _ 0 0 := .inr ⟨by omega, sc_small hA⟩
    cases hK : kwB (lst s) with
    | true => exact lexNames_a1 s w HM HE (nd_of s hs (by unfold smlB; rw [hA, hK]; rfl) hK hc hu) hS
    | false => exact lexNames_a2 s w HM HE (nd_of s hs (by unfold smlB; rw [hA, hK]; rfl) hK hc hu) hS
  | false =>
    have hK : kwB (lst s) = false := by
      cases h : kwB (lst s) with
      | false => rfl
      | true => rw [kw_name h] at hA; cases hA
    have hsm : smlB (lst s) = false := by unfold smlB; rw [hA]; rfl
    cases hB : nameB cpN (lst s) with
    | true =>
      have hl := (nameE_ok (nameB_parts hB).2.2).2.1
      have hS : Scn (lst s) _ 0 0 := .inr ⟨by omega, sc_capital hB⟩
      cases hC : curB (lst s) with
      | true => exact lexNames_b1 s w HM HE (nd_of s hs hsm hK hB hC) hS (by rw [← lst_len]; exact (cur_name hC).2)
      | false =>
        by_cases h3 : s.size = 3
        · have z1 : 1 < s.size := by omega
          have z2 : 2 < s.size := by omega
          have hD := nd_of s hs hsm hK hB hC
          have h4 := three_of h3
          rw [h4] at hB hC
          have := cap_three hB hC
          rcases (show s[1].toNat < 65 ∨ s[1].toNat = 95 ∨ (s[1].toNat ≠ 95 ∧ ¬ s[1].toNat < 65 ∧ s[2].toNat < 65) ∨ (s[1].toNat ≠ 95 ∧ ¬ s[1].toNat < 65 ∧ s[2].toNat = 95) by omega) with q | q | q | q
          · exact lexNames_c0 s w HM HE hD hS h3 z1 z2 q
          · exact lexNames_c1 s w HM HE hD hS h3 z1 z2 q
          · exact lexNames_c2 s w HM HE hD hS h3 z1 z2 q
          · exact lexNames_c3 s w HM HE hD hS h3 z1 z2 q
        · exact lexNames_b2 s w HM HE (nd_of s hs hsm hK hB hC) hS h3
    | false =>
      have hu : curB (lst s) = false := by
        cases h : curB (lst s) with
        | false => rfl
        | true => rw [(cur_name h).1] at hB; cases hB
      have hD := nd_of s hs hsm hK hB hu
      obtain ⟨ts, p, er, hS⟩ := Scn.total (lst s)
      by_cases he : er = 0
      · subst he
        by_cases hl : ts.length = 1
        · obtain ⟨t, rfl⟩ : ∃ t, ts = [t] := List.length_eq_one_iff.1 hl
          by_cases ht : t.t = lst s
          · have hsc : Sc (lst s) 0 [t] p 0 := by
              rcases hS with ⟨_, h, _⟩ | ⟨_, h⟩
              · cases h
              · exact h
            obtain ⟨w1, w2⟩ := whole_kind hsc ht
            exact lexNames_n4 s w HM HE hD t p hS ht (fun q => by rw [w1 q] at hA; cases hA) (fun q => by rw [w2 q] at hB; cases hB)
          · exact lexNames_n3 s w HM HE hD t p hS ht
        · exact lexNames_n2 s w HM HE hD ts p hS hl
      · exact lexNames_n1 s w HM HE hD ts p er hS he
end Go.Proofs.YtadcgkfeeakpeaaDoor
