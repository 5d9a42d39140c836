import Derived.Test.YtccjeipkljdhdaaGreatDoorXBF
import Derived.Test.YtccjeipkljdhdaaGreatDoorXBG
import Derived.Test.YtccjeipkljdhdaaGreatDoorXAG
import Derived.Lib.AppendStr
import Derived.Lib.AppendIntMem
import Derived.Lib.OthersKept
import Derived.Lib.ItoaLen
import Derived.Lib.ConvBytes
import Derived.Laws.AppendOwn
import Derived.Laws.IdiomStrings
import Derived.Test.YtccjeipkljdhdaaGreatDoorXAH
namespace Go.Proofs.YtccjeipkljdhdaaGreatDoor
open Go.RowKit
set_option linter.unusedVariables false
set_option linter.unusedSimpArgs false

set_option maxRecDepth 100000 in
set_option maxHeartbeats 4000000 in
theorem asmOnly_any {w : World} (s : ByteArray) (hG : GlA w) :
    Calls Tryz.prog 3 #[.string s] w fun e w' => e = .returned (.bool true) ∧ Below w.heap.size w w' := by
  have KH := Lib.hid (heads_any hG)
  have HG := Lib.hid hG
  have KR := Lib.hid (p := ∀ W, Below w.heap.size w W → ∀ s, Calls Tryz.prog 7 #[.string s] W fun e w' => PaE s W e w') (fun W b s => parse_any s (fun W' b' => HG.out.laterH (b.trans (b'.mono b.size))))
  have BAD := Lib.hid (p := (outA s).2.2 ≠ 0 → _) (out_bad (s := s))
  have GOOD := Lib.hid (p := (outA s).2.2 = 0 → _) (out_good (s := s))
  clear hG
  obtain ⟨⟨A, n, E⟩, hO⟩ : ∃ O, outA s = O := ⟨_, rfl⟩
  have HO := Lib.hid hO
  rw [hO] at BAD GOOD
  clear hO
  simp only at BAD GOOD
  by_cases e0 : E = 0
  · subst e0
    obtain ⟨can, rfl⟩ := GOOD.out rfl
    have CAN := Lib.hid can
    clear can BAD GOOD
    go_enter Tryz.func3, Tryz.ntmps3
    go_upto_region 3 with (go_at_call 6; refine KH.out.mono ?_; rintro e w1 ⟨rfl, h1⟩; have B1 := Lib.hid h1; clear h1)
    go_upto_region 4 with (go_at_call 7; refine (KR.out w1 B1.out s).mono ?_; rintro e w2 ⟨P, rfl, hpv, hkey, hb⟩; rw [HO.out] at hkey ⊢; simp only [Pg.agg]; have P2 := Lib.hid hpv; have Q2 := Lib.hid hkey; have B2 := Lib.hid (B1.out.trans (hb.mono B1.out.size)); clear hpv hkey hb)
    obtain ⟨W2, hW2⟩ : ∃ y, w2.alloc P.box = y := ⟨_, rfl⟩
    have A2 := Lib.hid (p := Below w2.heap.size w2 W2) (by rw [← hW2]; exact allocBP w2 P.box)
    have X2 : BkP W2 w2.heap.size P.arr 27 := by rw [← hW2]; exact heapN w2 _
    have V2 := Lib.hid (P2.out.later A2.out)
    have C2 := Lib.hid (B2.out.trans (A2.out.mono B2.out.size))
    have CP := Lib.hid (can_key1Q Q2.out.symm CAN.out)
    have HB2 := Lib.hid X2
    unfold Pg.box at hW2
    rw [hW2]
    clear hW2
    obtain ⟨x0, x1, x2, x3, x4, x5, x6, x7⟩ := pcells X2
    clear X2
    have K3 := Lib.hid (p := Calls Tryz.prog 9 #[P.agg] W2 fun e w' => e = .returned (.tuple #[.string ⟨(txtP P).toArray⟩, .int .i64 0]) ∧ Below W2.heap.size W2 w') ((print_any V2.out (HG.out.laterH C2.out).rw_ (HG.out.laterH C2.out).pw (HG.out.laterH C2.out).md (lnG_of (HG.out.laterH C2.out).ln)).mono (fun e w' ⟨h1, h2⟩ => ⟨by rw [h1, if_pos CP.out, if_pos CP.out], h2⟩))
    have OT := Lib.hid (out_txt V2.out CP.out)
    have TK := Lib.hid (p := ∀ q : Pg, q.key = P.key → (⟨(txtP q).toArray⟩ : ByteArray) = ⟨(txtP P).toArray⟩) (fun q h => by rw [txt_keyQ h])
    obtain ⟨T, hT⟩ : ∃ T : ByteArray, ⟨(txtP P).toArray⟩ = T := ⟨_, rfl⟩
    rw [hT] at K3 OT TK
    clear hT
    unfold Pg.agg at K3
    go_upto_region 7 with (go_at_call 9; refine K3.out.mono ?_; rintro e w3 ⟨rfl, h3⟩; have D3 := Lib.hid h3; have B3 := Lib.hid (C2.out.trans (h3.mono C2.out.size)); clear h3)
    clear x0 x1 x2 x3 x4 x5 x6 x7
    go_upto_region 8 with (go_at_call 7; refine (KR.out w3 B3.out T).mono ?_; rintro e w4 ⟨Q, rfl, hpv, hkey, hb⟩; rw [OT.out] at hkey ⊢; simp only [Pg.agg]; have P4 := Lib.hid hpv; have Q4 := Lib.hid (hkey.trans (apD_key P)); have D4 := Lib.hid (D3.out.trans (hb.mono D3.out.size)); clear hpv hkey hb)
    obtain ⟨W4, hW4⟩ : ∃ y, w4.alloc Q.box = y := ⟨_, rfl⟩
    have A4 := Lib.hid (p := Below w4.heap.size w4 W4) (by rw [← hW4]; exact allocBP w4 Q.box)
    have X4 : BkP W4 w4.heap.size Q.arr 27 := by rw [← hW4]; exact heapN w4 _
    have V4 := Lib.hid (P4.out.later A4.out)
    have E4 := Lib.hid (D4.out.trans (A4.out.mono D4.out.size))
    have C4 := Lib.hid (C2.out.trans (E4.out.mono C2.out.size))
    have CQ := Lib.hid (can_key1Q Q4.out.symm CP.out)
    unfold Pg.box at hW4
    rw [hW4]
    clear hW4
    have HB4 := Lib.hid X4
    obtain ⟨y0, y1, y2, y3, y4, y5, y6, y7⟩ := pcells X4
    clear X4
    have K5 := Lib.hid (p := Calls Tryz.prog 9 #[Q.agg] W4 fun e w' => e = .returned (.tuple #[.string T, .int .i64 0]) ∧ Below W4.heap.size W4 w') ((print_any V4.out (HG.out.laterH C4.out).rw_ (HG.out.laterH C4.out).pw (HG.out.laterH C4.out).md (lnG_of (HG.out.laterH C4.out).ln)).mono (fun e w' ⟨h1, h2⟩ => ⟨by rw [h1, if_pos CQ.out, if_pos CQ.out, TK.out Q Q4.out], h2⟩))
    unfold Pg.agg at K5
    go_upto_region 9 with (go_at_call 9; refine K5.out.mono ?_; rintro e w5 ⟨rfl, h5⟩; have D5 := Lib.hid h5; clear h5)
    clear y0 y1 y2 y3 y4 y5 y6 y7
    have E5 := Lib.hid (E4.out.trans (D5.out.mono E4.out.size))
    have C5 := Lib.hid (C2.out.trans (E5.out.mono C2.out.size))
    have X5 : BkP w5 w2.heap.size P.arr 27 := HB2.out.laterP E5.out
    obtain ⟨x0, x1, x2, x3, x4, x5, x6, x7⟩ := pcells X5
    clear X5
    have K6 := Lib.hid (p := Calls Tryz.prog 10 #[P.agg] w5 fun e w' => e = .returned (.int .i64 0) ∧ Below w5.heap.size w5 w') ((canon_any (V2.out.later E5.out) (HG.out.laterH C5.out).rw_).mono (fun e w' ⟨h1, h2⟩ => ⟨by rw [h1, if_pos CP.out], h2⟩))
    have K7 := Lib.hid (p := ∀ W, Below w5.heap.size w5 W → Calls Tryz.prog 8 #[P.agg, Q.agg] W fun e w' => e = .returned (.bool true) ∧ Below W.heap.size W w') (fun W b => same13_any (V2.out.later (E5.out.trans (b.mono E5.out.size))) (V4.out.later (D5.out.trans (b.mono D5.out.size))) Q4.out)
    unfold Pg.agg at K6 K7
    go_wp2_with (first
      | (go_at_call 10; refine K6.out.mono ?_; rintro e w6 ⟨rfl, h6⟩; have D6 := Lib.hid h6; clear h6 x0 x1 x2 x3 x4 x5 x6 x7; obtain ⟨x0, x1, x2, x3, x4, x5, x6, x7⟩ := pcells (HB2.out.laterP (E5.out.trans (D6.out.mono E5.out.size))); obtain ⟨y0, y1, y2, y3, y4, y5, y6, y7⟩ := pcells (HB4.out.laterP (D5.out.trans (D6.out.mono D5.out.size))))
      | (go_at_call 8; refine (K7.out _ D6.out).mono ?_; rintro e w7 ⟨rfl, h7⟩; have D7 := Lib.hid (D6.out.trans (h7.mono D6.out.size)); clear h7))
    go_ret
    exact ⟨by simp, C5.out.trans (D7.out.mono C5.out.size)⟩
  · obtain ⟨rfl, h131⟩ := BAD.out e0
    clear BAD GOOD
    have d0 : (E == 0) = false := by simpa using e0
    have d1 : (E != 0) = true := by simpa using e0
    have d2 : ((E == 131) == decide (0 < n)) = true := by
      by_cases q : E = 131
      · rw [show (E == 131) = true by simpa using q, decide_eq_true (h131.1 q)]; rfl
      · rw [show (E == 131) = false by simpa using q, decide_eq_false (fun z => q (h131.2 z))]; rfl
    clear h131
    go_enter Tryz.func3, Tryz.ntmps3
    go_upto_region 3 with (go_at_call 6; refine KH.out.mono ?_; rintro e w1 ⟨rfl, h1⟩; have B1 := Lib.hid h1; clear h1)
    go_upto_region 4 with (go_at_call 7; refine (KR.out w1 B1.out s).mono ?_; rintro e w2 ⟨P, rfl, hpv, hkey, hb⟩; rw [HO.out] at hkey ⊢; simp only [Pg.agg]; have P2 := Lib.hid hpv; have Q2 := Lib.hid hkey; have B2 := Lib.hid (B1.out.trans (hb.mono B1.out.size)); clear hpv hkey hb)
    obtain ⟨W2, hW2⟩ : ∃ y, w2.alloc P.box = y := ⟨_, rfl⟩
    have A2 := Lib.hid (p := Below w2.heap.size w2 W2) (by rw [← hW2]; exact allocBP w2 P.box)
    have X2 : BkP W2 w2.heap.size P.arr 27 := by rw [← hW2]; exact heapN w2 _
    have C2 := Lib.hid (B2.out.trans (A2.out.mono B2.out.size))
    have KS := Lib.hid (same13_any (P2.out.later A2.out) (zero_pv W2) Q2.out.symm)
    unfold Pg.box at hW2
    rw [hW2]
    clear hW2
    unfold Pg.agg at KS
    obtain ⟨x0, x1, x2, x3, x4, x5, x6, x7⟩ := pcells X2
    clear X2
    go_wp2_with (go_at_call 8; refine KS.out.mono ?_; rintro e w3 ⟨rfl, h3⟩; have D3 := Lib.hid (C2.out.trans (h3.mono C2.out.size)); clear h3)
    go_ret
    exact ⟨by simp, D3.out⟩
end Go.Proofs.YtccjeipkljdhdaaGreatDoor

namespace Go.Proofs.YtccjeipkljdhdaaGreatDoor
open Go.RowKit
set_option linter.unusedVariables false
set_option linter.unusedSimpArgs false

end Go.Proofs.YtccjeipkljdhdaaGreatDoor

namespace Go.Proofs.YtccjeipkljdhdaaGreatDoor
open Go.RowKit
set_option linter.unusedVariables false
set_option linter.unusedSimpArgs false
end Go.Proofs.YtccjeipkljdhdaaGreatDoor
