/-
  WALKS: takes, LexFirst.
-/
import Derived.Test.YtadcgkfeeakpeaaDoorWLexS
namespace Go.Proofs.YtadcgkfeeakpeaaDoor
open Go.RowKit Lx
set_option linter.unusedVariables false
set_option linter.unusedSimpArgs false

theorem sc_takes : Sc [32, 97, 32, 35, 32, 98] 0 [⟨1, [97], 1, 0, 0, 0, 0, 0, 0⟩] 0 0 :=
  .skip (n := 1) (by simp) rfl (.tok (t := ⟨1, [97], 0, 0, 0, 0, 0, 0, 0⟩) (by simp) rfl (.skip (n := 1) (by simp) rfl (.skip (n := 3) (by simp) rfl (.done _))))
theorem TL.one {w : World} {a : Option Addr} {t : Tok} (h : TL w a 1 [t]) : ∃ x o, a = some ⟨x, o, none⟩ ∧ TK w x o t := by
  rcases h.2.2 with h0 | ⟨x, o, e, _, hc⟩
  · omega
  · have := hc 0 (by omega)
    rw [Nat.zero_mul, Nat.add_zero] at this
    exact ⟨x, o, e, this⟩
theorem takes_any (w : World) (hM : Mon w) (hE : Ev w) : Calls Tryd.prog 11 #[] w fun e w' => e = .returned (.bool true) ∧ Below w.heap.size w w' := by
  have KS := Lib.hid (scan_is ⟨#[32, 97, 32, 35, 32, 98]⟩ (by decide) [⟨1, [97], 1, 0, 0, 0, 0, 0, 0⟩] 0 0 (.inr ⟨by decide, sc_takes⟩) w hM hE)
  clear hM hE
  go_enter Tryd.func11, Tryd.ntmps11
  go_wp2_with (go_at_call 12; refine KS.out.mono ?_; rintro e w1 ⟨a, cap, rfl, hL⟩; have B1 := Lib.hid hL.bel; obtain ⟨x, o, rfl, hK⟩ := TL.one hL.tl; obtain ⟨c0, c1, c2, c3, c4, c5, c6, c7, c8⟩ := hK; rw [show bs [97] = (⟨#[97]⟩ : ByteArray) from rfl] at c1; clear hL)
  go_ret
  exact ⟨rfl, B1.out⟩
theorem add_str (a b : ByteArray) (h1 : a.size ≤ 8388608) (h2 : b.size ≤ 8388608) (W : World) : (Op.stringOp .add a b).run Tryd.prog W = .ok (.string (bs (lst a ++ lst b))) W := by
  have e : bs (lst a ++ lst b) = a ++ b := by
    obtain ⟨⟨x⟩⟩ := a; obtain ⟨⟨y⟩⟩ := b
    apply ByteArray.ext
    rw [ByteArray.data_append]
    simp [bs, lst]
  rw [e]
  exact run_string_add W _ _ (by omega) (by omega)
theorem TL.cut {w : World} {b : Option Addr} {ts us : List Tok} (h : TL w b (ts ++ us).length (ts ++ us)) : TL w b ts.length ts := by
  obtain ⟨h1, h2, h3⟩ := h
  rw [List.length_append] at h2 h3
  refine ⟨rfl, by omega, ?_⟩
  rcases h3 with h3 | ⟨x, o, e, hx, hc⟩
  · exact .inl (by omega)
  · refine .inr ⟨x, o, e, hx, fun i hi => ?_⟩
    have := hc i (by omega)
    rwa [show (ts ++ us).getD i default = ts.getD i default by simp [List.getD, List.getElem?_append_left hi]] at this
set_option maxHeartbeats 2000000 in
theorem lexFirst_go (text tail : ByteArray) (h1 : text.size ≤ 1048576) (h2 : tail.size ≤ 1048576) (w : World) (hM : Mon w) (hE : Ev w) :
    Calls Tryd.prog 4 #[.string text, .string tail] w fun e w' => e = .returned (.bool true) ∧ Below w.heap.size w w' := by
  have KT := Lib.hid (takes_any w hM hE)
  have HM := Lib.hid (p := ∀ W, Below w.heap.size w W → Mon W) (fun W b => mon_below (Nat.le_refl _) b hM)
  have HE := Lib.hid (p := ∀ W, Below w.heap.size w W → Ev W) (fun W b => ev_below hE b)
  have s1 := add_str text ⟨#[10]⟩ (by omega) (by decide)
  obtain ⟨t1, ht1⟩ : ∃ t1, bs (lst text ++ lst ⟨#[10]⟩) = t1 := ⟨_, rfl⟩
  have z1 : t1.size = text.size + 1 := by rw [← ht1, bs_size, List.length_append, lst_len]; rfl
  rw [ht1] at s1
  have s2 := add_str t1 tail (by omega) (by omega)
  obtain ⟨wh, hwh⟩ : ∃ wh, bs (lst t1 ++ lst tail) = wh := ⟨_, rfl⟩
  have z2 : wh.size = text.size + 1 + tail.size := by rw [← hwh, bs_size, List.length_append, lst_len, lst_len, z1]
  have EW : lst wh = lst text ++ 10 :: lst tail := by
    rw [← hwh, lst_bs, ← ht1, lst_bs, List.append_assoc]; rfl
  rw [hwh] at s2
  clear hM hE hwh ht1
  by_cases hlong : 65536 < wh.size
  · have hl' : (65536 : Int) < (wh.size : Int) := by omega
    clear EW z1 z2
    go_enter Tryd.func4, Tryd.ntmps4
    go_wp2_with (go_at_call 11; refine KT.out.mono ?_; rintro e w1 ⟨rfl, b1⟩; have B1 := Lib.hid b1; clear b1)
    go_ret
    exact ⟨rfl, B1.out⟩
  · have hl' : ¬ (65536 : Int) < (wh.size : Int) := by omega
    obtain ⟨ts, p, er, hS⟩ := Sc.total (lst text).length (lst text) 0 (Nat.le_refl _)
    have KS := Lib.hid (fun W hM hE => scan_is text (by omega) ts p er (.inr ⟨by rw [lst_len]; omega, hS⟩) W hM hE)
    obtain ⟨m1, m2⟩ := Sc.more (lst tail) hS
    by_cases he : er = 0
    · subst he
      obtain ⟨us, p', er', hU⟩ := Sc.total (lst tail).length (lst tail) (0 + (lst text).length + 1) (Nat.le_refl _)
      have hW := m2 rfl us p' er' hU
      rw [← EW] at hW
      have KW := Lib.hid (fun W hM hE => scan_is wh (by omega) (ts ++ us) p' er' (.inr ⟨by rw [lst_len]; omega, hW⟩) W hM hE)
      have KX := Lib.hid (fun a b c1 c2 W h h' => sameTok_any a b ts.length c1 c2 ts W h h')
      have ln : ¬ ((ts ++ us).length : Int) < (ts.length : Int) := by rw [List.length_append]; omega
      have ln2 : ts.length ≤ (ts ++ us).length := by rw [List.length_append]; omega
      have CUT := Lib.hid (p := ∀ W b, TL W b (ts ++ us).length (ts ++ us) → TL W b ts.length ts) (fun W b h => h.cut)
      clear hS m1 m2 hU hW EW z1 z2
      generalize ts ++ us = vs at *
      go_enter Tryd.func4, Tryd.ntmps4
      go_wp2_with (first
        | (go_at_call 11; refine KT.out.mono ?_; rintro e w1 ⟨rfl, b1⟩; have B1 := Lib.hid b1; clear b1; have Q0 := Lib.hid (p := (1 : Nat) = 1) rfl)
        | (go_at_call 12; have qq := Q0; refine (KS.out _ (HM.out _ B1.out) (HE.out _ B1.out)).mono ?_; rintro e w2 ⟨a, cap, rfl, hL⟩; have B2 := Lib.hid (B1.out.trans (hL.bel.mono B1.out.size)); have T2 := Lib.hid hL.tl; clear hL Q0)
        | (go_at_call 12; refine (KW.out _ (HM.out _ B2.out) (HE.out _ B2.out)).mono ?_; rintro e w3 ⟨b, cap', rfl, hL⟩; have B3 := Lib.hid (B2.out.trans (hL.bel.mono B2.out.size)); have T3 := Lib.hid (T2.out.later hL.bel); have U3 := Lib.hid (CUT.out _ _ hL.tl); have cp : (ts.length : Int) ≤ (cap' : Int) := (by have := hL.cp; omega); have cp' : ts.length ≤ cap' := (by omega); clear hL)
        | (go_at_call 14; refine (KX.out _ _ _ _ _ T3.out U3.out).mono ?_; rintro e w4 ⟨rfl, q, rfl⟩))
      go_ret
      exact ⟨rfl, ⟨B3.out.os, B3.out.tape, B3.out.output, B3.out.size, B3.out.block⟩⟩
    · have hW := m1 he
      rw [← EW] at hW
      have KW := Lib.hid (fun W hM hE => scan_is wh (by omega) ts p er (.inr ⟨by rw [lst_len]; omega, hW⟩) W hM hE)
      have KX := Lib.hid (fun a b c1 c2 W h h' => sameTok_any a b ts.length c1 c2 ts W h h')
      have er0 : (er != 0) = true := by rw [bne_iff_ne]; exact he
      clear hS m1 m2 hW EW z1 z2
      go_enter Tryd.func4, Tryd.ntmps4
      go_wp2_with (first
        | (go_at_call 11; refine KT.out.mono ?_; rintro e w1 ⟨rfl, b1⟩; have B1 := Lib.hid b1; clear b1; have Q0 := Lib.hid (p := (1 : Nat) = 1) rfl)
        | (go_at_call 12; have qq := Q0; refine (KS.out _ (HM.out _ B1.out) (HE.out _ B1.out)).mono ?_; rintro e w2 ⟨a, cap, rfl, hL⟩; have B2 := Lib.hid (B1.out.trans (hL.bel.mono B1.out.size)); have T2 := Lib.hid hL.tl; clear hL Q0)
        | (go_at_call 12; refine (KW.out _ (HM.out _ B2.out) (HE.out _ B2.out)).mono ?_; rintro e w3 ⟨b, cap', rfl, hL⟩; have B3 := Lib.hid (B2.out.trans (hL.bel.mono B2.out.size)); have T3 := Lib.hid (T2.out.later hL.bel); have U3 := Lib.hid hL.tl; clear hL)
        | (go_at_call 14; refine (KX.out _ _ _ _ _ T3.out U3.out).mono ?_; rintro e w4 ⟨rfl, q, rfl⟩))
      go_ret
      exact ⟨rfl, ⟨B3.out.os, B3.out.tape, B3.out.output, B3.out.size, B3.out.block⟩⟩
end Go.Proofs.YtadcgkfeeakpeaaDoor
