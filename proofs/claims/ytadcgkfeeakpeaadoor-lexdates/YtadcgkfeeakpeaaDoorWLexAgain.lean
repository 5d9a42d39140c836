/-
  WALK: LexAgain.
-/
import Derived.Test.YtadcgkfeeakpeaaDoorWLexTells
import Derived.Test.YtadcgkfeeakpeaaDoorPlainAgain
import Derived.Laws.Concat
namespace Go.Proofs.YtadcgkfeeakpeaaDoor
open Go.RowKit Lx
set_option linter.unusedVariables false
set_option linter.unusedSimpArgs false

theorem add_strM (a b : ByteArray) (h : a.size + b.size ≤ 9223372036854775807) (W : World) : (Op.stringOp .add a b).run Tryd.prog W = .ok (.string (bs (lst a ++ lst b))) W := by
  have e : bs (lst a ++ lst b) = a ++ b := by
    obtain ⟨⟨x⟩⟩ := a; obtain ⟨⟨y⟩⟩ := b
    apply ByteArray.ext
    rw [ByteArray.data_append]
    simp [bs, lst]
  rw [e]
  exact run_string_add_sum W _ _ h
theorem app_size (a b : ByteArray) : (bs (lst a ++ lst b)).size = a.size + b.size := by rw [bs_size, List.length_append, lst_len, lst_len]
/-- One round of the building. -/
theorem build_step (sk st gap : ByteArray) (g : L) (ts : List Tok) (k : Nat) (hk : k < ts.length) (hg : lst gap = g) (ht : lst st = (ts.getD k default).t) (hs : lst sk = g ++ body g (ts.take k)) :
    lst (bs (lst (bs (lst (bs (lst sk ++ lst st)) ++ lst ⟨#[32]⟩)) ++ lst gap)) = g ++ body g (ts.take (k + 1)) := by
  rw [lst_bs, lst_bs, lst_bs, hs, ht, hg]
  have e : ts.take (k + 1) = ts.take k ++ [ts.getD k default] := by
    rw [List.take_add_one, List.getElem?_eq_getElem hk]; simp [List.getD, hk]
  rw [e, body_snoc]
  show (((g ++ body g (ts.take k)) ++ _) ++ [32]) ++ g = _
  simp
theorem TL.nth {w : World} {a : Option Addr} {n : Nat} {ts : List Tok} (h : TL w a n ts) (h0 : 0 < n) : ∃ x o, a = some ⟨x, o, none⟩ ∧ x < w.heap.size ∧ ∀ i, i < n → TK w x (o + i * 9) (ts.getD i default) := by
  rcases h.2.2 with h1 | h1
  · omega
  · exact h1
set_option maxRecDepth 100000 in
set_option maxHeartbeats 4000000 in
theorem lexAgain_go (text gap : ByteArray) (hu0 : text.size ≤ 1048576) (hu1 : gap.size ≤ 1048576) (w : World) (hM : Mon w) (hE : Ev w) :
    Calls Tryd.prog 3 #[.string text, .string gap] w fun e w' => e = .returned (.bool true) ∧ Below w.heap.size w w' := by
  have KT := Lib.hid (takes_any w hM hE)
  have HM := Lib.hid (p := ∀ W, Below w.heap.size w W → Mon W) (fun W b => mon_below (Nat.le_refl _) b hM)
  have HE := Lib.hid (p := ∀ W, Below w.heap.size w W → Ev W) (fun W b => ev_below hE b)
  obtain ⟨ts, p, er, hS⟩ := Scn.total (lst text)
  have KS := Lib.hid (fun W hM hE => scan_isM text ts p er hS W hM hE)
  have KL := Lib.hid (fun W => loose_any gap W (by omega))
  clear hM hE
  by_cases hok : er = 0 ∧ looseF false (lst gap) = some false
  · obtain ⟨he, hgap⟩ := hok
    subst he
    have hsc : Sc (lst text) 0 ts p 0 := by
      rcases hS with ⟨_, _, _, h⟩ | ⟨_, h⟩
      · cases h
      · exact h
    have hfew := hS.few
    have hlen : (lst text).length ≤ 65536 := by
      rcases hS with ⟨_, _, _, h⟩ | ⟨h, _⟩
      · cases h
      · exact h
    obtain ⟨us, hA, hz⟩ := hsc.again (lst gap) hgap
    have EACH := Lib.hid (p := ∀ i, i < ts.length → (ts.getD i default).t.length ≤ 65536) (fun i hi => by
      obtain ⟨q, _, _, h3⟩ := hsc.each (ts.getD i default) (by rw [show ts.getD i default = ts[i] by simp [List.getD, hi]]; exact List.getElem_mem hi)
      omega)
    have ZA := Lib.hid (p := us.length = ts.length ∧ ∀ i, i < ts.length → ∃ a, us.getD i default = { ts.getD i default with a := a }) ⟨by have := congrArg List.length hz; simpa using this, fun i hi => (z0_at hz i hi).2⟩
    have HA := Lib.hid hA
    rw [hgap] at KL
    change RowKit.Hid (∀ W, Calls Tryd.prog 13 #[.string gap] W fun e w' => e = .returned (.tuple #[.bool true, .bool false]) ∧ w' = W) at KL
    clear hS hsc hlen hA hz hgap
    obtain ⟨n, hn⟩ : ∃ n, ts.length = n := ⟨_, rfl⟩
    rw [hn] at KS EACH ZA hfew
    have HN := Lib.hid hn
    clear hn
    go_enter Tryd.func3, Tryd.ntmps3
    go_wp2_with (first
      | (go_at_call 11; refine KT.out.mono ?_; rintro e w1 ⟨rfl, b1⟩; have B1 := Lib.hid b1; clear b1)
      | (go_at_call 12; refine (KS.out _ (HM.out _ B1.out) (HE.out _ B1.out)).mono ?_; rintro e w2 ⟨a, cap, rfl, hL⟩; have B2 := Lib.hid (B1.out.trans (hL.bel.mono B1.out.size)); have T2 := Lib.hid hL.tl; rw [HN.out] at T2; clear hL)
      | (go_at_call 13; refine (KL.out _).mono ?_; rintro e w' ⟨rfl, hw⟩; have hw' := hw.symm; clear hw; subst hw'))
    go_loopw [11, 12] (fun x t wr => ∃ (k : Nat) (sk : ByteArray), k ≤ n ∧ x = .string sk ∧ t = .int .i64 (k : Int) ∧ RowKit.Hid (lst sk = lst gap ++ body (lst gap) (ts.take k)) ∧ sk.size ≤ 1048576 + k * 1114113 ∧ wr = w2) (fun _ t _ => n - intV t)
    case atStart => exact ⟨0, gap, by omega, rfl, rfl, by show lst gap = _; simp [body], by omega, rfl⟩
    case round =>
      obtain ⟨k, sk, hk, rfl, rfl, hN, hz, rfl⟩ := hrel
      rename World => w2
      by_cases hlt : k < n
      · obtain ⟨x, o, rfl, hx, hc⟩ := TL.nth T2.out (by omega)
        have x1 := (hc k hlt).c1
        have tl := EACH.out k hlt
        obtain ⟨st, hst⟩ : ∃ st, bs (ts.getD k default).t = st := ⟨_, rfl⟩
        have zs : st.size ≤ 65536 := by rw [← hst, bs_size]; exact tl
        have NX := Lib.hid (build_step sk st gap (lst gap) ts k (by rw [HN.out]; exact hlt) rfl (by rw [← hst, lst_bs]) hN.out)
        have q1 := add_strM sk st (by omega)
        have q2 := add_strM (bs (lst sk ++ lst st)) ⟨#[32]⟩ (by rw [app_size]; show _ + _ + 1 ≤ _; omega)
        have q3 := add_strM (bs (lst (bs (lst sk ++ lst st)) ++ lst ⟨#[32]⟩)) gap (by rw [app_size, app_size]; show _ + _ + 1 + _ ≤ _; omega)
        have zn : (bs (lst (bs (lst (bs (lst sk ++ lst st)) ++ lst ⟨#[32]⟩)) ++ lst gap)).size ≤ 1048576 + (k + 1) * 1114113 := by rw [app_size, app_size, app_size]; show _ + _ + 1 + _ ≤ _; omega
        rw [hst] at x1
        have kc : (k : Int) < (n : Int) := by omega
        have kw : IntKind.i64.wrap ((k : Int) + 1) = (k : Int) + 1 := by simp [IntKind.wrap, IntKind.bits, IntKind.signed]; omega
        have ME := Lib.hid (p := n - intV (.int .i64 ((k : Int) + 1)) < n - intV (.int .i64 (k : Int))) (by simp only [intV]; omega)
        have ZN := Lib.hid zn
        clear hc tl zn hN hst
        generalize bs (lst (bs (lst (bs (lst sk ++ lst st)) ++ lst ⟨#[32]⟩)) ++ lst gap) = s3 at *
        generalize bs (lst (bs (lst sk ++ lst st)) ++ lst ⟨#[32]⟩) = s2 at *
        generalize bs (lst sk ++ lst st) = s1 at *
        go_wp2
        go_roundw
        case rel => exact ⟨k + 1, s3, by omega, rfl, by simp, NX.out, ZN.out, trivial⟩
        case measure => exact ME.out
      · obtain rfl : k = n := by omega
        have hs := hN.out
        rw [List.take_of_length_le (by rw [HN.out]; exact Nat.le_refl _)] at hs
        have ha := HA.out
        rw [← hs] at ha
        by_cases hlong : 65536 < sk.size
        · have hl' : (65536 : Int) < (sk.size : Int) := by omega
          have KW := Lib.hid (fun W hM hE => scan_isM sk [] 0 6 (.inl ⟨by rw [lst_len]; exact hlong, rfl, rfl, rfl⟩) W hM hE)
          clear hN hs ha
          go_wp2_with (go_at_call 12; refine (KW.out _ (HM.out _ B2.out) (HE.out _ B2.out)).mono ?_; rintro e w3 ⟨b, cap', rfl, hL⟩; have B3 := Lib.hid (B2.out.trans (hL.bel.mono B2.out.size)); clear hL)
          go_ret
          exact ⟨rfl, B3.out⟩
        · have hl' : ¬ (65536 : Int) < (sk.size : Int) := by omega
          have KW := Lib.hid (fun W hM hE => scan_isM sk us 0 0 (.inr ⟨by rw [lst_len]; omega, ha⟩) W hM hE)
          have ul := ZA.out.1
          rw [ul] at KW
          clear hN hs ha
          go_wp2_with (go_at_call 12; refine (KW.out _ (HM.out _ B2.out) (HE.out _ B2.out)).mono ?_; rintro e w3 ⟨b, cap', rfl, hL⟩; have B3 := Lib.hid (B2.out.trans (hL.bel.mono B2.out.size)); have T3 := Lib.hid (T2.out.later hL.bel); have U3 := Lib.hid hL.tl; rw [ul] at U3; clear hL)
          go_loopw [16] (fun t wr => ∃ (i : Nat), i ≤ k ∧ t = .int .i64 (i : Int) ∧ Below w3.heap.size w3 wr) (fun t _ => k - intV t)
          case atStart => exact ⟨0, by omega, rfl, Below.refl _ _⟩
          case round =>
            obtain ⟨i, hi, rfl, hB⟩ := hrel
            rename World => wr
            have BB := Lib.hid hB
            by_cases hlt : i < k
            · obtain ⟨x, o, rfl, hx, hc⟩ := TL.nth T3.out (by omega)
              obtain ⟨y, o', rfl, hy, hd⟩ := TL.nth U3.out (by omega)
              obtain ⟨x0, x1, x2, x3, x4, x5, x6, x7, x8⟩ := (hc i hlt).later hB hx
              obtain ⟨y0, y1, y2, y3, y4, y5, y6, y7, y8⟩ := (hd i hlt).later hB hy
              obtain ⟨az, hz⟩ := ZA.out.2 i hlt
              rw [hz] at y0 y1 y2 y3 y4 y5 y6 y7 y8
              generalize ts.getD i default = f at *
              obtain ⟨tk, tt, ta, tn, ty, tm, td, tnn, tu⟩ := f
              simp only at x0 x1 x2 x3 x4 x5 x6 x7 x8 y0 y1 y2 y3 y4 y5 y6 y7 y8
              generalize bs tt = st at *
              have hxr : x < wr.heap.size := Nat.lt_of_lt_of_le hx hB.size
              have hyr : y < wr.heap.size := Nat.lt_of_lt_of_le hy hB.size
              have kc : (i : Int) < (k : Int) := by omega
              have kw : IntKind.i64.wrap ((i : Int) + 1) = (i : Int) + 1 := by simp [IntKind.wrap, IntKind.bits, IntKind.signed]; omega
              have ME := Lib.hid (p := k - intV (.int .i64 ((i : Int) + 1)) < k - intV (.int .i64 (i : Int))) (by simp only [intV]; omega)
              clear hc hd hz hB
              go_wp2
              go_roundw
              case rel => exact ⟨i + 1, by omega, by simp, (BB.out.alloc BB.out.size _).alloc (by simp; have := BB.out.size; omega) _⟩
              case measure => exact ME.out
            · obtain rfl : i = k := by omega
              go_wp2
              go_ret
              exact ⟨rfl, B3.out.trans (BB.out.mono B3.out.size)⟩
  · have hcs : (er ≠ 0) ∨ (er = 0 ∧ (looseF false (lst gap) = none ∨ looseF false (lst gap) = some true)) := by
      by_cases he : er = 0
      · refine .inr ⟨he, ?_⟩
        cases hq : looseF false (lst gap) with
        | none => exact .inl rfl
        | some o => cases o with
          | false => exact absurd ⟨he, hq⟩ hok
          | true => exact .inr rfl
      · exact .inl he
    rcases hcs with he | ⟨rfl, hq | hq⟩
    · have er0 : (er != 0) = true := by rw [bne_iff_ne]; exact he
      clear hok hS he
      go_enter Tryd.func3, Tryd.ntmps3
      go_wp2_with (first
        | (go_at_call 11; refine KT.out.mono ?_; rintro e w1 ⟨rfl, b1⟩; have B1 := Lib.hid b1; clear b1)
        | (go_at_call 12; refine (KS.out _ (HM.out _ B1.out) (HE.out _ B1.out)).mono ?_; rintro e w2 ⟨a, cap, rfl, hL⟩; have B2 := Lib.hid (B1.out.trans (hL.bel.mono B1.out.size)); clear hL)
        | (go_at_call 13; refine (KL.out _).mono ?_; rintro e w' ⟨rfl, hw⟩; have hw' := hw.symm; clear hw; subst hw'))
      go_ret
      exact ⟨rfl, B2.out⟩
    · rw [hq] at KL
      change RowKit.Hid (∀ W, Calls Tryd.prog 13 #[.string gap] W fun e w' => e = .returned (.tuple #[.bool false, .bool false]) ∧ w' = W) at KL
      clear hok hS hq
      go_enter Tryd.func3, Tryd.ntmps3
      go_wp2_with (first
        | (go_at_call 11; refine KT.out.mono ?_; rintro e w1 ⟨rfl, b1⟩; have B1 := Lib.hid b1; clear b1)
        | (go_at_call 12; refine (KS.out _ (HM.out _ B1.out) (HE.out _ B1.out)).mono ?_; rintro e w2 ⟨a, cap, rfl, hL⟩; have B2 := Lib.hid (B1.out.trans (hL.bel.mono B1.out.size)); clear hL)
        | (go_at_call 13; refine (KL.out _).mono ?_; rintro e w' ⟨rfl, hw⟩; have hw' := hw.symm; clear hw; subst hw'))
      go_ret
      exact ⟨rfl, B2.out⟩
    · rw [hq] at KL
      change RowKit.Hid (∀ W, Calls Tryd.prog 13 #[.string gap] W fun e w' => e = .returned (.tuple #[.bool true, .bool true]) ∧ w' = W) at KL
      clear hok hS hq
      go_enter Tryd.func3, Tryd.ntmps3
      go_wp2_with (first
        | (go_at_call 11; refine KT.out.mono ?_; rintro e w1 ⟨rfl, b1⟩; have B1 := Lib.hid b1; clear b1)
        | (go_at_call 12; refine (KS.out _ (HM.out _ B1.out) (HE.out _ B1.out)).mono ?_; rintro e w2 ⟨a, cap, rfl, hL⟩; have B2 := Lib.hid (B1.out.trans (hL.bel.mono B1.out.size)); clear hL)
        | (go_at_call 13; refine (KL.out _).mono ?_; rintro e w' ⟨rfl, hw⟩; have hw' := hw.symm; clear hw; subst hw'))
      go_ret
      exact ⟨rfl, B2.out⟩
end Go.Proofs.YtadcgkfeeakpeaaDoor
