/-
  WALK: LexTells.
-/
import Derived.Test.YtadcgkfeeakpeaaDoorWLexLoose
namespace Go.Proofs.YtadcgkfeeakpeaaDoor
open Go.RowKit Lx
set_option linter.unusedVariables false
set_option linter.unusedSimpArgs false

theorem scan_isM (s : ByteArray) (ts : List Tok) (p : Nat) (er : Int) (hS : Scn (lst s) ts p er) (w : World) (hM : Mon w) (hE : Ev w) :
    Calls Tryd.prog 12 #[.string s] w fun e w' => ∃ a cap, e = .returned (.tuple #[.slice a ts.length cap, .int .i64 (p : Int), .int .i64 er]) ∧ SL w w' (.slice a ts.length cap) a cap ts := by
  rcases Nat.lt_or_ge 65536 s.size with h | h
  · obtain ⟨rfl, rfl, rfl⟩ : ts = [] ∧ p = 0 ∧ er = 6 := by
      rcases hS with ⟨_, h1, h2, h3⟩ | ⟨h1, _⟩
      · exact ⟨h1, h2, h3⟩
      · rw [lst_len] at h1; omega
    have h' : (65536 : Int) < (s.size : Int) := by omega
    have FIN := Lib.hid (p := SL w w (.slice none 0 0) none 0 []) ⟨World.ownsRow_nil _ _ _ _, ⟨rfl, by decide, .inl rfl⟩, Below.refl _ _, Nat.le_refl _⟩
    clear hS hM hE
    go_enter Tryd.func12, Tryd.ntmps12
    go_wp2
    go_step3
    go_wp2
    try rw [Exit.noGoto_ret]
    exact bodyPost_ret (v := .tuple #[.slice none 0 0, .int .i64 0, .int .i64 6]) (by simp [results, Tryd.results12, go_sem]) rfl ⟨none, 0, rfl, FIN.out⟩
  · exact scan_is s (by omega) ts p er hS w hM hE
theorem Lx.Sc.zero {r : L} {at_ : Nat} {ts : List Tok} {p : Nat} {e : Int} (h : Sc r at_ ts p e) : e = 0 → p = 0 := by
  induction h with
  | done a => intro _; rfl
  | skip hr h k ih => exact ih
  | tok hr h k ih => exact ih
  | err hr h => intro he; have g := step_good hr; rw [h] at g; exact absurd he g.2.1
set_option maxRecDepth 100000 in
set_option maxHeartbeats 2000000 in
theorem lexTells_go (text : ByteArray) (w : World) (hM : Mon w) (hE : Ev w) :
    Calls Tryd.prog 6 #[.string text] w fun e w' => e = .returned (.bool true) ∧ Below w.heap.size w w' := by
  have KT := Lib.hid (takes_any w hM hE)
  have HM := Lib.hid (p := ∀ W, Below w.heap.size w W → Mon W) (fun W b => mon_below (Nat.le_refl _) b hM)
  have HE := Lib.hid (p := ∀ W, Below w.heap.size w W → Ev W) (fun W b => ev_below hE b)
  obtain ⟨ts, p, er, hS⟩ := Scn.total (lst text)
  have KS := Lib.hid (fun W hM hE => scan_isM text ts p er hS W hM hE)
  clear hM hE
  rcases hS with ⟨h1, rfl, rfl, rfl⟩ | ⟨h1, h2⟩
  · rw [lst_len] at h1
    have h1' : (65536 : Int) < (text.size : Int) := by omega
    go_enter Tryd.func6, Tryd.ntmps6
    go_wp2_with (first
      | (go_at_call 11; refine KT.out.mono ?_; rintro e w1 ⟨rfl, b1⟩; have B1 := Lib.hid b1; clear b1)
      | (go_at_call 12; refine (KS.out _ (HM.out _ B1.out) (HE.out _ B1.out)).mono ?_; rintro e w2 ⟨a, cap, rfl, hL⟩; have B2 := Lib.hid (B1.out.trans (hL.bel.mono B1.out.size)); clear hL))
    go_ret
    exact ⟨rfl, B2.out⟩
  · rw [lst_len] at h1
    have h1' : ¬ (65536 : Int) < (text.size : Int) := by omega
    have hT := h2.tells
    by_cases he : er = 0
    · subst he
      rw [if_pos rfl, lst_len] at hT
      have hp : p = 0 := Sc.zero h2 rfl
      subst hp
      have KX := Lib.hid (fun a cap W h => tells_any text a ts.length cap text.size ts W h1 h hT)
      clear h2 hT
      go_enter Tryd.func6, Tryd.ntmps6
      go_wp2_with (first
        | (go_at_call 11; refine KT.out.mono ?_; rintro e w1 ⟨rfl, b1⟩; have B1 := Lib.hid b1; clear b1)
        | (go_at_call 12; refine (KS.out _ (HM.out _ B1.out) (HE.out _ B1.out)).mono ?_; rintro e w2 ⟨a, cap, rfl, hL⟩; have B2 := Lib.hid (B1.out.trans (hL.bel.mono B1.out.size)); have T2 := Lib.hid hL.tl; clear hL)
        | (go_at_call 15; refine (KX.out _ _ _ T2.out).mono ?_; rintro e w3 ⟨rfl, b3⟩; have B3 := Lib.hid (B2.out.trans (b3.mono B2.out.size)); clear b3))
      go_ret
      exact ⟨rfl, B3.out⟩
    · rw [if_neg he] at hT
      obtain ⟨j, c1, c2, c3, c4, c5⟩ := h2.cut
      rw [lst_len] at c5 c1
      have c5' := c5 he
      have hfew := h2.few
      rw [lst_len] at hfew
      have er0 : ¬ er = 0 := he
      have pl : ¬ (text.size : Int) ≤ (p : Int) := by omega
      have pl' : decide ((text.size : Int) ≤ (p : Int)) = false := decide_eq_false pl
      have pl2 : decide (text.size ≤ p) = false := decide_eq_false (by omega)
      cases ts with
      | nil =>
        have KX := Lib.hid (fun a cap W h => tells_any text a 0 cap 0 [] W h1 h (by simpa [endOf] using hT))
        have KE := Lib.hid (fun W hM hE => scan_is (bs []) (by decide) [] 0 0 (.inr ⟨by decide, by rw [lst_bs]; exact .done _⟩) W hM hE)
        have KQ := Lib.hid (fun a b c1 c2 W h h' => sameTok_any a b 0 c1 c2 [] W h h')
        have s1 := cutTo text 0 (by omega) (by omega)
        rw [show (List.take (Int.toNat 0) (lst text)) = [] from rfl] at s1
        have p0 : ¬ (p : Int) < 0 := by omega
        have p1 : decide ((p : Int) < 0) = false := decide_eq_false p0
        generalize bs [] = sE at *
        clear h2 hT c1 c2 c3 c4 c5 c5'
        go_enter Tryd.func6, Tryd.ntmps6
        go_wp2_with (first
          | (go_at_call 11; refine KT.out.mono ?_; rintro e w1 ⟨rfl, b1⟩; have B1 := Lib.hid b1; clear b1; have Q0 := Lib.hid (p := (1 : Nat) = 1) rfl)
          | (go_at_call 12; have qq := Q0; refine (KS.out _ (HM.out _ B1.out) (HE.out _ B1.out)).mono ?_; rintro e w2 ⟨a, cap, rfl, hL⟩; have B2 := Lib.hid (B1.out.trans (hL.bel.mono B1.out.size)); have T2 := Lib.hid hL.tl; clear hL Q0)
          | (go_at_call 15; refine (KX.out _ _ _ T2.out).mono ?_; rintro e w3 ⟨rfl, b3⟩; have B3 := Lib.hid (B2.out.trans (b3.mono B2.out.size)); have T3 := Lib.hid (T2.out.later b3); clear b3)
          | (go_at_call 12; refine (KE.out _ (HM.out _ B3.out) (HE.out _ B3.out)).mono ?_; rintro e w4 ⟨b, cap', rfl, hL⟩; have B4 := Lib.hid (B3.out.trans (hL.bel.mono B3.out.size)); have T4 := Lib.hid (T3.out.later hL.bel); have U4 := Lib.hid hL.tl; clear hL)
          | (go_at_call 14; refine (KQ.out _ _ _ _ _ T4.out U4.out).mono ?_; rintro e w5 ⟨rfl, q, rfl⟩))
        go_ret
        exact ⟨rfl, ⟨B4.out.os, B4.out.tape, B4.out.output, B4.out.size, B4.out.block⟩⟩
      | cons t0 ts0 =>
        obtain ⟨tl, htl⟩ : ∃ tl, (t0 :: ts0).getLast? = some tl := ⟨_, List.getLast?_eq_some_getLast (l := t0 :: ts0) (by simp)⟩
        obtain ⟨q, e1, e2, e3⟩ := hT.ends tl htl
        rw [lst_len] at e2
        rw [if_neg (by simp)] at c3 c4 c5'
        have ej : j = q + tl.t.length := by rw [← e3, c3]; omega
        subst ej
        rw [e3] at hT
        have hlast : ∀ m, (t0 :: ts0).length = m + 1 → (t0 :: ts0).getD m default = tl := fun m hm => by
          rw [List.getLast?_eq_getElem?, hm] at htl
          rw [List.getD_eq_getElem?_getD, show m = m + 1 - 1 by omega, htl]; rfl
        generalize hts : t0 :: ts0 = ts at *
        obtain ⟨m, hm⟩ : ∃ m, ts.length = m + 1 := ⟨ts0.length, by rw [← hts]; rfl⟩
        have hl0 := hlast m hm
        obtain ⟨tk, tt, ta, tn, ty, tm, td, tnn, tu⟩ := tl
        simp only at e1 e2 c3 c4 c5' hT
        subst e1
        obtain ⟨st, hst⟩ : ∃ st, bs tt = st := ⟨_, rfl⟩
        have zs : st.size = tt.length := by rw [← hst, bs_size]
        rw [← zs] at e2 c3 c4 c5' hT
        have KX := Lib.hid (fun a cap W h => tells_any text a ts.length cap (q + st.size) ts W h1 h hT)
        have s1 := cutTo text ((q : Int) + (st.size : Int)) (by omega) (by omega)
        rw [show ((q : Int) + (st.size : Int)).toNat = q + st.size by omega] at s1
        obtain ⟨sE, hsE⟩ : ∃ sE, bs ((lst text).take (q + st.size)) = sE := ⟨_, rfl⟩
        have zE : sE.size ≤ 65536 := by rw [← hsE, bs_size, List.length_take, lst_len]; omega
        rw [hsE] at s1
        have KE := Lib.hid (fun W hM hE => scan_is sE (by omega) ts 0 0 (.inr ⟨by rw [lst_len]; exact zE, by rw [← hsE, lst_bs]; exact c4⟩) W hM hE)
        have KQ := Lib.hid (fun a b c1 c2 W h h' => sameTok_any a b ts.length c1 c2 ts W h h')
        have LC := Lib.hid (p := ∀ W a, TL W a ts.length ts → ∃ x o, a = some ⟨x, o, none⟩ ∧ W.cell? ⟨x, o + m * 9 + 1, none⟩ = some (.string st) ∧ W.cell? ⟨x, o + m * 9 + 2, none⟩ = some (.int .i64 (q : Int))) (fun W a h => by
          rcases h.2.2 with h0 | ⟨x, o, ha, _, hc⟩
          · omega
          · have := hc m (by omega)
            rw [hl0] at this
            exact ⟨x, o, ha, by rw [this.c1, hst], this.c2⟩)
        rw [hm] at KX KQ KE KS LC
        have kw : IntKind.i64.wrap ((q : Int) + (st.size : Int)) = (q : Int) + (st.size : Int) := by simp [IntKind.wrap, IntKind.bits, IntKind.signed]; omega
        have kw2 : IntKind.i64.wrap ((m : Int) + 1 - 1) = (m : Int) := by simp [IntKind.wrap, IntKind.bits, IntKind.signed]; omega
        have kw3 : IntKind.i64.wrap (m : Int) = (m : Int) := by simp [IntKind.wrap, IntKind.bits, IntKind.signed]; omega
        have p0 : ¬ (p : Int) < 0 := by omega
        have p1 : decide ((p : Int) < 0) = false := decide_eq_false p0
        have n0 : ¬ (q : Int) + (st.size : Int) < 0 := by omega
        have n1 : decide ((q : Int) + (st.size : Int) < 0) = false := decide_eq_false n0
        have n2 : decide ((p : Int) < (q : Int) + (st.size : Int)) = false := decide_eq_false (by omega)
        have m0 : (0 : Int) < (m : Int) + 1 := by omega
        clear h2 hT c1 c2 c3 c4 c5 c5' hfew hl0 hlast hts htl e2 e3 hst zs hsE zE
        rw [Int.natCast_add] at KX
        go_enter Tryd.func6, Tryd.ntmps6
        go_wp2_with (first
          | (go_at_call 11; refine KT.out.mono ?_; rintro e w1 ⟨rfl, b1⟩; have B1 := Lib.hid b1; clear b1; have Q0 := Lib.hid (p := (1 : Nat) = 1) rfl)
          | (go_at_call 12; have qq := Q0; refine (KS.out _ (HM.out _ B1.out) (HE.out _ B1.out)).mono ?_; rintro e w2 ⟨a, cap, rfl, hL⟩; have B2 := Lib.hid (B1.out.trans (hL.bel.mono B1.out.size)); have T2 := Lib.hid hL.tl; rw [hm] at T2; obtain ⟨x, o, rfl, y1, y2⟩ := LC.out _ _ T2.out; clear hL Q0))
        go_quiet (fail)
        have T2' := Lib.hid (fun q => T2.out.later (below_q q))
        have B2' := Lib.hid (fun q => (show Below w.heap.size w (w2.drewN q) from ⟨B2.out.os, B2.out.tape, B2.out.output, B2.out.size, B2.out.block⟩))
        go_wp2_with (first
          | (go_at_call 15; refine (KX.out _ _ _ (T2'.out _)).mono ?_; rintro e w3 ⟨rfl, b3⟩; have B3 := Lib.hid ((B2'.out _).trans (b3.mono (B2'.out _).size)); have T3 := Lib.hid ((T2'.out _).later b3); clear b3)
          | (go_at_call 12; refine (KE.out _ (HM.out _ B3.out) (HE.out _ B3.out)).mono ?_; rintro e w4 ⟨b, cap', rfl, hL⟩; have B4 := Lib.hid (B3.out.trans (hL.bel.mono B3.out.size)); have T4 := Lib.hid (T3.out.later hL.bel); have U4 := Lib.hid hL.tl; rw [hm] at U4; clear hL)
          | (go_at_call 14; refine (KQ.out _ _ _ _ _ T4.out U4.out).mono ?_; rintro e w5 ⟨rfl, q, rfl⟩))
        go_ret
        exact ⟨rfl, ⟨B4.out.os, B4.out.tape, B4.out.output, B4.out.size, B4.out.block⟩⟩
end Go.Proofs.YtadcgkfeeakpeaaDoor
