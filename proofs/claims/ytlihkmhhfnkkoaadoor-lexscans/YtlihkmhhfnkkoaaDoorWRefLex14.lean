/-
  WALK: the document's Scan.
-/
import Derived.Test.YtlihkmhhfnkkoaaDoorWRefLex13
import Derived.Test.YtlihkmhhfnkkoaaDoorWLexS
import Derived.Test.YtlihkmhhfnkkoaaDoorWLexE
namespace Go.Proofs.YtlihkmhhfnkkoaaDoor
open Go.RowKit Lx
set_option linter.unusedVariables false
set_option linter.unusedSimpArgs false

theorem namT_or (p : Nat → Bool) (k : Int) (r : L) : (∃ t, namT p k r = .tok t) ∨ ∃ n e, namT p k r = .err n e := by
  unfold namT; split
  · exact .inl ⟨_, rfl⟩
  · exact .inr ⟨_, _, rfl⟩
theorem step_noskip {r : L} (h1 : blN (r.headD 0).toNat = false) (h2 : (r.headD 0).toNat ≠ 35) (n : Nat) : Lx.step r ≠ .skip n := by
  rw [step_plain h1 h2]
  intro e
  split at e
  · rcases datT_or (r.take 10) with ⟨t, h⟩ | ⟨x, h⟩ <;> rw [h] at e <;> cases e
  · split at e
    · rcases digT_or (run r) with ⟨t, h⟩ | ⟨x, h⟩ <;> rw [h] at e <;> cases e
    · split at e
      · rcases namT_or smN 1 (run r) with ⟨t, h⟩ | ⟨m, x, h⟩ <;> rw [h] at e <;> cases e
      · split at e
        · rcases namT_or cpN 2 (run r) with ⟨t, h⟩ | ⟨m, x, h⟩ <;> rw [h] at e <;> cases e
        · rcases marT_or r with ⟨t, h⟩ | ⟨x, h⟩ <;> rw [h] at e <;> cases e
theorem SI.bl {w wr : World} {s : ByteArray} {v : Value} {k b : Nat} {acc : List Tok} (h : SI w wr s v k acc) (hb : BlEnd s k b) : SI w wr s v b acc :=
  ⟨h.ow, hb.2.1, Nat.le_trans h.ln hb.1, fun ts p e q => h.sc ts p e (hb.2.2.1 ts p e q), h.bel⟩
theorem box_kept {B B' : Nat} {wr w1 w4 : World} {v v' : Value} {xs ys : List Tok} {o : Obj} (hE : ExtT B (w1.alloc o) v xs w4 v' ys) (ho : OwT wr B' v xs) (hb : wr.heap.size ≤ w1.heap.size) : w4.heap[w1.heap.size]? = some o :=
  (hE.grown.block w1.heap.size (by simp) (fun e => absurd (World.ownsRow.lt ho _ e.symm).2 (by omega))).trans (World.alloc_heap_new w1 o)
/-- No blank and no comment at the place. -/
def Plc (s : ByteArray) (k : Nat) : Prop := ∀ h : k < s.size, blN (s[k].toNat) = false ∧ s[k].toNat ≠ 35
set_option maxRecDepth 100000 in
set_option maxHeartbeats 2000000 in
theorem rscan_any (s : ByteArray) (w : World) (hs : s.size ≤ 65536) :
    Calls Tryd.prog 5 #[.string s] w fun e w' => ScanP w s e w' := by
  have szI : ¬ (65536 : Int) < (s.size : Int) := by omega
  have K0 := Lib.hid (fun W => rblanks_any s 0 W hs (by omega))
  go_enter Tryd.func5, Tryd.ntmps5
  go_wp2_with (go_at_call 19; refine (K0.out _).mono ?_; rintro e w' ⟨⟨b0, rfl, hE⟩, hw⟩; have hw' := hw.symm; clear hw; subst hw'; have S0 := Lib.hid (SI.bl (SI.start w s) hE); have P0 := Lib.hid (p := Plc s b0) hE.2.2.2; clear hE)
  go_loopw [5, 6] (fun x t wr => ∃ (k : Nat) (acc : List Tok) (v : Value), v = x ∧ t = .int .i64 k ∧ SI w wr s v k acc ∧ RowKit.Hid (Plc s k)) (fun _ t _ => s.size - intV t)
  case atStart => exact ⟨b0, [], _, rfl, rfl, S0.out, P0.out⟩
  case round =>
    obtain ⟨k, acc, v, rfl, rfl, hI, hP⟩ := hrel
    rename World => wr
    have II := Lib.hid hI
    have LN := Lib.hid (p := acc.length ≤ 65536) (Nat.le_trans hI.ln (Nat.le_trans hI.le hs))
    have SZ := Lib.hid hI.bel.size
    clear hI K0 S0 P0
    by_cases hlt : k < s.size
    · have kc : (k : Int) < (s.size : Int) := by omega
      obtain ⟨h1, h2⟩ := hP.out hlt
      have KT := Lib.hid (fun W => rtoken_any s k W hs hlt h1 h2)
      have NS := step_noskip (r := (lst s).drop k) (by rw [head_drop hlt]; exact h1) (by rw [head_drop hlt]; exact h2)
      have hr : (lst s).drop k ≠ [] := drop_ne (by rw [lst_len]; exact hlt)
      have g := step_good hr
      clear hP h1 h2
      cases hst : Lx.step ((lst s).drop k) with
      | skip n => exact absurd hst (NS n)
      | err n er =>
        rw [hst] at g KT
        simp only [atV, trEnd, tokR, tokR0] at KT
        have e0 : ((er : Int) != 0) = true := by rw [bne_iff_ne]; exact g.2.1
        have e1 : ¬ er = 0 := g.2.1
        have YE := Lib.hid (p := ∀ w', Below wr.heap.size wr w' → ScanP w s (.returned (.tuple #[v, .int .i64 ((k : Int) + (n : Int)), .int .i64 er])) w') (fun w' b => SI.err II.out hlt hst b)
        clear hst g NS hr
        go_wp2_with (go_at_call 20; refine (KT.out _).mono ?_; rintro e w1 ⟨rfl, b1⟩; have B1 := Lib.hid b1; clear b1)
        exact bodyPost_ret (v := .tuple #[v, .int .i64 ((k : Int) + (n : Int)), .int .i64 er]) (by simp [results, Tryd.results5, go_sem]) rfl (YE.out _ (by first | exact B1.out | exact B1.out.alloc B1.out.size _))
      | tok T0 =>
        rw [hst] at g KT
        have TI := Lib.hid (fun w' v' => SI.tok (w := w) (wr := wr) (w' := w') (v' := v') (t := T0) II.out hlt hst)
        have gl : T0.t.length ≤ s.size - k := by
          have := congrArg List.length g.2.1
          rw [List.length_take, List.length_drop, lst_len] at this
          omega
        have g0 := g.1
        clear hst g NS hr
        obtain ⟨tk, tt, ta, tn, ty, tm, td, tnn, tu⟩ := T0
        simp only at gl g0
        obtain ⟨st, hst⟩ : ∃ st, bs tt = st := ⟨_, rfl⟩
        simp only [atV, trEnd, tokR] at KT
        rw [hst] at KT
        have ZZ := Lib.hid (p := st.size = tt.length) (by rw [← hst, bs_size])
        have EST := Lib.hid hst.symm
        have l1 : 1 ≤ st.size := by rw [ZZ.out]; exact g0
        have l2 : st.size ≤ s.size - k := by rw [ZZ.out]; exact gl
        have KB := Lib.hid (p := ∀ W, Calls Tryd.prog 19 #[.string s, .int .i64 ((k : Int) + (st.size : Int))] W fun e w' => BlP s (k + st.size) e ∧ w' = W) (fun W => by
          have := rblanks_any s (k + st.size) W hs (by omega)
          rwa [Int.natCast_add] at this)
        have kw : IntKind.i64.wrap ((k : Int) + (st.size : Int)) = (k : Int) + (st.size : Int) := by simp [IntKind.wrap, IntKind.bits, IntKind.signed]; omega
        clear hst gl g0
        go_wp2_with (first
          | (go_at_call 20; refine (KT.out _).mono ?_; rintro e w1 ⟨rfl, b1⟩; have B1 := Lib.hid b1; clear b1)
          | (at_builtin; refine wp_tokenK _ ⟨tk, tt, k, tn, ty, tm, td, tnn, tu⟩ st EST.out (w1.heap.size + 1) (by simp) rfl _ _ rfl w.heap.size v acc rfl (by first | rfl | simp) (II.out.ow.later (B1.out.alloc B1.out.size _)) (Nat.le_trans LN.out (by decide)) (by simp; exact Nat.le_succ_of_le (Nat.le_trans SZ.out B1.out.size)) ?_; intro v' w4 hE; have TT := Lib.hid (TI.out w4 v' hE.own ((II.out.bel.trans ((B1.out.alloc B1.out.size _).mono SZ.out)).trans (hE.below (by simp; exact Nat.le_succ_of_le (Nat.le_trans SZ.out B1.out.size))))); have X4 := Lib.hid (p := RB w4 w1.heap.size (.int .i64 tk) (.string st) (.int .i64 (k : Int)) (.int .i64 tn) (.int .i64 ty) (.int .i64 tm) (.int .i64 td) (.int .i64 tnn) (.int .i64 tu)) ⟨box_kept hE II.out.ow B1.out.size⟩; obtain ⟨x0, x1, x2, x3, x4, x5, x6, x7, x8, xf⟩ := X4.out.c; clear hE)
          | (go_at_call 19; refine (KB.out _).mono ?_; rintro e w' ⟨⟨b, rfl, hE⟩, hw⟩; have hw' := hw.symm; clear hw; subst hw'; have E5 := Lib.hid hE; clear hE))
        go_roundw
        case rel => exact ⟨b, _, _, rfl, rfl, SI.bl (by have := TT.out; rw [ZZ.out]; exact this) E5.out, E5.out.2.2.2⟩
        case measure => simp only [intV]; have := E5.out.1; have := E5.out.2.1; omega
    · have hk : k = s.size := by have := II.out.le; omega
      subst hk
      have Y := Lib.hid (SI.done II.out)
      clear hP
      go_wp2
      exact bodyPost_ret (v := .tuple #[v, .int .i64 0, .int .i64 0]) (by simp [results, Tryd.results5, go_sem]) rfl Y.out
/-- The document's Scan of any text. -/
theorem rscan_is (s : ByteArray) (hs : s.size ≤ 9223372036854775806) (ts : List Tok) (p : Nat) (er : Int) (hS : Scn (lst s) ts p er) (w : World) :
    Calls Tryd.prog 5 #[.string s] w fun e w' => ∃ a cap, e = .returned (.tuple #[.slice a ts.length cap, .int .i64 (p : Int), .int .i64 er]) ∧ SL w w' (.slice a ts.length cap) a cap ts := by
  rcases Nat.lt_or_ge 65536 s.size with h | h
  · obtain ⟨rfl, rfl, rfl⟩ : ts = [] ∧ p = 0 ∧ er = 6 := by
      rcases hS with ⟨_, h1, h2, h3⟩ | ⟨h1, _⟩
      · exact ⟨h1, h2, h3⟩
      · rw [lst_len] at h1; omega
    have h' : (65536 : Int) < (s.size : Int) := by omega
    have FIN := Lib.hid (p := SL w w (.slice none 0 0) none 0 []) ⟨World.ownsRow_nil _ _ _ _, ⟨rfl, by decide, .inl rfl⟩, Below.refl _ _, Nat.le_refl _⟩
    clear hS
    go_enter Tryd.func5, Tryd.ntmps5
    go_wp2
    exact bodyPost_ret (v := .tuple #[.slice none 0 0, .int .i64 0, .int .i64 6]) (by simp [results, Tryd.results5, go_sem]) rfl ⟨none, 0, rfl, FIN.out⟩
  · refine (rscan_any s w h).mono ?_
    rintro e w' ⟨v, ts', p', er', rfl, ho, hl, hC, hb⟩
    obtain ⟨rfl, rfl, rfl⟩ := hS.only (.inr ⟨by rw [lst_len]; exact h, hC⟩)
    obtain ⟨a, cap, rfl, hT⟩ := tl_of_own ho (by omega)
    exact ⟨a, cap, rfl, ho, hT, hb, own_cap ho⟩
end Go.Proofs.YtlihkmhhfnkkoaaDoor
