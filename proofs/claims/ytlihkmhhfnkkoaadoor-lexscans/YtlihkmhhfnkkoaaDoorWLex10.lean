/-
  WALK: Scan (made by gen/gen_scan.py).
-/
import Derived.Test.YtlihkmhhfnkkoaaDoorWLex9
namespace Go.Proofs.YtlihkmhhfnkkoaaDoor
open Go.RowKit Lx
set_option linter.unusedVariables false
set_option linter.unusedSimpArgs false

set_option maxRecDepth 100000 in
set_option maxHeartbeats 8000000 in
theorem scan_any (s : ByteArray) (w : World) (hM : Mon w) (hE : Ev w) (hs : s.size ≤ 65536) :
    Calls Tryd.prog 4 #[.string s] w fun e w' => ScanP w s e w' := by
  have szI : ¬ (65536 : Int) < (s.size : Int) := by omega
  have HM := Lib.hid (p := ∀ W, Below w.heap.size w W → Mon W) (fun W b => mon_below (Nat.le_refl _) b hM)
  have HE := Lib.hid (p := ∀ W, Below w.heap.size w W → Ev W) (fun W b => ev_below hE b)
  clear hM hE
  go_enter Tryd.func4, Tryd.ntmps4
  go_wp2
  go_step3
  go_wp2
  go_step3
  go_wp2
  go_loopw [5, 6] (fun x t wr => ∃ (k : Nat) (acc : List Tok) (v : Value), v = x ∧ t = .int .i64 k ∧ SI w wr s v k acc) (fun _ t _ => s.size - intV t)
  case atStart => exact ⟨0, [], _, rfl, rfl, SI.start w s⟩
  case round =>
    obtain ⟨k, acc, v, rfl, rfl, hI⟩ := hrel
    rename World => wr
    have II := Lib.hid hI
    clear hI
    by_cases hlt : k < s.size
    · have kc : (k : Int) < (s.size : Int) := by omega
      have s1 := cutFrom s k (by omega) (by omega)
      rw [Int.toNat_natCast] at s1
      obtain ⟨sr, hsr⟩ : ∃ sr, bs ((lst s).drop k) = sr := ⟨_, rfl⟩
      have HR : lst sr = (lst s).drop k := by rw [← hsr, lst_bs]
      have hz : sr.size = s.size - k := by rw [← hsr, bs_size, List.length_drop, lst_len]
      rw [hsr] at s1
      have h1 : 1 ≤ sr.size := by omega
      have h65 : sr.size ≤ 65536 := by omega
      have h0 : 0 < sr.size := by omega
      have EH : (List.headD (lst sr) 0).toNat = sr[0].toNat := head_lst h0
      clear hsr
      have KB := Lib.hid (fun W => isBlank_lex (sr[0].toNat) W)
      cases hb : blN (sr[0].toNat) with
      | true =>
        rw [hb] at KB
        have ST := Lib.hid (p := Lx.step ((lst s).drop k) = .skip 1) (by rw [← HR]; unfold Lx.step; rw [EH, if_pos hb])
        have kw : IntKind.i64.wrap ((k : Int) + 1) = (k : Int) + 1 := by simp [IntKind.wrap, IntKind.bits, IntKind.signed]; omega
        have ME := Lib.hid (p := s.size - intV (.int .i64 ((k : Int) + 1)) < s.size - intV (.int .i64 (k : Int))) (by simp only [intV]; omega)
        clear hz HR EH hb
        go_wp2_with (go_at_call 7; refine (KB.out _).mono ?_; rintro e w' ⟨rfl, rfl⟩)
        go_roundw
        case rel => exact ⟨k + 1, acc, v, rfl, by simp, (SI.skip II.out hlt ST.out ((Below.refl _ _).alloc (Nat.le_refl _) _)).1⟩
        case measure => exact ME.out
      | false =>
        rw [hb] at KB
        by_cases hc : sr[0].toNat = 35
        · have KM := Lib.hid (fun W => commentLength_any sr W (by omega))
          have ST := Lib.hid (p := Lx.step ((lst s).drop k) = .skip (com (lst sr))) (by rw [← HR]; unfold Lx.step; rw [EH, if_neg (by rw [hb]; simp), if_pos hc])
          have SK := Lib.hid (SI.skip II.out hlt ST.out ((Below.refl _ _).alloc (Nat.le_refl _) zeroT))
          generalize com (lst sr) = n at *
          have hn0 := SK.out.2
          have hn1 := SK.out.1.le
          have kw : IntKind.i64.wrap ((k : Int) + (n : Int)) = (k : Int) + (n : Int) := by simp [IntKind.wrap, IntKind.bits, IntKind.signed]; omega
          have ME := Lib.hid (p := s.size - intV (.int .i64 ((k : Int) + (n : Int))) < s.size - intV (.int .i64 (k : Int))) (by simp only [intV]; omega)
          have hc' : (sr[0].toNat : Int) = 35 := by omega
          have KB := Lib.hid (p := ∀ W, Calls Tryd.prog 7 #[.int .u8 35] W fun e w' => e = .returned (.bool false) ∧ w' = W) (fun W => isBlank_lex 35 W)
          clear hz HR EH hb hc
          go_wp2_with (first
            | (go_at_call 7; refine (KB.out _).mono ?_; rintro e w' ⟨rfl, rfl⟩)
            | (go_at_call 8; refine (KM.out _).mono ?_; rintro e w' ⟨rfl, rfl⟩))
          go_roundw
          case rel => exact ⟨k + n, acc, v, rfl, by simp, SK.out.1⟩
          case measure => exact ME.out
        · have hc' : ¬ (sr[0].toNat : Int) = 35 := by omega
          have KD := Lib.hid (fun W => beginsWithDate_bel sr W (by omega))
          have S0 : Lx.step ((lst s).drop k) = if fits form (lst sr) = true then datT ((lst sr).take 10) else if dgN (sr[0].toNat) = true then digT (run (lst sr)) else if smN (sr[0].toNat) = true then namT smN 1 (run (lst sr)) else if cpN (sr[0].toNat) = true then namT cpN 2 (run (lst sr)) else marT (lst sr) := by
            rw [← HR]; unfold Lx.step; rw [EH, if_neg (by rw [hb]; simp), if_neg hc]
          have SI2 := Lib.hid (p := ∀ T0 : Tok, Lx.step ((lst s).drop k) = .tok T0 → 0 < T0.t.length ∧ T0.t.length ≤ s.size - k ∧ T0.a = 0) (fun T0 h => by
            have hr := drop_ne (l := lst s) (k := k) (by rw [lst_len]; exact hlt)
            have g := step_good hr
            rw [h] at g
            have := congrArg List.length g.2.1
            rw [List.length_take, List.length_drop, lst_len] at this
            exact ⟨g.1, by omega, g.2.2⟩)
          have YE0 := Lib.hid (p := ∀ er, Lx.step ((lst s).drop k) = .err 0 er → ∀ w', Below wr.heap.size wr w' → ScanP w s (.returned (.tuple #[v, .int .i64 (k : Int), .int .i64 er])) w') (fun er h w' b => by
            have := SI.err II.out hlt h b
            simpa using this)
          clear hb hc EH
          cases hf : fits form (lst sr) with
          | true =>
            rw [hf] at KD
            rw [if_pos hf] at S0
            have h10 : 10 ≤ sr.size := by have := fits_len hf; rw [lst_len] at this; exact this
            have s2 := cutTo sr 10 (by omega) (by omega)
            rw [show (10 : Int).toNat = 10 from rfl] at s2
            obtain ⟨sd, hsd⟩ : ∃ sd, bs ((lst sr).take 10) = sd := ⟨_, rfl⟩
            have HD : lst sd = (lst sr).take 10 := by rw [← hsd, lst_bs]
            have hd10 : sd.size = 10 := by rw [← hsd, bs_size, List.length_take, lst_len]; omega
            have KT := Lib.hid (fun W hM => dateToken_any sd W hM hd10 (by rw [HD]; exact fits_take form (lst sr) 10 (by decide) hf))
            rw [hsd] at s2
            rw [HD] at KT
            clear hsd hf HD HR
            rcases datT_or ((lst sr).take 10) with ⟨T0, hT⟩ | ⟨er, hT⟩
            · rw [hT] at S0 KT
              obtain ⟨t0, t1, t2⟩ := SI2.out T0 S0
              have ST := Lib.hid S0
              obtain ⟨tk, tt, ta, tn, ty, tm, td, tnn, tu⟩ := T0
              obtain ⟨st, hst⟩ : ∃ st, bs tt = st := ⟨_, rfl⟩
              simp only [stEnd, stV, tokV] at KT
              rw [hst] at KT
              have t2' : ta = 0 := t2
              subst t2'
              have SZ := Lib.hid (p := st.size = tt.length) (by rw [← hst, bs_size])
              have EST := Lib.hid hst.symm
              have l1 : 1 ≤ st.size := by rw [SZ.out]; exact t0
              have l2 : st.size ≤ s.size - k := by rw [SZ.out]; exact t1
              have KL := Lib.hid (fun W => clone_any st l1 (by omega) W)
              have kw : IntKind.i64.wrap ((k : Int) + (st.size : Int)) = (k : Int) + (st.size : Int) := by simp [IntKind.wrap, IntKind.bits, IntKind.signed]; omega
              have ME := Lib.hid (p := s.size - intV (.int .i64 ((k : Int) + (st.size : Int))) < s.size - intV (.int .i64 (k : Int))) (by simp only [intV]; omega)
              clear t0 t1 t2 hst
              clear S0 SI2 YE0 hT
              go_wp2_with (first
        | (go_at_call 7; refine (KB.out _).mono ?_; rintro e w' ⟨rfl, rfl⟩)
        | (go_at_call 9; refine (KD.out _).mono ?_; rintro e w1 ⟨rfl, b1⟩; have Z1 := Lib.hid (size_kept b1); have A1 := Lib.hid (alloc_kept b1); have B1 := Lib.hid (alloc_below b1); obtain ⟨x0, x1, x2, x3, x4, x5, x6, x7, x8, xf⟩ := box_tok (alloc_kept b1); clear b1)
        | (go_at_call 10; refine (KT.out _ (HM.out _ (II.out.bel.trans (B1.out.mono II.out.bel.size)))).mono ?_; rintro e w2 ⟨rfl, b2⟩; have Z2 := Lib.hid (Nat.lt_of_lt_of_le Z1.out b2.size); have A2 := Lib.hid ((b2.block _ Z1.out).trans A1.out); have B2 := Lib.hid (B1.out.trans (b2.mono (Nat.le_of_lt Z1.out))); obtain ⟨c0, c1, c2, c3, c4, c5, c6, c7, c8, cf⟩ := box_tok ((b2.block _ Z1.out).trans A1.out); clear b2 x0 x1 x2 x3 x4 x5 x6 x7 x8 xf)
        | (go_at_call 18; refine (KL.out _).mono ?_; rintro e w3 ⟨rfl, b3⟩; have B3 := Lib.hid (below_after B2.out (Nat.le_refl _) (Nat.le_of_lt Z2.out) b3); obtain ⟨d0, d1, d2, d3, d4, d5, d6, d7, d8, df⟩ := box_after A2.out b3; have Z3 := Lib.hid (p := wr.heap.size < w3.heap.size) (Nat.lt_of_lt_of_le Z2.out (by have := b3.size; simpa using this)); clear b3)
        | (at_builtin; refine wp_token _ ⟨tk, tt, (k : Int), tn, ty, tm, td, tnn, tu⟩ st EST.out w3.heap.size (by simp) rfl _ _ rfl w.heap.size v acc rfl (by first | rfl | (simp only [World.size_setCell]; rfl) | simp) (II.out.ow.later (B3.out.setCell (p := ⟨wr.heap.size, 1, none⟩) (Nat.le_refl _) _)) (Nat.le_trans II.out.ln (by omega)) (by simp; exact Nat.le_trans II.out.bel.size (Nat.le_of_lt Z3.out)) ?_; intro v' w4 ho hb4; have O4 := Lib.hid ho; have B4 := Lib.hid ((II.out.bel.trans ((B3.out.setCell (p := ⟨wr.heap.size, 1, none⟩) (Nat.le_refl _) (.string st)).mono II.out.bel.size)).trans hb4); clear ho hb4))
              go_roundw
              case rel => exact ⟨k + st.size, acc ++ [⟨tk, tt, (k : Int), tn, ty, tm, td, tnn, tu⟩], v', rfl, by simp, by rw [SZ.out]; exact SI.tok (t := ⟨tk, tt, 0, tn, ty, tm, td, tnn, tu⟩) II.out hlt ST.out O4.out B4.out⟩
              case measure => exact ME.out
            · rw [hT] at S0 KT
              have YE := Lib.hid (YE0.out er S0)
              have er0 : (er != 0) = true := by
                have g := step_good (drop_ne (l := lst s) (k := k) (by rw [lst_len]; exact hlt))
                rw [S0] at g
                rw [bne_iff_ne]; exact g.2.1
              have er1 : ¬ er = 0 := by simpa using er0
              simp only [stEnd, stV, tokV, tok0] at KT
              clear S0 SI2 YE0 hT
              go_wp2_with (first
        | (go_at_call 7; refine (KB.out _).mono ?_; rintro e w' ⟨rfl, rfl⟩)
        | (go_at_call 9; refine (KD.out _).mono ?_; rintro e w1 ⟨rfl, b1⟩; have Z1 := Lib.hid (size_kept b1); have A1 := Lib.hid (alloc_kept b1); have B1 := Lib.hid (alloc_below b1); obtain ⟨x0, x1, x2, x3, x4, x5, x6, x7, x8, xf⟩ := box_tok (alloc_kept b1); clear b1)
        | (go_at_call 10; refine (KT.out _ (HM.out _ (II.out.bel.trans (B1.out.mono II.out.bel.size)))).mono ?_; rintro e w2 ⟨rfl, b2⟩; have Z2 := Lib.hid (Nat.lt_of_lt_of_le Z1.out b2.size); have A2 := Lib.hid ((b2.block _ Z1.out).trans A1.out); have B2 := Lib.hid (B1.out.trans (b2.mono (Nat.le_of_lt Z1.out))); obtain ⟨c0, c1, c2, c3, c4, c5, c6, c7, c8, cf⟩ := box_tok ((b2.block _ Z1.out).trans A1.out); clear b2 x0 x1 x2 x3 x4 x5 x6 x7 x8 xf))
              try rw [Exit.noGoto_ret]
              exact bodyPost_ret (v := .tuple #[v, .int .i64 (k : Int), .int .i64 er]) (by simp [results, Tryd.results4, go_sem]) rfl (YE.out _ (below9 B2.out (Nat.le_refl _) _ _ _ _ _ _ _ _ _))
          | false =>
            rw [hf] at KD
            rw [if_neg (by rw [hf]; simp)] at S0
            clear hf
            have KG := Lib.hid (fun W => isDigit_any (sr[0].toNat) W)
            cases hg : dgN (sr[0].toNat) with
            | true =>
              rw [hg] at KG
              rw [if_pos hg] at S0
              obtain ⟨R, hR⟩ : ∃ R, run (lst sr) = R := ⟨_, rfl⟩
              have rl : R.length ≤ sr.size := by rw [← hR, ← lst_len sr]; exact run_len _
              have rp : 0 < R.length := by rw [← hR]; exact run_pos (by intro e; have := lst_len sr; rw [e] at this; simp at this; omega) (by rw [head_lst h0]; exact rn_dg hg)
              have KR := Lib.hid (fun W => runOf_any sr W (by omega))
              rw [hR] at KR S0
              obtain ⟨sd, hsd⟩ : ∃ sd, bs R = sd := ⟨_, rfl⟩
              have HD : lst sd = R := by rw [← hsd, lst_bs]
              have hd : sd.size = R.length := by rw [← hsd, bs_size]
              have d0 : dgN (nthN (lst sd) 0) = true := by
                have hlen : 0 < (run (lst sr)).length := by rw [hR]; exact rp
                have e1 : nthN R 0 = nthN (lst sr) 0 := by
                  rw [← hR]
                  have := run_eq (lst sr)
                  have h2 : (run (lst sr))[0]? = ((lst sr).take (run (lst sr)).length)[0]? := congrArg (fun l : L => l[0]?) this
                  rw [List.getElem?_take_of_lt hlen] at h2
                  unfold nthN; rw [List.getD_eq_getElem?_getD, List.getD_eq_getElem?_getD, h2]
                rw [HD, e1, nth_lst h0]; exact hg
              have KT := Lib.hid (fun W hE => digitToken_any sd W (by omega) (by omega) hE d0)
              rw [HD] at KT
              rw [hsd] at KR
              clear hsd HD hd d0 hR rl rp HR hg
              rcases digT_or R with ⟨T0, hT⟩ | ⟨er, hT⟩
              · rw [hT] at S0 KT
                obtain ⟨t0, t1, t2⟩ := SI2.out T0 S0
                have ST := Lib.hid S0
                obtain ⟨tk, tt, ta, tn, ty, tm, td, tnn, tu⟩ := T0
                obtain ⟨st, hst⟩ : ∃ st, bs tt = st := ⟨_, rfl⟩
                simp only [stEnd, stV, tokV] at KT
                rw [hst] at KT
                have t2' : ta = 0 := t2
                subst t2'
                have SZ := Lib.hid (p := st.size = tt.length) (by rw [← hst, bs_size])
                have EST := Lib.hid hst.symm
                have l1 : 1 ≤ st.size := by rw [SZ.out]; exact t0
                have l2 : st.size ≤ s.size - k := by rw [SZ.out]; exact t1
                have KL := Lib.hid (fun W => clone_any st l1 (by omega) W)
                have kw : IntKind.i64.wrap ((k : Int) + (st.size : Int)) = (k : Int) + (st.size : Int) := by simp [IntKind.wrap, IntKind.bits, IntKind.signed]; omega
                have ME := Lib.hid (p := s.size - intV (.int .i64 ((k : Int) + (st.size : Int))) < s.size - intV (.int .i64 (k : Int))) (by simp only [intV]; omega)
                clear t0 t1 t2 hst
                clear S0 SI2 YE0 hT
                go_wp2_with (first
        | (go_at_call 7; refine (KB.out _).mono ?_; rintro e w' ⟨rfl, rfl⟩)
        | (go_at_call 9; refine (KD.out _).mono ?_; rintro e w1 ⟨rfl, b1⟩; have Z1 := Lib.hid (size_kept b1); have A1 := Lib.hid (alloc_kept b1); have B1 := Lib.hid (alloc_below b1); obtain ⟨x0, x1, x2, x3, x4, x5, x6, x7, x8, xf⟩ := box_tok (alloc_kept b1); clear b1)
        | (go_at_call 11; refine (KG.out _).mono ?_; rintro e w' ⟨rfl, rfl⟩)
        | (go_at_call 13; refine (KR.out _).mono ?_; rintro e w' ⟨rfl, rfl⟩)
        | (go_at_call 12; refine (KT.out _ (HE.out _ (II.out.bel.trans (B1.out.mono II.out.bel.size)))).mono ?_; rintro e w2 ⟨rfl, b2⟩; have Z2 := Lib.hid (Nat.lt_of_lt_of_le Z1.out b2.size); have A2 := Lib.hid ((b2.block _ Z1.out).trans A1.out); have B2 := Lib.hid (B1.out.trans (b2.mono (Nat.le_of_lt Z1.out))); obtain ⟨c0, c1, c2, c3, c4, c5, c6, c7, c8, cf⟩ := box_tok ((b2.block _ Z1.out).trans A1.out); clear b2 x0 x1 x2 x3 x4 x5 x6 x7 x8 xf)
        | (go_at_call 18; refine (KL.out _).mono ?_; rintro e w3 ⟨rfl, b3⟩; have B3 := Lib.hid (below_after B2.out (Nat.le_refl _) (Nat.le_of_lt Z2.out) b3); obtain ⟨d0, d1, d2, d3, d4, d5, d6, d7, d8, df⟩ := box_after A2.out b3; have Z3 := Lib.hid (p := wr.heap.size < w3.heap.size) (Nat.lt_of_lt_of_le Z2.out (by have := b3.size; simpa using this)); clear b3)
        | (at_builtin; refine wp_token _ ⟨tk, tt, (k : Int), tn, ty, tm, td, tnn, tu⟩ st EST.out w3.heap.size (by simp) rfl _ _ rfl w.heap.size v acc rfl (by first | rfl | (simp only [World.size_setCell]; rfl) | simp) (II.out.ow.later (B3.out.setCell (p := ⟨wr.heap.size, 1, none⟩) (Nat.le_refl _) _)) (Nat.le_trans II.out.ln (by omega)) (by simp; exact Nat.le_trans II.out.bel.size (Nat.le_of_lt Z3.out)) ?_; intro v' w4 ho hb4; have O4 := Lib.hid ho; have B4 := Lib.hid ((II.out.bel.trans ((B3.out.setCell (p := ⟨wr.heap.size, 1, none⟩) (Nat.le_refl _) (.string st)).mono II.out.bel.size)).trans hb4); clear ho hb4))
                go_roundw
                case rel => exact ⟨k + st.size, acc ++ [⟨tk, tt, (k : Int), tn, ty, tm, td, tnn, tu⟩], v', rfl, by simp, by rw [SZ.out]; exact SI.tok (t := ⟨tk, tt, 0, tn, ty, tm, td, tnn, tu⟩) II.out hlt ST.out O4.out B4.out⟩
                case measure => exact ME.out
              · rw [hT] at S0 KT
                have YE := Lib.hid (YE0.out er S0)
                have er0 : (er != 0) = true := by
                  have g := step_good (drop_ne (l := lst s) (k := k) (by rw [lst_len]; exact hlt))
                  rw [S0] at g
                  rw [bne_iff_ne]; exact g.2.1
                have er1 : ¬ er = 0 := by simpa using er0
                simp only [stEnd, stV, tokV, tok0] at KT
                clear S0 SI2 YE0 hT
                go_wp2_with (first
        | (go_at_call 7; refine (KB.out _).mono ?_; rintro e w' ⟨rfl, rfl⟩)
        | (go_at_call 9; refine (KD.out _).mono ?_; rintro e w1 ⟨rfl, b1⟩; have Z1 := Lib.hid (size_kept b1); have A1 := Lib.hid (alloc_kept b1); have B1 := Lib.hid (alloc_below b1); obtain ⟨x0, x1, x2, x3, x4, x5, x6, x7, x8, xf⟩ := box_tok (alloc_kept b1); clear b1)
        | (go_at_call 11; refine (KG.out _).mono ?_; rintro e w' ⟨rfl, rfl⟩)
        | (go_at_call 13; refine (KR.out _).mono ?_; rintro e w' ⟨rfl, rfl⟩)
        | (go_at_call 12; refine (KT.out _ (HE.out _ (II.out.bel.trans (B1.out.mono II.out.bel.size)))).mono ?_; rintro e w2 ⟨rfl, b2⟩; have Z2 := Lib.hid (Nat.lt_of_lt_of_le Z1.out b2.size); have A2 := Lib.hid ((b2.block _ Z1.out).trans A1.out); have B2 := Lib.hid (B1.out.trans (b2.mono (Nat.le_of_lt Z1.out))); obtain ⟨c0, c1, c2, c3, c4, c5, c6, c7, c8, cf⟩ := box_tok ((b2.block _ Z1.out).trans A1.out); clear b2 x0 x1 x2 x3 x4 x5 x6 x7 x8 xf))
                try rw [Exit.noGoto_ret]
                exact bodyPost_ret (v := .tuple #[v, .int .i64 (k : Int), .int .i64 er]) (by simp [results, Tryd.results4, go_sem]) rfl (YE.out _ (below9 B2.out (Nat.le_refl _) _ _ _ _ _ _ _ _ _))
            | false =>
              rw [hg] at KG
              rw [if_neg (by rw [hg]; simp)] at S0
              clear hg
              have KS := Lib.hid (fun W => isSmall_any (sr[0].toNat) W)
              cases hsm : smN (sr[0].toNat) with
              | true =>
                rw [hsm] at KS
                rw [if_pos hsm] at S0
                clear hsm
                obtain ⟨R, hR⟩ : ∃ R, run (lst sr) = R := ⟨_, rfl⟩
                have rl : R.length ≤ sr.size := by rw [← hR, ← lst_len sr]; exact run_len _
                have KR := Lib.hid (fun W => runOf_any sr W (by omega))
                rw [hR] at KR S0
                obtain ⟨st, hst⟩ : ∃ st, bs R = st := ⟨_, rfl⟩
                have KN := Lib.hid (fun W => nameError_small st W (by rw [← hst, bs_size]; omega))
                rw [show lst st = R by rw [← hst, lst_bs]] at KN
                rw [hst] at KR
                have N0 : namT smN 1 R = if (nameE smN R).2 = 0 then .tok ⟨1, R, 0, 0, 0, 0, 0, 0, 0⟩ else .err (nameE smN R).1 (nameE smN R).2 := rfl
                have NZ : (nameE smN R).2 = 0 → (nameE smN R).1 = 0 := by unfold nameE; split; (intro h; simp at h); split <;> simp
                generalize nameE smN R = ne at *
                obtain ⟨ni, er⟩ := ne
                simp only at N0 NZ KN
                rw [N0] at S0
                by_cases her : er = 0
                · rw [if_pos her] at S0
                  have ni0 := NZ her
                  subst her; subst ni0
                  obtain ⟨t0, t1, t2⟩ := SI2.out _ S0
                  have ST := Lib.hid S0
                  have SZ := Lib.hid (p := st.size = R.length) (by rw [← hst, bs_size])
                  have EST := Lib.hid hst.symm
                  have l1 : 1 ≤ st.size := by rw [SZ.out]; exact t0
                  have l2 : st.size ≤ s.size - k := by rw [SZ.out]; exact t1
                  have KL := Lib.hid (fun W => clone_any st l1 (by omega) W)
                  have kw : IntKind.i64.wrap ((k : Int) + (st.size : Int)) = (k : Int) + (st.size : Int) := by simp [IntKind.wrap, IntKind.bits, IntKind.signed]; omega
                  have ME := Lib.hid (p := s.size - intV (.int .i64 ((k : Int) + (st.size : Int))) < s.size - intV (.int .i64 (k : Int))) (by simp only [intV]; omega)
                  clear t0 t1 t2 hst hR S0 SI2 YE0 N0 NZ rl
                  go_wp2_with (first
        | (go_at_call 7; refine (KB.out _).mono ?_; rintro e w' ⟨rfl, rfl⟩)
        | (go_at_call 9; refine (KD.out _).mono ?_; rintro e w1 ⟨rfl, b1⟩; have Z1 := Lib.hid (size_kept b1); have A1 := Lib.hid (alloc_kept b1); have B1 := Lib.hid (alloc_below b1); obtain ⟨x0, x1, x2, x3, x4, x5, x6, x7, x8, xf⟩ := box_tok (alloc_kept b1); clear b1)
        | (go_at_call 11; refine (KG.out _).mono ?_; rintro e w' ⟨rfl, rfl⟩)
        | (go_at_call 14; refine (KS.out _).mono ?_; rintro e w' ⟨rfl, rfl⟩)
        | (go_at_call 13; refine (KR.out _).mono ?_; rintro e w' ⟨rfl, rfl⟩)
        | (go_at_call 15; refine (KN.out _).mono ?_; rintro e w' ⟨rfl, rfl⟩)
        | (go_at_call 18; refine (KL.out _).mono ?_; rintro e w3 ⟨rfl, b3⟩; have B3 := Lib.hid (below_after B1.out (Nat.le_refl _) (Nat.le_of_lt Z1.out) b3); obtain ⟨d0, d1, d2, d3, d4, d5, d6, d7, d8, df⟩ := box_after A1.out b3; have Z3 := Lib.hid (p := wr.heap.size < w3.heap.size) (Nat.lt_of_lt_of_le Z1.out (by have := b3.size; simpa using this)); clear b3)
        | (at_builtin; refine wp_token _ ⟨1, R, (k : Int), 0, 0, 0, 0, 0, 0⟩ st EST.out w3.heap.size (by simp) rfl _ _ rfl w.heap.size v acc rfl (by first | rfl | (simp only [World.size_setCell]; rfl) | simp) (II.out.ow.later (B3.out.setCell (p := ⟨wr.heap.size, 1, none⟩) (Nat.le_refl _) _)) (Nat.le_trans II.out.ln (by omega)) (by simp; exact Nat.le_trans II.out.bel.size (Nat.le_of_lt Z3.out)) ?_; intro v' w4 ho hb4; have O4 := Lib.hid ho; have B4 := Lib.hid ((II.out.bel.trans ((B3.out.setCell (p := ⟨wr.heap.size, 1, none⟩) (Nat.le_refl _) (.string st)).mono II.out.bel.size)).trans hb4); clear ho hb4))
                  go_roundw
                  case rel => exact ⟨k + st.size, acc ++ [⟨1, R, (k : Int), 0, 0, 0, 0, 0, 0⟩], v', rfl, by simp, by rw [SZ.out]; exact SI.tok (t := ⟨1, R, 0, 0, 0, 0, 0, 0, 0⟩) II.out hlt ST.out O4.out B4.out⟩
                  case measure => exact ME.out
                · rw [if_neg her] at S0
                  have YE := Lib.hid (p := ∀ w', Below wr.heap.size wr w' → ScanP w s (.returned (.tuple #[v, .int .i64 ((k : Int) + (ni : Int)), .int .i64 er])) w') (fun w' b => SI.err II.out hlt S0 b)
                  have nl : ni < s.size - k := by
                    have g := step_good (drop_ne (l := lst s) (k := k) (by rw [lst_len]; exact hlt))
                    rw [S0] at g
                    have := g.1
                    rw [List.length_drop, lst_len] at this
                    exact this
                  have kw : IntKind.i64.wrap ((k : Int) + (ni : Int)) = (k : Int) + (ni : Int) := by simp [IntKind.wrap, IntKind.bits, IntKind.signed]; omega
                  have er0 : (er != 0) = true := by rw [bne_iff_ne]; exact her
                  clear S0 SI2 YE0 N0 NZ hst hR rl
                  go_wp2_with (first
        | (go_at_call 7; refine (KB.out _).mono ?_; rintro e w' ⟨rfl, rfl⟩)
        | (go_at_call 9; refine (KD.out _).mono ?_; rintro e w1 ⟨rfl, b1⟩; have Z1 := Lib.hid (size_kept b1); have A1 := Lib.hid (alloc_kept b1); have B1 := Lib.hid (alloc_below b1); obtain ⟨x0, x1, x2, x3, x4, x5, x6, x7, x8, xf⟩ := box_tok (alloc_kept b1); clear b1)
        | (go_at_call 11; refine (KG.out _).mono ?_; rintro e w' ⟨rfl, rfl⟩)
        | (go_at_call 14; refine (KS.out _).mono ?_; rintro e w' ⟨rfl, rfl⟩)
        | (go_at_call 13; refine (KR.out _).mono ?_; rintro e w' ⟨rfl, rfl⟩)
        | (go_at_call 15; refine (KN.out _).mono ?_; rintro e w' ⟨rfl, rfl⟩))
                  try rw [Exit.noGoto_ret]
                  exact bodyPost_ret (v := .tuple #[v, .int .i64 ((k : Int) + (ni : Int)), .int .i64 er]) (by simp [results, Tryd.results4, go_sem]) rfl (YE.out _ (below9 B1.out (Nat.le_refl _) _ _ _ _ _ _ _ _ _))
              | false =>
                rw [hsm] at KS
                rw [if_neg (by rw [hsm]; simp)] at S0
                clear hsm
                have KC := Lib.hid (fun W => isCapital_any (sr[0].toNat) W)
                cases hcp : cpN (sr[0].toNat) with
                | true =>
                  rw [hcp] at KC
                  rw [if_pos hcp] at S0
                  clear hcp
                  obtain ⟨R, hR⟩ : ∃ R, run (lst sr) = R := ⟨_, rfl⟩
                  have rl : R.length ≤ sr.size := by rw [← hR, ← lst_len sr]; exact run_len _
                  have KR := Lib.hid (fun W => runOf_any sr W (by omega))
                  rw [hR] at KR S0
                  obtain ⟨st, hst⟩ : ∃ st, bs R = st := ⟨_, rfl⟩
                  have KN := Lib.hid (fun W => nameError_capital st W (by rw [← hst, bs_size]; omega))
                  rw [show lst st = R by rw [← hst, lst_bs]] at KN
                  rw [hst] at KR
                  have N0 : namT cpN 2 R = if (nameE cpN R).2 = 0 then .tok ⟨2, R, 0, 0, 0, 0, 0, 0, 0⟩ else .err (nameE cpN R).1 (nameE cpN R).2 := rfl
                  have NZ : (nameE cpN R).2 = 0 → (nameE cpN R).1 = 0 := by unfold nameE; split; (intro h; simp at h); split <;> simp
                  generalize nameE cpN R = ne at *
                  obtain ⟨ni, er⟩ := ne
                  simp only at N0 NZ KN
                  rw [N0] at S0
                  by_cases her : er = 0
                  · rw [if_pos her] at S0
                    have ni0 := NZ her
                    subst her; subst ni0
                    obtain ⟨t0, t1, t2⟩ := SI2.out _ S0
                    have ST := Lib.hid S0
                    have SZ := Lib.hid (p := st.size = R.length) (by rw [← hst, bs_size])
                    have EST := Lib.hid hst.symm
                    have l1 : 1 ≤ st.size := by rw [SZ.out]; exact t0
                    have l2 : st.size ≤ s.size - k := by rw [SZ.out]; exact t1
                    have KL := Lib.hid (fun W => clone_any st l1 (by omega) W)
                    have kw : IntKind.i64.wrap ((k : Int) + (st.size : Int)) = (k : Int) + (st.size : Int) := by simp [IntKind.wrap, IntKind.bits, IntKind.signed]; omega
                    have ME := Lib.hid (p := s.size - intV (.int .i64 ((k : Int) + (st.size : Int))) < s.size - intV (.int .i64 (k : Int))) (by simp only [intV]; omega)
                    clear t0 t1 t2 hst hR S0 SI2 YE0 N0 NZ rl
                    go_wp2_with (first
        | (go_at_call 7; refine (KB.out _).mono ?_; rintro e w' ⟨rfl, rfl⟩)
        | (go_at_call 9; refine (KD.out _).mono ?_; rintro e w1 ⟨rfl, b1⟩; have Z1 := Lib.hid (size_kept b1); have A1 := Lib.hid (alloc_kept b1); have B1 := Lib.hid (alloc_below b1); obtain ⟨x0, x1, x2, x3, x4, x5, x6, x7, x8, xf⟩ := box_tok (alloc_kept b1); clear b1)
        | (go_at_call 11; refine (KG.out _).mono ?_; rintro e w' ⟨rfl, rfl⟩)
        | (go_at_call 14; refine (KS.out _).mono ?_; rintro e w' ⟨rfl, rfl⟩)
        | (go_at_call 16; refine (KC.out _).mono ?_; rintro e w' ⟨rfl, rfl⟩)
        | (go_at_call 13; refine (KR.out _).mono ?_; rintro e w' ⟨rfl, rfl⟩)
        | (go_at_call 15; refine (KN.out _).mono ?_; rintro e w' ⟨rfl, rfl⟩)
        | (go_at_call 18; refine (KL.out _).mono ?_; rintro e w3 ⟨rfl, b3⟩; have B3 := Lib.hid (below_after B1.out (Nat.le_refl _) (Nat.le_of_lt Z1.out) b3); obtain ⟨d0, d1, d2, d3, d4, d5, d6, d7, d8, df⟩ := box_after A1.out b3; have Z3 := Lib.hid (p := wr.heap.size < w3.heap.size) (Nat.lt_of_lt_of_le Z1.out (by have := b3.size; simpa using this)); clear b3)
        | (at_builtin; refine wp_token _ ⟨2, R, (k : Int), 0, 0, 0, 0, 0, 0⟩ st EST.out w3.heap.size (by simp) rfl _ _ rfl w.heap.size v acc rfl (by first | rfl | (simp only [World.size_setCell]; rfl) | simp) (II.out.ow.later (B3.out.setCell (p := ⟨wr.heap.size, 1, none⟩) (Nat.le_refl _) _)) (Nat.le_trans II.out.ln (by omega)) (by simp; exact Nat.le_trans II.out.bel.size (Nat.le_of_lt Z3.out)) ?_; intro v' w4 ho hb4; have O4 := Lib.hid ho; have B4 := Lib.hid ((II.out.bel.trans ((B3.out.setCell (p := ⟨wr.heap.size, 1, none⟩) (Nat.le_refl _) (.string st)).mono II.out.bel.size)).trans hb4); clear ho hb4))
                    go_roundw
                    case rel => exact ⟨k + st.size, acc ++ [⟨2, R, (k : Int), 0, 0, 0, 0, 0, 0⟩], v', rfl, by simp, by rw [SZ.out]; exact SI.tok (t := ⟨2, R, 0, 0, 0, 0, 0, 0, 0⟩) II.out hlt ST.out O4.out B4.out⟩
                    case measure => exact ME.out
                  · rw [if_neg her] at S0
                    have YE := Lib.hid (p := ∀ w', Below wr.heap.size wr w' → ScanP w s (.returned (.tuple #[v, .int .i64 ((k : Int) + (ni : Int)), .int .i64 er])) w') (fun w' b => SI.err II.out hlt S0 b)
                    have nl : ni < s.size - k := by
                      have g := step_good (drop_ne (l := lst s) (k := k) (by rw [lst_len]; exact hlt))
                      rw [S0] at g
                      have := g.1
                      rw [List.length_drop, lst_len] at this
                      exact this
                    have kw : IntKind.i64.wrap ((k : Int) + (ni : Int)) = (k : Int) + (ni : Int) := by simp [IntKind.wrap, IntKind.bits, IntKind.signed]; omega
                    have er0 : (er != 0) = true := by rw [bne_iff_ne]; exact her
                    clear S0 SI2 YE0 N0 NZ hst hR rl
                    go_wp2_with (first
        | (go_at_call 7; refine (KB.out _).mono ?_; rintro e w' ⟨rfl, rfl⟩)
        | (go_at_call 9; refine (KD.out _).mono ?_; rintro e w1 ⟨rfl, b1⟩; have Z1 := Lib.hid (size_kept b1); have A1 := Lib.hid (alloc_kept b1); have B1 := Lib.hid (alloc_below b1); obtain ⟨x0, x1, x2, x3, x4, x5, x6, x7, x8, xf⟩ := box_tok (alloc_kept b1); clear b1)
        | (go_at_call 11; refine (KG.out _).mono ?_; rintro e w' ⟨rfl, rfl⟩)
        | (go_at_call 14; refine (KS.out _).mono ?_; rintro e w' ⟨rfl, rfl⟩)
        | (go_at_call 16; refine (KC.out _).mono ?_; rintro e w' ⟨rfl, rfl⟩)
        | (go_at_call 13; refine (KR.out _).mono ?_; rintro e w' ⟨rfl, rfl⟩)
        | (go_at_call 15; refine (KN.out _).mono ?_; rintro e w' ⟨rfl, rfl⟩))
                    try rw [Exit.noGoto_ret]
                    exact bodyPost_ret (v := .tuple #[v, .int .i64 ((k : Int) + (ni : Int)), .int .i64 er]) (by simp [results, Tryd.results4, go_sem]) rfl (YE.out _ (below9 B1.out (Nat.le_refl _) _ _ _ _ _ _ _ _ _))
                | false =>
                  rw [hcp] at KC
                  rw [if_neg (by rw [hcp]; simp)] at S0
                  clear hcp
                  have KT := Lib.hid (fun W (_ : True) => markToken_any sr W h1 (by omega))
                  rcases marT_or (lst sr) with ⟨T0, hT⟩ | ⟨er, hT⟩
                  · rw [hT] at S0 KT
                    obtain ⟨t0, t1, t2⟩ := SI2.out T0 S0
                    have ST := Lib.hid S0
                    obtain ⟨tk, tt, ta, tn, ty, tm, td, tnn, tu⟩ := T0
                    obtain ⟨st, hst⟩ : ∃ st, bs tt = st := ⟨_, rfl⟩
                    simp only [stEnd, stV, tokV] at KT
                    rw [hst] at KT
                    have t2' : ta = 0 := t2
                    subst t2'
                    have SZ := Lib.hid (p := st.size = tt.length) (by rw [← hst, bs_size])
                    have EST := Lib.hid hst.symm
                    have l1 : 1 ≤ st.size := by rw [SZ.out]; exact t0
                    have l2 : st.size ≤ s.size - k := by rw [SZ.out]; exact t1
                    have KL := Lib.hid (fun W => clone_any st l1 (by omega) W)
                    have kw : IntKind.i64.wrap ((k : Int) + (st.size : Int)) = (k : Int) + (st.size : Int) := by simp [IntKind.wrap, IntKind.bits, IntKind.signed]; omega
                    have ME := Lib.hid (p := s.size - intV (.int .i64 ((k : Int) + (st.size : Int))) < s.size - intV (.int .i64 (k : Int))) (by simp only [intV]; omega)
                    clear t0 t1 t2 hst
                    clear S0 SI2 YE0 hT
                    go_wp2_with (first
        | (go_at_call 7; refine (KB.out _).mono ?_; rintro e w' ⟨rfl, rfl⟩)
        | (go_at_call 9; refine (KD.out _).mono ?_; rintro e w1 ⟨rfl, b1⟩; have Z1 := Lib.hid (size_kept b1); have A1 := Lib.hid (alloc_kept b1); have B1 := Lib.hid (alloc_below b1); obtain ⟨x0, x1, x2, x3, x4, x5, x6, x7, x8, xf⟩ := box_tok (alloc_kept b1); clear b1)
        | (go_at_call 11; refine (KG.out _).mono ?_; rintro e w' ⟨rfl, rfl⟩)
        | (go_at_call 14; refine (KS.out _).mono ?_; rintro e w' ⟨rfl, rfl⟩)
        | (go_at_call 16; refine (KC.out _).mono ?_; rintro e w' ⟨rfl, rfl⟩)
        | (go_at_call 17; refine (KT.out _ trivial).mono ?_; rintro e w2 ⟨rfl, b2⟩; have Z2 := Lib.hid (Nat.lt_of_lt_of_le Z1.out b2.size); have A2 := Lib.hid ((b2.block _ Z1.out).trans A1.out); have B2 := Lib.hid (B1.out.trans (b2.mono (Nat.le_of_lt Z1.out))); obtain ⟨c0, c1, c2, c3, c4, c5, c6, c7, c8, cf⟩ := box_tok ((b2.block _ Z1.out).trans A1.out); clear b2 x0 x1 x2 x3 x4 x5 x6 x7 x8 xf)
        | (go_at_call 18; refine (KL.out _).mono ?_; rintro e w3 ⟨rfl, b3⟩; have B3 := Lib.hid (below_after B2.out (Nat.le_refl _) (Nat.le_of_lt Z2.out) b3); obtain ⟨d0, d1, d2, d3, d4, d5, d6, d7, d8, df⟩ := box_after A2.out b3; have Z3 := Lib.hid (p := wr.heap.size < w3.heap.size) (Nat.lt_of_lt_of_le Z2.out (by have := b3.size; simpa using this)); clear b3)
        | (at_builtin; refine wp_token _ ⟨tk, tt, (k : Int), tn, ty, tm, td, tnn, tu⟩ st EST.out w3.heap.size (by simp) rfl _ _ rfl w.heap.size v acc rfl (by first | rfl | (simp only [World.size_setCell]; rfl) | simp) (II.out.ow.later (B3.out.setCell (p := ⟨wr.heap.size, 1, none⟩) (Nat.le_refl _) _)) (Nat.le_trans II.out.ln (by omega)) (by simp; exact Nat.le_trans II.out.bel.size (Nat.le_of_lt Z3.out)) ?_; intro v' w4 ho hb4; have O4 := Lib.hid ho; have B4 := Lib.hid ((II.out.bel.trans ((B3.out.setCell (p := ⟨wr.heap.size, 1, none⟩) (Nat.le_refl _) (.string st)).mono II.out.bel.size)).trans hb4); clear ho hb4))
                    go_roundw
                    case rel => exact ⟨k + st.size, acc ++ [⟨tk, tt, (k : Int), tn, ty, tm, td, tnn, tu⟩], v', rfl, by simp, by rw [SZ.out]; exact SI.tok (t := ⟨tk, tt, 0, tn, ty, tm, td, tnn, tu⟩) II.out hlt ST.out O4.out B4.out⟩
                    case measure => exact ME.out
                  · rw [hT] at S0 KT
                    have YE := Lib.hid (YE0.out er S0)
                    have er0 : (er != 0) = true := by
                      have g := step_good (drop_ne (l := lst s) (k := k) (by rw [lst_len]; exact hlt))
                      rw [S0] at g
                      rw [bne_iff_ne]; exact g.2.1
                    have er1 : ¬ er = 0 := by simpa using er0
                    simp only [stEnd, stV, tokV, tok0] at KT
                    clear S0 SI2 YE0 hT
                    go_wp2_with (first
        | (go_at_call 7; refine (KB.out _).mono ?_; rintro e w' ⟨rfl, rfl⟩)
        | (go_at_call 9; refine (KD.out _).mono ?_; rintro e w1 ⟨rfl, b1⟩; have Z1 := Lib.hid (size_kept b1); have A1 := Lib.hid (alloc_kept b1); have B1 := Lib.hid (alloc_below b1); obtain ⟨x0, x1, x2, x3, x4, x5, x6, x7, x8, xf⟩ := box_tok (alloc_kept b1); clear b1)
        | (go_at_call 11; refine (KG.out _).mono ?_; rintro e w' ⟨rfl, rfl⟩)
        | (go_at_call 14; refine (KS.out _).mono ?_; rintro e w' ⟨rfl, rfl⟩)
        | (go_at_call 16; refine (KC.out _).mono ?_; rintro e w' ⟨rfl, rfl⟩)
        | (go_at_call 17; refine (KT.out _ trivial).mono ?_; rintro e w2 ⟨rfl, b2⟩; have Z2 := Lib.hid (Nat.lt_of_lt_of_le Z1.out b2.size); have A2 := Lib.hid ((b2.block _ Z1.out).trans A1.out); have B2 := Lib.hid (B1.out.trans (b2.mono (Nat.le_of_lt Z1.out))); obtain ⟨c0, c1, c2, c3, c4, c5, c6, c7, c8, cf⟩ := box_tok ((b2.block _ Z1.out).trans A1.out); clear b2 x0 x1 x2 x3 x4 x5 x6 x7 x8 xf))
                    try rw [Exit.noGoto_ret]
                    exact bodyPost_ret (v := .tuple #[v, .int .i64 (k : Int), .int .i64 er]) (by simp [results, Tryd.results4, go_sem]) rfl (YE.out _ (below9 B2.out (Nat.le_refl _) _ _ _ _ _ _ _ _ _))
    · obtain rfl : k = s.size := by have := II.out.le; omega
      have YD := Lib.hid (SI.done II.out)
      go_wp2
      try rw [Exit.noGoto_ret]
      exact bodyPost_ret (v := .tuple #[v, .int .i64 0, .int .i64 0]) (by simp [results, Tryd.results4, go_sem]) rfl YD.out
end Go.Proofs.YtlihkmhhfnkkoaaDoor
