/-
  WALK: FlowStable.
-/
import Derived.Test.YtmdgfcldohmjdaaDoorWMerge4
import Derived.Test.YtmdgfcldohmjdaaDoorPlainStable
import Derived.Test.YtmdgfcldohmjdaaDoorWHeads2
import Derived.Test.YtmdgfcldohmjdaaDoorWFCounted
namespace Go.Proofs.YtmdgfcldohmjdaaDoor
open Go.RowKit
set_option linter.unusedVariables false
set_option linter.unusedSimpArgs false

set_option maxRecDepth 100000 in
set_option maxHeartbeats 8000000 in
theorem flowStable_walk (hsort : SortsN) (a : Option Addr) (n cap : Nat) (Ls : List (List Fl)) (w : World) (h : LL w a n Ls) (ht : ltot Ls ≤ 1048576) (hP : Pw w.heap.size w) :
    Calls Tryd.prog 7 #[.slice a n cap] w fun e w' => e = .returned (.bool true) ∧ Below w.heap.size w w' := by
  have H := Lib.hid h
  have HL := Lib.hid h.1
  have hn := h.2.1
  have KH := Lib.hid (heads_any hsort w hP)
  clear h hP
  go_enter Tryd.func7, Tryd.ntmps7
  go_wp2_with fail
  go_at_call 8
  refine KH.out.mono ?_
  rintro e w1 ⟨rfl, b1⟩
  have B1 := Lib.hid b1
  have L1 := Lib.hid (H.out.later b1)
  clear b1
  go_wp2
  go_loopw [3, 4] (fun t x wr => ∃ i : Nat, i ≤ n ∧ x = .int .i64 (i : Int) ∧ t = .int .i64 (ltot (Ls.take i) : Int) ∧ (∀ j, j < i → srtB (Ls.getD j []) = true) ∧ Below w1.heap.size w1 wr) (fun _ x _ => n - (intOf x).toNat)
  case atStart => exact ⟨0, by omega, rfl, by simp [ltot], fun j hj => by omega, Below.refl _ _⟩
  case round =>
    obtain ⟨i, hi, rfl, rfl, hj, hB⟩ := hrel
    rename World => wr
    have BB := Lib.hid hB
    have HJ := Lib.hid hj
    by_cases hlt : i < n
    · obtain ⟨b, o, rfl, hb, hc⟩ := L1.out.row (by omega)
      obtain ⟨v, qv, fv⟩ := hc i hlt
      have NI := Lib.hid (p := srtB (Ls.getD i []) = true → ∀ j, j < i + 1 → srtB (Ls.getD j []) = true) (fun q j hj' => by
        by_cases e : j = i
        · subst e; exact q
        · exact HJ.out j (by omega))
      have LT := Lib.hid (ltot_take (Ls := Ls) (i := i) (by rw [HL.out]; exact hlt))
      have lle := ltot_le (Ls := Ls) (i + 1)
      have MI := Lib.hid (p := Ls.getD i [] ∈ Ls) (by rw [show Ls.getD i [] = Ls[i]'(by rw [HL.out]; exact hlt) by simp [List.getD, show i < Ls.length by rw [HL.out]; exact hlt]]; exact List.getElem_mem _)
      generalize Ls.getD i [] = l at *
      obtain ⟨x, c, rfl, fl, _⟩ := fv
      have FW := Lib.hid fl
      rw [LT.out] at lle
      obtain ⟨lt, hlt'⟩ : ∃ lt, ltot (Ls.take i) = lt := ⟨_, rfl⟩
      rw [hlt'] at lle LT ⊢
      obtain ⟨ln, hln⟩ : ∃ ln, l.length = ln := ⟨_, rfl⟩
      rw [hln] at lle LT qv FW
      have SB := Lib.hid (p := (∀ j, j + 1 < ln → (l.getD j default).d ≤ (l.getD (j + 1) default).d) → srtB l = true) (fun q => decide_eq_true (fun j h1 h2 => q j (by rw [← hln]; exact h2)))
      have SN := Lib.hid (p := ∀ j, j + 1 < ln → (l.getD (j + 1) default).d < (l.getD j default).d → srtB l = false) (fun j h1 q => decide_eq_false (fun r => by have := r j (by omega) (by omega); omega))
      have QV := Lib.hid (p := ∀ W, Below w1.heap.size w1 W → W.cell? ⟨b, o + i, none⟩ = some (.slice x ln c)) (fun W bb => (bb.cell (p := ⟨b, o + i, none⟩) hb).trans qv)
      have qr := QV.out wr hB
      have ki : (i : Int) < (n : Int) := by omega
      have kwi : IntKind.i64.wrap ((i : Int) + 1) = (i : Int) + 1 := by simp [IntKind.wrap, IntKind.bits, IntKind.signed]; omega
      have kwt : IntKind.i64.wrap ((lt : Int) + (ln : Int)) = (lt : Int) + (ln : Int) := by simp [IntKind.wrap, IntKind.bits, IntKind.signed]; omega
      clear fl qv hc hB hj hln hlt'
      go_wp2
      go_loopw [5] (fun t wy => ∃ k : Nat, 1 ≤ k ∧ k ≤ ln + 1 ∧ t = .int .i64 (k : Int) ∧ (∀ j, j + 1 < k → j + 1 < ln → (l.getD j default).d ≤ (l.getD (j + 1) default).d) ∧ Below w1.heap.size w1 wy) (fun t _ => ln + 1 - (intOf t).toNat)
      case atStart => exact ⟨1, by omega, by omega, rfl, fun j h1 h2 => by omega, BB.out⟩
      case round =>
        obtain ⟨k, h1, hk, rfl, ho, hB⟩ := hrel
        rename World => wy
        have BY := Lib.hid hB
        have HO := Lib.hid ho
        have qy := QV.out wy hB
        clear qr
        by_cases hkl : k < ln
        · obtain ⟨j, rfl⟩ : ∃ j, k = j + 1 := ⟨k - 1, by omega⟩
          obtain ⟨bl, ol, rfl, hbl, hcl⟩ := fl_row FW.out (by omega)
          obtain ⟨x0, x1, x2⟩ := (hcl j (by omega)).later hB hbl
          obtain ⟨y0, y1, y2⟩ := (hcl (j + 1) hkl).later hB hbl
          have NF := Lib.hid (SN.out j (by omega))
          have NT := Lib.hid (p := (l.getD j default).d ≤ (l.getD (j + 1) default).d → ∀ i, i + 1 < j + 1 + 1 → i + 1 < ln → (l.getD i default).d ≤ (l.getD (i + 1) default).d) (fun q i h2 h3 => by
            by_cases e : i = j
            · subst e; exact q
            · exact HO.out i (by omega) h3)
          generalize l.getD j default = fx at *
          generalize l.getD (j + 1) default = fy at *
          obtain ⟨xd, xc, xa⟩ := fx
          obtain ⟨yd, yc, ya⟩ := fy
          simp only at x0 x1 x2 y0 y1 y2 NF NT
          have kt : ((j : Int) + 1).toNat = j + 1 := by omega
          have kn : (j : Int) + 1 < (ln : Int) := by omega
          have kn2 : (j : Int) < (ln : Int) := by omega
          have kz : (0 : Int) ≤ (j : Int) + 1 := by omega
          have kw : IntKind.i64.wrap ((j : Int) + 1 - 1) = (j : Int) := by simp [IntKind.wrap, IntKind.bits, IntKind.signed]; omega
          have kw2 : IntKind.i64.wrap (j : Int) = (j : Int) := by simp [IntKind.wrap, IntKind.bits, IntKind.signed]; omega
          have kw3 : IntKind.i64.wrap ((j : Int) + 1 + 1) = (j : Int) + 1 + 1 := by simp [IntKind.wrap, IntKind.bits, IntKind.signed]; omega
          clear hcl ho
          by_cases hd : yd < xd
          · have E := Lib.hid (NF.out hd)
            have KM := Lib.hid (fun W (bb : Below w1.heap.size w1 W) => merge_any (some ⟨b, o, none⟩) n cap Ls W (L1.out.later bb) ht)
            clear hB
            go_wp2
            go_quiet (fail)
            obtain ⟨W5, hW5⟩ : ∃ W5, wy.drewN nq = W5 := ⟨_, rfl⟩
            have Q5 := Lib.hid (p := Below w1.heap.size w1 W5) (by rw [← hW5]; exact ⟨BY.out.os, BY.out.tape, BY.out.output, BY.out.size, BY.out.block⟩)
            rw [hW5]
            clear hW5 x0 x1 x2 y0 y1 y2 qy
            go_wp2_with fail
            go_at_call 20
            refine (KM.out _ Q5.out).mono ?_
            rintro e w6 ⟨b6, ⟨_, rfl⟩ | ⟨hall, _⟩⟩
            · have B6 := Lib.hid (B1.out.trans ((Q5.out.trans (b6.mono Q5.out.size)).mono B1.out.size))
              clear b6
              go_wp2
              go_ret
              exact ⟨rfl, B6.out⟩
            · have := hall l MI.out
              rw [E.out] at this
              cases this
          · have NJ := Lib.hid (NT.out (by omega))
            clear hB
            go_wp2
            go_quiet (fail)
            go_wp2
            go_roundw
            case rel => exact ⟨j + 1 + 1, by omega, by omega, by simp, NJ.out, ⟨BY.out.os, BY.out.tape, BY.out.output, BY.out.size, BY.out.block⟩⟩
            case measure => simp [intOf]; omega
        · have E := Lib.hid (NI.out (SB.out (fun j h2 => HO.out j (by omega) h2)))
          have kk : ¬ (k : Int) < (ln : Int) := by omega
          clear ho hB
          go_wp2
          go_roundw
          case rel => exact ⟨i + 1, by omega, by simp, by rw [LT.out]; simp, E.out, BY.out⟩
          case measure => simp [intOf]; omega
    · obtain ⟨i_, hi_⟩ : ∃ i_, i = i_ := ⟨_, rfl⟩
      obtain rfl : i_ = i := hi_.symm
      obtain rfl : i_ = n := by omega
      have ki : ¬ (i_ : Int) < (i_ : Int) := by omega
      have TE : ltot (Ls.take i_) = ltot Ls := by rw [List.take_of_length_le (by rw [HL.out]; exact Nat.le_refl _)]
      rw [TE]
      have ALL := Lib.hid (p := ¬ ∃ l ∈ Ls, srtB l = false) (by
        rintro ⟨l, hm, q⟩
        obtain ⟨j, hj', rfl⟩ := List.getElem_of_mem hm
        have := HJ.out j (by rw [← HL.out]; exact hj')
        rw [show Ls.getD j [] = Ls[j] by simp [List.getD, hj'], q] at this
        cases this)
      have KM := Lib.hid (merge_any a i_ cap Ls wr (L1.out.later BB.out) ht)
      clear hB hj TE
      go_wp2_with fail
      go_at_call 20
      refine KM.out.mono ?_
      rintro e w6 ⟨b6, ⟨hno, _⟩ | ⟨_, T, v, rfl, hv, hM⟩⟩
      · exact absurd hno ALL.out
      · have B6 := Lib.hid (BB.out.trans (b6.mono BB.out.size))
        have MM := Lib.hid hM
        have L6 := Lib.hid (L1.out.later B6.out)
        obtain ⟨xT, cT, rfl, fT, _⟩ := hv
        obtain ⟨M, hM0⟩ : ∃ M, ltot Ls = M := ⟨_, rfl⟩
        have TL := Lib.hid (p := T.length = M) (by rw [hM.len, hM0])
        rw [TL.out] at fT ⊢
        rw [hM0] at ht ⊢
        have FT := Lib.hid fT
        clear b6 hM fT hM0
        go_wp2
        go_loopw [10] (fun t wz => ∃ at_ : Nat, at_ ≤ M ∧ t = .int .i64 (at_ : Int) ∧ Blk T at_ ∧ Below w6.heap.size w6 wz) (fun t _ => M - (intOf t).toNat)
        case atStart => exact ⟨0, by omega, rfl, fun i j h1 => by omega, Below.refl _ _⟩
        case round =>
          obtain ⟨at_, hat, rfl, hbk, hB⟩ := hrel
          rename World => wx
          have BZ := Lib.hid hB
          by_cases hlt : at_ < M
          · obtain ⟨cf, hcf⟩ := cnt_of HL.out MM.out.srt MM.out.day hbk (by rw [TL.out]; exact hlt) rfl
            have CF := Lib.hid hcf
            obtain ⟨bt, ot, rfl, hbt, hct⟩ := fl_row FT.out (by omega)
            have TC6 := Lib.hid (p := ∀ p, p < T.length → FC w6 bt (ot + p * 3) (T.getD p default)) (fun p hp => hct p (by rw [← TL.out]; exact hp))
            obtain ⟨z0, z1, z2⟩ := (hct at_ hlt).later hB hbt
            have BK := Lib.hid (p := ∀ q, q < at_ → (T.getD q default).d < (T.getD at_ default).d) (fun q hq => hbk q at_ hq (Nat.le_refl _) (by rw [TL.out]; exact hlt))
            obtain ⟨D, hD⟩ : ∃ D, (T.getD at_ default).d = D := ⟨_, rfl⟩
            rw [hD] at CF BK z0
            clear hcf hD hbk
            have ka : (at_ : Int) < (M : Int) := by omega
            have kaz : (0 : Int) ≤ (at_ : Int) := by omega
            by_cases h0 : at_ = 0
            · subst h0
              rw [show ((0 : Nat) : Int) = 0 from rfl]
              have ka : (0 : Int) < (M : Int) := by omega
              rw [show ot + 0 * 3 = ot by omega] at z0 z1 z2
              clear hB hct
              go_wp2
              go_loopw [10, 13] (fun t x wy => ∃ i : Nat, i ≤ i_ ∧ x = .int .i64 (i : Int) ∧ t = .int .i64 ((0 + cf i 0 : Nat) : Int) ∧ Below w6.heap.size w6 wy) (fun _ x _ => i_ - (intOf x).toNat)
              case atStart => exact ⟨0, by omega, rfl, by rw [CF.out.c0]; rfl, BZ.out⟩
              case round =>
                obtain ⟨i, hi, rfl, rfl, hB⟩ := hrel
                rename World => wy
                have BY := Lib.hid hB
                by_cases hin : i < i_
                · obtain ⟨b, o, rfl, hb, hc⟩ := L6.out.row (by omega)
                  obtain ⟨v, qv, fv⟩ := hc i hin
                  have YES := Lib.hid (fun k => CF.out.yes i k hin)
                  have NO := Lib.hid (fun k => CF.out.no i k hin)
                  have NX := Lib.hid (CF.out.nx i hin)
                  generalize Ls.getD i [] = l at *
                  obtain ⟨x, c, rfl, fl, _⟩ := fv
                  have FW := Lib.hid fl
                  obtain ⟨ln, hln⟩ : ∃ ln, l.length = ln := ⟨_, rfl⟩
                  rw [hln] at YES NO NX qv FW
                  have l4 : ln ≤ 4398046511000 := by rw [← hln]; exact fl.2.1
                  have QV := Lib.hid (p := ∀ W, Below w6.heap.size w6 W → W.cell? ⟨b, o + i, none⟩ = some (.slice x ln c)) (fun W bb => (bb.cell (p := ⟨b, o + i, none⟩) hb).trans qv)
                  have ki : (i : Int) < (i_ : Int) := by omega
                  have kwi : IntKind.i64.wrap ((i : Int) + 1) = (i : Int) + 1 := by simp [IntKind.wrap, IntKind.bits, IntKind.signed]; omega
                  clear fl qv hc hB hln
                  go_wp2
                  go_loopw [10, 14] (fun t x wz => ∃ k : Nat, k ≤ ln ∧ x = .int .i64 (k : Int) ∧ t = .int .i64 ((0 + cf i k : Nat) : Int) ∧ Below w6.heap.size w6 wz) (fun _ x _ => ln - (intOf x).toNat)
                  case atStart => exact ⟨0, by omega, rfl, rfl, BY.out⟩
                  case round =>
                    obtain ⟨k, hk, rfl, rfl, hB⟩ := hrel
                    rename World => wz
                    have BW := Lib.hid hB
                    have qz := QV.out wz hB
                    by_cases hkl : k < ln
                    · obtain ⟨bl, ol, rfl, hbl, hcl⟩ := fl_row FW.out (by omega)
                      obtain ⟨y0, y1, y2⟩ := (hcl k hkl).later hB hbl
                      have YK := Lib.hid (YES.out k hkl)
                      have NK := Lib.hid (NO.out k hkl)
                      have kk : (k : Int) < (ln : Int) := by omega
                      have kz : (0 : Int) ≤ (k : Int) := by omega
                      have kwk : IntKind.i64.wrap ((k : Int) + 1) = (k : Int) + 1 := by simp [IntKind.wrap, IntKind.bits, IntKind.signed]; omega
                      obtain ⟨pp, hpp⟩ : ∃ pp, 0 + cf i k = pp := ⟨_, rfl⟩
                      rw [hpp] at YK ⊢
                      have PP := Lib.hid hpp
                      clear hcl hpp
                      by_cases hd : (l.getD k default).d = D
                      · obtain ⟨n1, n2, n3⟩ := YK.out hd
                        obtain ⟨t0, t1, t2⟩ := (TC6.out pp n2).later hB hbt
                        rw [n3] at t0 t1 t2
                        have N1 := Lib.hid (p := 0 + cf i (k + 1) = pp + 1) (by rw [n1, ← PP.out]; omega)
                        generalize l.getD k default = fy at *
                        obtain ⟨yd, yc, ya⟩ := fy
                        simp only at y0 y1 y2 t0 t1 t2 hd
                        have hd' := hd.symm
                        subst hd'
                        have ss9 : (yc.toList == yc.toList) = true := by simp
                        have n2M : pp < M := by rw [← TL.out]; exact n2
                        have kp : (pp : Int) < (M : Int) := by omega
                        have kp2 : ¬ (M : Int) ≤ (pp : Int) := by omega
                        have kp3 : decide ((M : Int) ≤ (pp : Int)) = false := decide_eq_false kp2
                        have kpz : (0 : Int) ≤ (pp : Int) := by omega
                        have kwp : IntKind.i64.wrap ((pp : Int) + 1) = (pp : Int) + 1 := by simp [IntKind.wrap, IntKind.bits, IntKind.signed]; omega
                        clear n1 n2 n3 hB hd
                        go_wp2
                        go_quiet (fail)
                        go_wp2
                        go_roundw
                        case rel => exact ⟨k + 1, by omega, by simp, by rw [N1.out]; simp, ⟨BW.out.os, BW.out.tape, BW.out.output, BW.out.size, BW.out.block⟩⟩
                        case measure => simp [intOf]; omega
                      · have N1 := Lib.hid (p := 0 + cf i (k + 1) = pp) (by rw [NK.out hd]; exact PP.out)
                        generalize l.getD k default = fy at *
                        obtain ⟨yd, yc, ya⟩ := fy
                        simp only at y0 y1 y2 hd
                        have hd2 : (yd == D) = false := by rw [beq_eq_false_iff_ne]; exact hd
                        clear hB
                        go_wp2
                        go_roundw
                        case rel => exact ⟨k + 1, by omega, by simp, by rw [N1.out], BW.out⟩
                        case measure => simp [intOf]; omega
                    · obtain rfl : k = ln := by omega
                      have kk : ¬ (k : Int) < (k : Int) := by omega
                      clear hB
                      go_wp2
                      go_roundw
                      case rel => exact ⟨i + 1, by omega, by simp, by rw [NX.out], BW.out⟩
                      case measure => simp [intOf]; omega
                · obtain rfl : i = i_ := by omega
                  have ki : ¬ (i : Int) < (i : Int) := by omega
                  obtain ⟨f1, f2, f3⟩ := CF.out.fin
                  have F3 := Lib.hid f3
                  obtain ⟨pp, hpp⟩ : ∃ pp, 0 + cf i 0 = pp := ⟨_, rfl⟩
                  rw [hpp] at f1 F3 ⊢
                  have kne : ¬ ((pp : Int) = 0) := by omega
                  have kne2 : ((pp : Int) == 0) = false := by rw [beq_eq_false_iff_ne]; exact kne
                  rw [TL.out] at f1
                  clear hB f3
                  go_wp2
                  go_roundw
                  case rel => exact ⟨pp, f1, rfl, F3.out, BY.out⟩
                  case measure => simp [intOf]; omega
            · obtain ⟨p, rfl⟩ : ∃ p, at_ = p + 1 := ⟨at_ - 1, by omega⟩
              obtain ⟨u0, u1, u2⟩ := (hct p (by omega)).later hB hbt
              have bk := BK.out p (by omega)
              generalize T.getD p default = fp at *
              obtain ⟨pd, pc, pa⟩ := fp
              simp only at u0 u1 u2 bk
              have kd : ¬ D ≤ pd := by omega
              have kd2 : decide (D ≤ pd) = false := decide_eq_false kd
              have k0 : (0 : Int) < (p : Int) + 1 := by omega
              have kz : (0 : Int) ≤ (p : Int) + 1 := by omega
              have kt : ((p : Int) + 1).toNat = p + 1 := by omega
              have kpm : (p : Int) < (M : Int) := by omega
              have kpm1 : (p : Int) + 1 < (M : Int) := by omega
              have kw : IntKind.i64.wrap ((p : Int) + 1 - 1) = (p : Int) := by simp [IntKind.wrap, IntKind.bits, IntKind.signed]; omega
              have kw2 : IntKind.i64.wrap (p : Int) = (p : Int) := by simp [IntKind.wrap, IntKind.bits, IntKind.signed]; omega
              clear hB hct bk
              go_wp2
              go_loopw [10, 13] (fun t x wy => ∃ i : Nat, i ≤ i_ ∧ x = .int .i64 (i : Int) ∧ t = .int .i64 ((p + 1 + cf i 0 : Nat) : Int) ∧ Below w6.heap.size w6 wy) (fun _ x _ => i_ - (intOf x).toNat)
              case atStart => exact ⟨0, by omega, rfl, by rw [CF.out.c0]; rfl, BZ.out⟩
              case round =>
                obtain ⟨i, hi, rfl, rfl, hB⟩ := hrel
                rename World => wy
                have BY := Lib.hid hB
                by_cases hin : i < i_
                · obtain ⟨b, o, rfl, hb, hc⟩ := L6.out.row (by omega)
                  obtain ⟨v, qv, fv⟩ := hc i hin
                  have YES := Lib.hid (fun k => CF.out.yes i k hin)
                  have NO := Lib.hid (fun k => CF.out.no i k hin)
                  have NX := Lib.hid (CF.out.nx i hin)
                  generalize Ls.getD i [] = l at *
                  obtain ⟨x, c, rfl, fl, _⟩ := fv
                  have FW := Lib.hid fl
                  obtain ⟨ln, hln⟩ : ∃ ln, l.length = ln := ⟨_, rfl⟩
                  rw [hln] at YES NO NX qv FW
                  have l4 : ln ≤ 4398046511000 := by rw [← hln]; exact fl.2.1
                  have QV := Lib.hid (p := ∀ W, Below w6.heap.size w6 W → W.cell? ⟨b, o + i, none⟩ = some (.slice x ln c)) (fun W bb => (bb.cell (p := ⟨b, o + i, none⟩) hb).trans qv)
                  have ki : (i : Int) < (i_ : Int) := by omega
                  have kwi : IntKind.i64.wrap ((i : Int) + 1) = (i : Int) + 1 := by simp [IntKind.wrap, IntKind.bits, IntKind.signed]; omega
                  clear fl qv hc hB hln
                  go_wp2
                  go_loopw [10, 14] (fun t x wz => ∃ k : Nat, k ≤ ln ∧ x = .int .i64 (k : Int) ∧ t = .int .i64 ((p + 1 + cf i k : Nat) : Int) ∧ Below w6.heap.size w6 wz) (fun _ x _ => ln - (intOf x).toNat)
                  case atStart => exact ⟨0, by omega, rfl, rfl, BY.out⟩
                  case round =>
                    obtain ⟨k, hk, rfl, rfl, hB⟩ := hrel
                    rename World => wz
                    have BW := Lib.hid hB
                    have qz := QV.out wz hB
                    by_cases hkl : k < ln
                    · obtain ⟨bl, ol, rfl, hbl, hcl⟩ := fl_row FW.out (by omega)
                      obtain ⟨y0, y1, y2⟩ := (hcl k hkl).later hB hbl
                      have YK := Lib.hid (YES.out k hkl)
                      have NK := Lib.hid (NO.out k hkl)
                      have kk : (k : Int) < (ln : Int) := by omega
                      have kz : (0 : Int) ≤ (k : Int) := by omega
                      have kwk : IntKind.i64.wrap ((k : Int) + 1) = (k : Int) + 1 := by simp [IntKind.wrap, IntKind.bits, IntKind.signed]; omega
                      obtain ⟨pp, hpp⟩ : ∃ pp, p + 1 + cf i k = pp := ⟨_, rfl⟩
                      rw [hpp] at YK ⊢
                      have PP := Lib.hid hpp
                      clear hcl hpp
                      by_cases hd : (l.getD k default).d = D
                      · obtain ⟨n1, n2, n3⟩ := YK.out hd
                        obtain ⟨t0, t1, t2⟩ := (TC6.out pp n2).later hB hbt
                        rw [n3] at t0 t1 t2
                        have N1 := Lib.hid (p := p + 1 + cf i (k + 1) = pp + 1) (by rw [n1, ← PP.out]; omega)
                        generalize l.getD k default = fy at *
                        obtain ⟨yd, yc, ya⟩ := fy
                        simp only at y0 y1 y2 t0 t1 t2 hd
                        have hd' := hd.symm
                        subst hd'
                        have ss9 : (yc.toList == yc.toList) = true := by simp
                        have n2M : pp < M := by rw [← TL.out]; exact n2
                        have kp : (pp : Int) < (M : Int) := by omega
                        have kp2 : ¬ (M : Int) ≤ (pp : Int) := by omega
                        have kp3 : decide ((M : Int) ≤ (pp : Int)) = false := decide_eq_false kp2
                        have kpz : (0 : Int) ≤ (pp : Int) := by omega
                        have kwp : IntKind.i64.wrap ((pp : Int) + 1) = (pp : Int) + 1 := by simp [IntKind.wrap, IntKind.bits, IntKind.signed]; omega
                        clear n1 n2 n3 hB hd
                        go_wp2
                        go_quiet (fail)
                        go_wp2
                        go_roundw
                        case rel => exact ⟨k + 1, by omega, by simp, by rw [N1.out]; simp, ⟨BW.out.os, BW.out.tape, BW.out.output, BW.out.size, BW.out.block⟩⟩
                        case measure => simp [intOf]; omega
                      · have N1 := Lib.hid (p := p + 1 + cf i (k + 1) = pp) (by rw [NK.out hd]; exact PP.out)
                        generalize l.getD k default = fy at *
                        obtain ⟨yd, yc, ya⟩ := fy
                        simp only at y0 y1 y2 hd
                        have hd2 : (yd == D) = false := by rw [beq_eq_false_iff_ne]; exact hd
                        clear hB
                        go_wp2
                        go_roundw
                        case rel => exact ⟨k + 1, by omega, by simp, by rw [N1.out], BW.out⟩
                        case measure => simp [intOf]; omega
                    · obtain rfl : k = ln := by omega
                      have kk : ¬ (k : Int) < (k : Int) := by omega
                      clear hB
                      go_wp2
                      go_roundw
                      case rel => exact ⟨i + 1, by omega, by simp, by rw [NX.out], BW.out⟩
                      case measure => simp [intOf]; omega
                · obtain rfl : i = i_ := by omega
                  have ki : ¬ (i : Int) < (i : Int) := by omega
                  obtain ⟨f1, f2, f3⟩ := CF.out.fin
                  have F3 := Lib.hid f3
                  obtain ⟨pp, hpp⟩ : ∃ pp, p + 1 + cf i 0 = pp := ⟨_, rfl⟩
                  rw [hpp] at f1 F3 ⊢
                  have kne : ¬ ((pp : Int) = (p : Int) + 1) := by omega
                  have kne2 : ((pp : Int) == (p : Int) + 1) = false := by rw [beq_eq_false_iff_ne]; exact kne
                  rw [TL.out] at f1
                  clear hB f3
                  go_wp2
                  go_roundw
                  case rel => exact ⟨pp, f1, rfl, F3.out, BY.out⟩
                  case measure => simp [intOf]; omega
          · obtain rfl : at_ = M := by omega
            have ka : ¬ (at_ : Int) < (at_ : Int) := by omega
            have BE := Lib.hid (B1.out.trans ((B6.out.trans (hB.mono B6.out.size)).mono B1.out.size))
            clear hB hbk
            go_wp2
            go_ret
            exact ⟨rfl, BE.out⟩
end Go.Proofs.YtmdgfcldohmjdaaDoor
