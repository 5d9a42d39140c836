/-
  WALK: OctetPair (made by wip/gen/gen_pair.py).
-/
import Derived.Test.YtfgmgcllplgpnaaWPair6
namespace Go.Proofs.Ytfgmgcllplgpnaa
open Go.RowKit
set_option linter.unusedVariables false
set_option linter.unusedSimpArgs false

set_option maxRecDepth 100000 in
set_option maxHeartbeats 4000000 in
theorem octetPair_any (a0 : Option Addr) (n0 cap0 : Nat) (xs : List Int) (a1 : Option Addr) (n1 cap1 : Nat) (ys : List Int) (a2 : Option Addr) (n2 cap2 : Nat) (fs : List Op3) (a3 : Option Addr) (n3 cap3 : Nat) (bs : List Bool) (w : World)
    (h0 : Sl w a0 n0 cap0 xs) (h1 : Sl w a1 n1 cap1 ys) (hf : OL w a2 n2 fs) (ht : TL w a3 n3 bs) (hn0 : n0 ≤ 140737488351232) (hn1 : n1 ≤ 140737488351232) (hn2 : n2 ≤ 1048576) :
    Calls Try.prog 8 #[.slice a0 n0 cap0, .slice a1 n1 cap1, .slice a2 n2 cap2, .slice a3 n3 cap3] w fun e w' => e = .returned (.bool true) ∧ Below w.heap.size w w' := by
  have H0 := Lib.hid h0
  have H1 := Lib.hid h1
  have X0 := Lib.hid h0.1.2.2.1
  have X1 := Lib.hid h1.1.2.2.1
  obtain ⟨f1, f2, f3, f4⟩ := hf
  have F1 := Lib.hid f1
  have F3 := Lib.hid f3
  have FA := Lib.hid (p := 0 < n2 → ∃ b o, a2 = some ⟨b, o, none⟩ ∧ b < w.heap.size ∧ ∀ i, i < n2 → w.cell? ⟨b, o + i * 3, none⟩ = some (.int .i64 (fs.getD i default).k) ∧ w.cell? ⟨b, o + i * 3 + 1, none⟩ = some (.int .u64 (fs.getD i default).l) ∧ w.cell? ⟨b, o + i * 3 + 2, none⟩ = some (.int .i64 (fs.getD i default).n)) (fun q => by
    rcases f4 with f4 | f4
    · omega
    · exact f4)
  obtain ⟨t1, t2⟩ := ht
  have TA := Lib.hid (p := 0 < n3 → ∃ b o, a3 = some ⟨b, o, none⟩ ∧ b < w.heap.size ∧ ∀ i, i < n3 → w.cell? ⟨b, o + i, none⟩ = some (.bool (bs.getD i default))) (fun q => by
    rcases t2 with t2 | t2
    · omega
    · exact t2)
  have L0 := Lib.hid (p := 0 + n0 = n0 ∧ [] ++ xs = xs) ⟨by omega, rfl⟩
  have L1 := Lib.hid (p := 0 + n1 = n1 ∧ [] ++ ys = ys) ⟨by omega, rfl⟩
  have KN0 := Lib.hid (fun A cp W (g : BL W A n0 xs) (g0 : A = none → n0 = 0) => newReader_any A n0 cp xs W g g0)
  have KN1 := Lib.hid (fun A cp W (g : BL W A n1 ys) (g0 : A = none → n1 = 0) => newReader_any A n1 cp ys W g g0)
  have KR0 := Lib.hid (fun W (g : Sl W a0 n0 cap0 xs) => newReaderR_any a0 n0 cap0 xs W g)
  have KR1 := Lib.hid (fun W (g : Sl W a1 n1 cap1 ys) => newReaderR_any a1 n1 cap1 ys W g)
  clear h0 h1 f1 f3 f4 t2
  go_enter Try.func8, Try.ntmps8
  go_wp2_with (first
    | (at_builtin; have qq := B4; refine wp_joinB _ rfl _ _ rfl w.heap.size _ _ _ rfl _ _ _ _ rfl (made_at w3 (pairObj p1 p1') w.heap.size B4.out.size) (H1.out.later (B4.out.alloc B4.out.size _)).1 H1.out.2.1 (by omega) (Nat.le_trans B4.out.size (by simp)) ?_; intro v5 w5 h5; have B5 := Lib.hid ((B4.out.alloc B4.out.size _).trans (h5.below (Nat.le_trans B4.out.size (by simp)))); have C5 := Lib.hid (p := Below (w3.alloc (pairObj p1 p1')).heap.size (w3.alloc (pairObj p1 p1')) w5) (((Below.refl _ _).alloc (Nat.le_refl _) _).trans (Ext.below_new h5 rfl (by simp) (by simp))); have O5' := h5.own; rw [L1.out.1, L1.out.2] at O5'; obtain ⟨a5, c5, rfl⟩ := own_form O5'; have O5 := Lib.hid O5'; clear h5 O5')
    | (go_at_call 10; have qq := O5; refine (KN1.out _ _ _ (own_bl O5.out X1.out (by omega)).1 (own_bl O5.out X1.out (by omega)).2.1).mono ?_; rintro e w6 ⟨p2, a6, c6, rfl, h5, h6⟩; have R6 := Lib.hid h5; have D6 := Lib.hid h6; have B6 := Lib.hid (B5.out.trans (h6.mono B5.out.size)); clear h5 h6)
    | (go_at_call 27; have qq := R6; refine (KR1.out _ (H1.out.later B6.out)).mono ?_; rintro e w7 ⟨p2', a7, c7, rfl, h5, h6⟩; have E7 := Lib.hid h5; have D7 := Lib.hid h6; have B7 := Lib.hid (B6.out.trans (h6.mono B6.out.size)); have C7 := Lib.hid ((C5.out.trans (D6.out.mono C5.out.size)).trans (h6.mono (Nat.le_trans C5.out.size D6.out.size))); have P8 := Lib.hid ((P4.out.later (below_gr C7.out none)).alloc (pairObj p2 p2')); have k8 : (w7.alloc (.cells #[.pointer (some ⟨p2, 0, none⟩), .pointer (some ⟨p2', 0, none⟩), .slice none 0 0, .bool false, .slice none 0 0, .slice none 0 0] 64)).cell? ⟨w3.heap.size, 0, none⟩ = some (.pointer (some ⟨p1, 0, none⟩)) := P8.out.c0; have Q8 := Lib.hid (po_new ((R6.out.later (below_gr h6 none)).low B5.out.size) (h5.low B6.out.size) B7.out.size); clear h5 h6)
    | (at_builtin; refine wp_joinB _ rfl _ _ rfl w.heap.size _ _ _ rfl _ _ _ _ rfl (show Own (w.alloc (.cells #[] 5)) w.heap.size (.slice (some ⟨w.heap.size, 0, none⟩) 0 0) 0 [] from World.ownsRow_made w #[] 0 (Nat.le_refl _) (Nat.zero_le _) rfl) (H0.out.later ((Below.refl _ w).alloc (Nat.le_refl _) _)).1 H0.out.2.1 (by omega) (by simp) ?_; intro v1 w1 h5; have B1 := Lib.hid (((Below.refl _ w).alloc (Nat.le_refl _) _).trans (h5.below (by simp))); have O1' := h5.own; rw [L0.out.1, L0.out.2] at O1'; obtain ⟨s1, c1, rfl⟩ := own_form O1'; have O1 := Lib.hid O1'; clear h5 O1')
    | (go_at_call 10; refine (KN0.out _ _ _ (own_bl O1.out X0.out (by omega)).1 (own_bl O1.out X0.out (by omega)).2.1).mono ?_; rintro e w2 ⟨p1, s2, c2, rfl, h5, h6⟩; have R2 := Lib.hid h5; have B2 := Lib.hid (B1.out.trans (h6.mono B1.out.size)); clear h5 h6)
    | (go_at_call 27; refine (KR0.out _ (H0.out.later B2.out)).mono ?_; rintro e w3 ⟨p1', s3, c3, rfl, h5, h6⟩; have E3 := Lib.hid h5; have B3 := Lib.hid (B2.out.trans (h6.mono B2.out.size)); have R3 := Lib.hid (R2.out.later (below_gr h6 none)); have B4 := Lib.hid (B3.out.alloc B3.out.size (pairObj p1 p1')); have P4 := Lib.hid (po_new (R3.out.low B1.out.size) (E3.out.low B2.out.size) B3.out.size); clear h5 h6))
  have DQ := Lib.hid (p := w7.heap.size ≠ w3.heap.size ∧ p2 ≠ p1 ∧ p2' ≠ p1') (by
    have e1 := C7.out.size
    have e2 := C5.out.size
    have e3 := D6.out.size
    have e4 := R3.out.lt
    have e5 := E3.out.lt
    have e6 := R6.out.base
    have e7 := E7.out.base
    have e8 : (w3.alloc (pairObj p1 p1')).heap.size = w3.heap.size + 1 := by simp
    refine ⟨by omega, by omega, by omega⟩)
  have T8 := Lib.hid (p := Two (w7.alloc (pairObj p2 p2')) w.heap.size 0 w3.heap.size p1 s2 n0 c2 xs p1' s3 c3 w7.heap.size p2 a6 n1 c6 ys p2' a7 c7) ⟨0, _, 0, 0, _, 0, P8.out, Q8.out, (fun x hx => by cases hx), by omega, by omega⟩
  have B8 := Lib.hid (B7.out.alloc B7.out.size (pairObj p2 p2'))
  clear k8
  go_loopw [11] (fun t wr => ∃ i : Nat, i ≤ n2 ∧ t = .int .i64 (i : Int) ∧ Two wr w.heap.size i w3.heap.size p1 s2 n0 c2 xs p1' s3 c3 w7.heap.size p2 a6 n1 c6 ys p2' a7 c7 ∧ Below w.heap.size w wr) (fun t _ => n2 - (intOf t).toNat)
  case atStart => exact ⟨0, by omega, rfl, T8.out, B8.out⟩
  case round =>
    rename World => wr
    obtain ⟨i, hi, rfl, hT, hB⟩ := hrel
    have TW := Lib.hid hT
    have BB := Lib.hid hB
    by_cases hlt : i < n2
    · obtain ⟨b, o, rfl, hb, hc⟩ := FA.out (by omega)
      obtain ⟨c0', c1', c2'⟩ := hc i hlt
      have d0 := (hB.cell (p := ⟨b, o + i * 3, none⟩) hb).trans c0'
      have d1 := (hB.cell (p := ⟨b, o + i * 3 + 1, none⟩) hb).trans c1'
      have d2 := (hB.cell (p := ⟨b, o + i * 3 + 2, none⟩) hb).trans c2'
      have WK := Lib.hid (F3.out (fs.getD i default) (by simp [List.getD, show i < fs.length by rw [F1.out]; omega]))
      have ic : (i : Int) < (n2 : Int) := by omega
      generalize fs.getD i default = f at *
      obtain ⟨fk, fl, fn⟩ := f
      simp only at d0 d1 d2
      clear hT hc c0' c1' c2'
      by_cases h3 : i < n3
      · obtain ⟨b3, o3, rfl, hb3, hc3⟩ := TA.out (by omega)
        have g3 := (hB.cell (p := ⟨b3, o3 + i, none⟩) hb3).trans (hc3 i h3)
        have i3 : (i : Int) < (n3 : Int) := by omega
        have i3d : decide ((i : Int) < (n3 : Int)) = true := decide_eq_true i3
        generalize bs.getD i default = bt at *
        clear hB hc3
        cases bt
        · go_wp2_with (go_at_call 28; refine (two_step (B := w.heap.size) ⟨fk, fl, fn⟩ TW.out WK.out (by omega) (by omega) BB.out.size DQ.out.1 DQ.out.2.1 DQ.out.2.2).mono ?_; rintro e w9 ⟨rfl, h5, h6⟩; have T9 := Lib.hid h5; have B9 := Lib.hid (BB.out.trans h6); clear h5 h6)
          go_roundw
          case rel => exact ⟨i + 1, by omega, by go_num, T9.out, B9.out⟩
          case measure => simp [intOf]; omega
        · go_wp2_with (go_at_call 28; refine (two_step (B := w.heap.size) ⟨fk, fl, fn⟩ TW.out.swap WK.out (by omega) (by omega) BB.out.size (fun e => DQ.out.1 e.symm) (fun e => DQ.out.2.1 e.symm) (fun e => DQ.out.2.2 e.symm)).mono ?_; rintro e w9 ⟨rfl, h5, h6⟩; have T9 := Lib.hid h5; have B9 := Lib.hid (BB.out.trans h6); clear h5 h6)
          go_roundw
          case rel => exact ⟨i + 1, by omega, by go_num, T9.out.swap, B9.out⟩
          case measure => simp [intOf]; omega
      · have i3 : ¬ (i : Int) < (n3 : Int) := by omega
        have i3d : decide ((i : Int) < (n3 : Int)) = false := decide_eq_false i3
        clear hB
        go_wp2_with (go_at_call 28; refine (two_step (B := w.heap.size) ⟨fk, fl, fn⟩ TW.out WK.out (by omega) (by omega) BB.out.size DQ.out.1 DQ.out.2.1 DQ.out.2.2).mono ?_; rintro e w9 ⟨rfl, h5, h6⟩; have T9 := Lib.hid h5; have B9 := Lib.hid (BB.out.trans h6); clear h5 h6)
        go_roundw
        case rel => exact ⟨i + 1, by omega, by go_num, T9.out, B9.out⟩
        case measure => simp [intOf]; omega
    · clear hT hB
      go_wp2
      go_ret
      exact ⟨rfl, BB.out⟩
theorem octetPair_walk (a0 : Option Addr) (n0 cap0 : Nat) (xs : List Int) (a1 : Option Addr) (n1 cap1 : Nat) (ys : List Int) (a2 : Option Addr) (n2 cap2 : Nat) (fs : List Op3) (a3 : Option Addr) (n3 cap3 : Nat) (bs : List Bool) (w : World)
    (h0 : BL w a0 n0 xs ∧ (a0 = none → n0 = 0) ∧ n0 ≤ cap0) (z0 : a0 = none → n0 = 0 ∧ cap0 = 0) (h1 : BL w a1 n1 ys ∧ (a1 = none → n1 = 0) ∧ n1 ≤ cap1) (z1 : a1 = none → n1 = 0 ∧ cap1 = 0) (hf : OL w a2 n2 fs) (ht : TL w a3 n3 bs) (hn0 : n0 ≤ 1048576) (hn1 : n1 ≤ 1048576) (hn2 : n2 ≤ 1048576) :
    Calls Try.prog 8 #[.slice a0 n0 cap0, .slice a1 n1 cap1, .slice a2 n2 cap2, .slice a3 n3 cap3] w fun e w' => e = .returned (.bool true) ∧ Below w.heap.size w w' :=
  octetPair_any a0 n0 cap0 xs a1 n1 cap1 ys a2 n2 cap2 fs a3 n3 cap3 bs w ⟨h0.1, z0, h0.2.2⟩ ⟨h1.1, z1, h1.2.2⟩ hf ht (by omega) (by omega) hn2
end Go.Proofs.Ytfgmgcllplgpnaa
