import Derived.Test.YtjbbbejadhojlaaDoorXAM
import Derived.Test.YtjbbbejadhojlaaDoorXAH
namespace Go.Proofs.YtjbbbejadhojlaaDoor
open Go.RowKit
set_option linter.unusedVariables false
set_option linter.unusedSimpArgs false
set_option maxRecDepth 100000 in
set_option maxHeartbeats 4000000 in
theorem allU_any {w : World} {p : Pg} {B ub gn gu gp : Nat} {bn bu bp : List Bool} (h : US w p B ub gn gu gp bn bu bp) (h0 : bn.length ≤ 17592186043904) (h1 : bu.length ≤ 17592186043904) (h2 : bp.length ≤ 17592186043904) :
    Calls Tryd.prog 63 #[.pointer (some ⟨ub, 0, none⟩)] w fun e w' => e = .returned (.bool (bn.all id && bu.all id && bp.all id)) ∧ Below w.heap.size w w' := by
  have K0 := Lib.hid (fun W (b : Below w.heap.size w W) => containsB_any (h.later b).rn h0)
  have K1 := Lib.hid (fun W (b : Below w.heap.size w W) => containsB_any (h.later b).ru h1)
  have K2 := Lib.hid (fun W (b : Below w.heap.size w W) => containsB_any (h.later b).rp h2)
  obtain ⟨u0, u1, u2, u3, u4⟩ := box_all5P h.box
  clear h h0 h1 h2 u3 u4
  generalize bn.all id = b0 at *
  generalize bu.all id = b1 at *
  generalize bp.all id = b2 at *
  generalize bn.length = n0 at *
  generalize bu.length = n1 at *
  generalize bp.length = n2 at *
  have C0 := Lib.hid (K0.out w (Below.refl _ _))
  have C1 := Lib.hid (K1.out w (Below.refl _ _))
  have C2 := Lib.hid (K2.out w (Below.refl _ _))
  clear K0 K1 K2
  have Q0 : True := trivial
  have Q1 : True := trivial
  cases b0 <;> cases b1 <;> cases b2
  all_goals
    go_enter Tryd.func63, Tryd.ntmps63
    go_wp2_with (first
      | (go_at_call 78; have qq := Q0; refine C0.out.mono ?_; rintro e w1 ⟨rfl, h1⟩; subst h1; clear Q0)
      | (go_at_call 78; have qq := Q1; refine C1.out.mono ?_; rintro e w1 ⟨rfl, h1⟩; subst h1; clear Q1)
      | (go_at_call 78; refine C2.out.mono ?_; rintro e w1 ⟨rfl, h1⟩; subst h1))
    go_ret
    exact ⟨rfl, Below.refl _ _⟩
/-- All instructions' marks. -/
def mkAll (op : Int) (l : List Sg) (bs : List Bool) : List Bool := l.foldl (fun b s => s.code.foldl (mkB op) b) bs
theorem mkAll_next (op : Int) (bs : List Bool) (l : List Sg) (k : Nat) (h : k < l.length) : mkAll op (l.take (k + 1)) bs = (l.getD k default).code.foldl (mkB op) (mkAll op (l.take k) bs) := by
  unfold mkAll
  rw [List.take_succ_eq_append_getElem h, List.foldl_append]
  simp [List.getD, h]
def useP (p : Pg) : Prop := (∀ i, i < p.days.length → codeP p (p.days.getD i default).code) ∧ ((mkAll 3 p.days (List.replicate p.names.length false)).all id && (mkAll 28 p.days (List.replicate p.curs.length false)).all id && (mkAll 1 p.days (List.replicate p.pool.length false)).all id) = true
noncomputable instance (p : Pg) : Decidable (useP p) := Classical.propDecidable _
theorem RBo.mono {W : World} {B B' g : Nat} {bs : List Bool} (h : RBo W B g bs) (hb : B' ≤ B) : RBo W B' g bs := by
  refine ⟨h.1, ?_⟩
  rcases h.2 with q | ⟨g, cap, cur, q1, q2, q3⟩
  · exact .inl q
  · exact .inr ⟨g, cap, cur, q1, Nat.le_trans hb q2, q3⟩
theorem us_new {w w1 : World} {p : Pg} {B gn gu gp : Nat} (r1 : RBo w1 B gn (List.replicate p.names.length false)) (r2 : RBo w1 B gu (List.replicate p.curs.length false)) (r3 : RBo w1 B gp (List.replicate p.pool.length false)) (n1 : gn ≠ gu) (n2 : gn ≠ gp) (n4 : gu ≠ gp) (hB : w.heap.size ≤ B) (l1 : B ≤ gn) (l2 : B ≤ gu) (l4 : B ≤ gp) :
    US (w1.alloc (.cells #[.slice (some ⟨gn, 0, none⟩) p.names.length p.names.length, .slice (some ⟨gu, 0, none⟩) p.curs.length p.curs.length, .slice (some ⟨gp, 0, none⟩) p.pool.length p.pool.length, .int .i64 p.cells, .int .i64 p.slots] 116)) p w.heap.size w1.heap.size gn gu gp (List.replicate p.names.length false) (List.replicate p.curs.length false) (List.replicate p.pool.length false) := by
  have g1 := (World.ownsRow.lt r1 gn rfl).2
  have g2 := (World.ownsRow.lt r2 gu rfl).2
  have g3 := (World.ownsRow.lt r3 gp rfl).2
  refine ⟨?_, (r1.mono hB).later (allocBP w1 _), (r2.mono hB).later (allocBP w1 _), (r3.mono hB).later (allocBP w1 _), by simp, by simp, by simp, ⟨n1, n2, n4, by omega, by omega, by omega⟩, ⟨by omega, by omega, by omega, by omega⟩⟩
  simp only [List.length_replicate]
  exact heapN _ _
set_option maxRecDepth 100000 in
set_option maxHeartbeats 8000000 in
theorem codeFits_any {w : World} {p : Pg} (h : PV w p) (hR : Rws w) : Calls Tryd.prog 38 #[p.agg] w fun e w' => e = .returned (.bool (decide (useP p))) ∧ Below w.heap.size w w' := by
  have B0 := Lib.hid (allocBP w p.box)
  have TB := Lib.hid (p := BkP (w.alloc p.box) w.heap.size p.arr 26) (heapN _ _)
  have KO := Lib.hid (usesOf_any (h.later (allocBP w p.box)))
  have KT := Lib.hid (fun W ub gn gu gp bn bu bp a n c l (hU : US W p w.heap.size ub gn gu gp bn bu bp) (hI : IR w a n c l) (hB : Below w.heap.size w W) => takeCode_any w W p ub gn gu gp bn bu bp a n c l hU hI hR hB)
  have DR := Lib.hid h.days.2.2.2.2
  have DG := Lib.hid h.days.2.2.2.1
  have n3 := h.days.2.2.1
  have LN := Lib.hid (p := p.names.length ≤ 17592186043904 ∧ p.curs.length ≤ 17592186043904 ∧ p.pool.length ≤ 17592186043904) ⟨by have := h.names.2.2.1; omega, by have := h.curs.2.2.1; omega, h.pool.2.2.1⟩
  have UF := Lib.hid (p := ∀ i, i < p.days.length → ¬ codeP p (p.days.getD i default).code → decide (useP p) = false) (fun i hi hn => decide_eq_false (fun z => hn (z.1 i hi)))
  have UT := Lib.hid (p := (∀ i, i < p.days.length → codeP p (p.days.getD i default).code) → decide (useP p) = ((mkAll 3 p.days (List.replicate p.names.length false)).all id && (mkAll 28 p.days (List.replicate p.curs.length false)).all id && (mkAll 1 p.days (List.replicate p.pool.length false)).all id)) (fun z => by
    cases hb : ((mkAll 3 p.days (List.replicate p.names.length false)).all id && (mkAll 28 p.days (List.replicate p.curs.length false)).all id && (mkAll 1 p.days (List.replicate p.pool.length false)).all id) with
    | true => exact decide_eq_true ⟨z, hb⟩
    | false => exact decide_eq_false (fun q => by rw [q.2] at hb; cases hb))
  unfold Pg.agg at KO
  unfold Pg.agg
  unfold Pg.box at B0 TB KO
  unfold Pg.arr at TB
  clear h hR
  obtain ⟨na, nc, names, ua, uc, curs, pa, pc, pool, hor, cells, slots, stack, da, dc, days⟩ := p
  simp only at B0 TB KO KT DR DG n3 LN UF UT
  go_enter Tryd.func38, Tryd.ntmps38
  go_wp2_with (go_at_call 61; refine KO.out.mono ?_; rintro e w1 ⟨⟨gn, gu, gp, rfl, r1, r2, r3, n1, n2, n4, l1, l2, l4⟩, hb⟩; have B1 := Lib.hid (B0.out.trans (hb.mono B0.out.size)); have T1 := TB.out.laterP (hb.mono (Nat.le_refl _)); have T2 := T1.laterP (allocBP w1 (.cells #[.slice (some ⟨gn, 0, none⟩) names.length names.length, .slice (some ⟨gu, 0, none⟩) curs.length curs.length, .slice (some ⟨gp, 0, none⟩) pool.length pool.length, .int .i64 cells, .int .i64 slots] 116)); obtain ⟨_, _, _, _, _, _, _, x7⟩ := box_all8 T2; have US0 := Lib.hid (us_new (w := w) (p := ⟨na, nc, names, ua, uc, curs, pa, pc, pool, hor, cells, slots, stack, da, dc, days⟩) r1 r2 r3 n1 n2 n4 (by simp) l1 l2 l4); have BW := Lib.hid (B1.out.alloc B1.out.size (.cells #[.slice (some ⟨gn, 0, none⟩) names.length names.length, .slice (some ⟨gu, 0, none⟩) curs.length curs.length, .slice (some ⟨gp, 0, none⟩) pool.length pool.length, .int .i64 cells, .int .i64 slots] 116)); clear r1 r2 r3 hb T1 T2)
  clear KO TB B0 x7
  go_loopw [11] (fun t wr => ∃ k : Nat, k ≤ days.length ∧ t = .int .i64 (k : Int) ∧ RowKit.Hid (∀ i, i < k → codeP ⟨na, nc, names, ua, uc, curs, pa, pc, pool, hor, cells, slots, stack, da, dc, days⟩ (days.getD i default).code) ∧ US wr ⟨na, nc, names, ua, uc, curs, pa, pc, pool, hor, cells, slots, stack, da, dc, days⟩ w.heap.size w1.heap.size gn gu gp (mkAll 3 (days.take k) (List.replicate names.length false)) (mkAll 28 (days.take k) (List.replicate curs.length false)) (mkAll 1 (days.take k) (List.replicate pool.length false)) ∧ Below w.heap.size w wr) (fun t _ => days.length - (intOf t).toNat)
  case atStart => exact ⟨0, by omega, rfl, (fun i hi => absurd hi (by omega)), US0.out, BW.out⟩
  case round =>
    clear US0 BW
    rename World => wr
    obtain ⟨k, hk, rfl, hE, hU, hB⟩ := hrel
    have UU := Lib.hid hU
    have BB := Lib.hid hB
    by_cases hlt : k < days.length
    · have kc : (k : Int) < (days.length : Int) := by omega
      have ks : IntKind.i64.wrap ((k : Int) + 1) = (k : Int) + 1 := by simp [IntKind.wrap, IntKind.bits, IntKind.signed]; omega
      have DW := Lib.hid (DR.out.later hB)
      have GI := Lib.hid (DG.out _ (sg_mem (i := k) hlt)).2
      have F3 := Lib.hid (mkAll_next 3 (List.replicate names.length false) days k hlt)
      have F28 := Lib.hid (mkAll_next 28 (List.replicate curs.length false) days k hlt)
      have F1 := Lib.hid (mkAll_next 1 (List.replicate pool.length false) days k hlt)
      have UFk := Lib.hid (UF.out k hlt)
      have NX := Lib.hid (p := codeP ⟨na, nc, names, ua, uc, curs, pa, pc, pool, hor, cells, slots, stack, da, dc, days⟩ (days.getD k default).code → ∀ i, i < k + 1 → codeP ⟨na, nc, names, ua, uc, curs, pa, pc, pool, hor, cells, slots, stack, da, dc, days⟩ (days.getD i default).code) (fun e i hi => by
        rcases (show i < k ∨ i = k by omega) with r | r
        · exact hE.out i r
        · rw [r]; exact e)
      obtain ⟨x, o, hda, _, hc⟩ := DW.out.oneP (by omega)
      have c0 := hc k hlt 0 (by omega)
      have c1 := hc k hlt 1 (by omega)
      simp only [Sg.cs, Nat.add_zero, List.getD_cons_zero, List.getD_cons_succ] at c0 c1
      generalize days.getD k default = s at *
      obtain ⟨sd, sa, sc, sl⟩ := s
      simp only at c0 c1 GI F3 F28 F1 UFk NX
      have U1 := Lib.hid (hU.later (allocBP wr (.cells #[.int .i64 sd, .slice sa sl.length sc] 43)))
      have B1 := Lib.hid (hB.alloc hB.size (.cells #[.int .i64 sd, .slice sa sl.length sc] 43))
      have KTk := Lib.hid (KT.out (wr.alloc (.cells #[.int .i64 sd, .slice sa sl.length sc] 43)) w1.heap.size gn gu gp _ _ _ sa sl.length sc sl U1.out GI.out B1.out)
      clear hc hE hU hB DW
      subst hda
      by_cases e1 : codeP ⟨na, nc, names, ua, uc, curs, pa, pc, pool, hor, cells, slots, stack, some ⟨x, o, none⟩, dc, days⟩ sl
      · have KTt := Lib.hid (p := Calls Tryd.prog 62 #[.pointer (some ⟨w1.heap.size, 0, none⟩), .slice sa sl.length sc] (wr.alloc (.cells #[.int .i64 sd, .slice sa sl.length sc] 43)) fun e w' => e = .returned (.bool true) ∧ US w' ⟨na, nc, names, ua, uc, curs, pa, pc, pool, hor, cells, slots, stack, some ⟨x, o, none⟩, dc, days⟩ w.heap.size w1.heap.size gn gu gp (sl.foldl (mkB 3) (mkAll 3 (days.take k) (List.replicate names.length false))) (sl.foldl (mkB 28) (mkAll 28 (days.take k) (List.replicate curs.length false))) (sl.foldl (mkB 1) (mkAll 1 (days.take k) (List.replicate pool.length false))) ∧ Below w.heap.size w w') (by
          refine KTk.out.mono ?_
          rintro e w' ⟨⟨b, h1, h2, h3⟩, h4⟩
          have hb := h2.2 e1
          subst hb
          exact ⟨h1, h3 rfl, h4⟩)
        have OK := Lib.hid (NX.out e1)
        clear e1 KTk
        go_wp2_with (go_at_call 62; refine KTt.out.mono ?_; rintro e w3 ⟨rfl, h2, h3⟩; have U3 := Lib.hid h2; have B3 := Lib.hid h3; clear h2 h3)
        go_roundw
        case rel => exact ⟨k + 1, by omega, by go_num, OK.out, by rw [F3.out, F28.out, F1.out]; exact U3.out, B3.out⟩
        case measure => simp [intOf]; omega
      · have KTf := Lib.hid (p := Calls Tryd.prog 62 #[.pointer (some ⟨w1.heap.size, 0, none⟩), .slice sa sl.length sc] (wr.alloc (.cells #[.int .i64 sd, .slice sa sl.length sc] 43)) fun e w' => e = .returned (.bool false) ∧ Below w.heap.size w w') (by
          refine KTk.out.mono ?_
          rintro e w' ⟨⟨b, h1, h2, h3⟩, h4⟩
          have hb : b = false := by cases b with | false => rfl | true => exact absurd (h2.1 rfl) e1
          subst hb
          exact ⟨h1, h4⟩)
        have NO := Lib.hid (UFk.out e1)
        clear e1 KTk
        go_wp2_with (go_at_call 62; refine KTf.out.mono ?_; rintro e w3 ⟨rfl, h3⟩; have B3 := Lib.hid h3; clear h3)
        go_ret
        exact ⟨retBP NO.out.symm, B3.out⟩
    · obtain rfl : k = days.length := by omega
      have RR := Lib.hid (UT.out hE.out)
      have UF2 := hU
      rw [List.take_length] at UF2
      have KA := Lib.hid (allU_any UF2 (by rw [UF2.ln]; exact LN.out.1) (by rw [UF2.lu]; exact LN.out.2.1) (by rw [UF2.lp]; exact LN.out.2.2))
      clear hE hU hB UF2
      go_wp2_with (go_at_call 63; refine KA.out.mono ?_; rintro e w4 ⟨rfl, h2⟩; have B4 := Lib.hid (BB.out.trans (h2.mono BB.out.size)); clear h2)
      go_ret
      exact ⟨retBP RR.out.symm, B4.out⟩
end Go.Proofs.YtjbbbejadhojlaaDoor

namespace Go.Proofs.YtjbbbejadhojlaaDoor
open Go.RowKit
set_option linter.unusedVariables false
set_option linter.unusedSimpArgs false
def canP (p : Pg) : Prop := numP p = true ∧ lstP p ∧ dayP p ∧ useP p
noncomputable instance (p : Pg) : Decidable (canP p) := Classical.propDecidable _
theorem numP_hor {p : Pg} (h : numP p = true) : 0 ≤ p.hor ∧ p.hor ≤ 3660 := by
  unfold numP wB at h
  simp only [Bool.and_eq_true, decide_eq_true_eq] at h
  exact h.1.1.1
set_option maxRecDepth 100000 in
set_option maxHeartbeats 8000000 in
theorem canonical_any {w : World} {p : Pg} (h : PV w p) (hR : Rws w) : Calls Tryd.prog 25 #[p.agg] w fun e w' => e = .returned (.bool (decide (canP p))) ∧ Below w.heap.size w w' := by
  have K0 := Lib.hid (fun W (b : Below w.heap.size w W) => numbersFit_any (w := W) (p := p))
  have K1 := Lib.hid (fun W (b : Below w.heap.size w W) => listsFit_any (h.later b))
  have K3 := Lib.hid (fun W (b : Below w.heap.size w W) => codeFits_any (h.later b) (hR.below b))
  have HP := Lib.hid h
  have B0 := Lib.hid (allocBP w p.box)
  have TB := Lib.hid (p := BkP (w.alloc p.box) w.heap.size p.arr 26) (heapN _ _)
  unfold Pg.agg at K0 K1 K3
  unfold Pg.agg
  unfold Pg.box at B0 TB
  unfold Pg.arr at TB
  clear h hR
  by_cases e0 : numP p = true
  · by_cases e1 : lstP p
    · have K2 := Lib.hid (fun W (b : Below w.heap.size w W) => daysFit_any (HP.out.later b) (numP_hor e0).1 (numP_hor e0).2)
      unfold Pg.agg at K2
      by_cases e2 : dayP p
      · by_cases e3 : useP p
        · have R := Lib.hid (p := decide (canP p) = true) (decide_eq_true ⟨e0, e1, e2, e3⟩)
          rw [e0] at K0
          simp only [decide_eq_true e1] at K1
          simp only [decide_eq_true e2] at K2
          simp only [decide_eq_true e3] at K3
          obtain ⟨na, nc, names, ua, uc, curs, pa, pc, pool, hor, cells, slots, stack, da, dc, days⟩ := p
          simp only at K0 K1 K2 K3 R B0 TB
          clear e0 e1 e2 e3
          go_enter Tryd.func25, Tryd.ntmps25
          have T0 := TB
          go_wp2_with (first
            | (go_at_call 35; refine (K0.out _ B0.out).mono ?_; rintro e w1 ⟨rfl, h1⟩; have B1 := Lib.hid (B0.out.trans (h1.mono B0.out.size)); have T1 := Lib.hid (T0.out.laterP h1); obtain ⟨x00, x01, x02, x03, x04, x05, x06, x07⟩ := box_all8 (T1.out); clear h1)
            | (go_at_call 36; refine (K1.out _ B1.out).mono ?_; rintro e w2 ⟨rfl, h1⟩; have B2 := Lib.hid (B1.out.trans (h1.mono B1.out.size)); have T2 := Lib.hid (T1.out.laterP h1); obtain ⟨x10, x11, x12, x13, x14, x15, x16, x17⟩ := box_all8 (T2.out); clear h1)
            | (go_at_call 37; refine (K2.out _ B2.out).mono ?_; rintro e w3 ⟨rfl, h1⟩; have B3 := Lib.hid (B2.out.trans (h1.mono B2.out.size)); have T3 := Lib.hid (T2.out.laterP h1); obtain ⟨x20, x21, x22, x23, x24, x25, x26, x27⟩ := box_all8 (T3.out); clear h1)
            | (go_at_call 38; refine (K3.out _ B3.out).mono ?_; rintro e w4 ⟨rfl, h1⟩; have B4 := Lib.hid (B3.out.trans (h1.mono B3.out.size)); have T4 := Lib.hid (T3.out.laterP h1); obtain ⟨x30, x31, x32, x33, x34, x35, x36, x37⟩ := box_all8 (T4.out); clear h1))
          go_ret
          exact ⟨retBP R.out.symm, B4.out⟩
        · have R := Lib.hid (p := decide (canP p) = false) (decide_eq_false (fun z => e3 z.2.2.2))
          rw [e0] at K0
          simp only [decide_eq_true e1] at K1
          simp only [decide_eq_true e2] at K2
          simp only [decide_eq_false e3] at K3
          obtain ⟨na, nc, names, ua, uc, curs, pa, pc, pool, hor, cells, slots, stack, da, dc, days⟩ := p
          simp only at K0 K1 K2 K3 R B0 TB
          clear e0 e1 e2 e3
          go_enter Tryd.func25, Tryd.ntmps25
          have T0 := TB
          go_wp2_with (first
            | (go_at_call 35; refine (K0.out _ B0.out).mono ?_; rintro e w1 ⟨rfl, h1⟩; have B1 := Lib.hid (B0.out.trans (h1.mono B0.out.size)); have T1 := Lib.hid (T0.out.laterP h1); obtain ⟨x00, x01, x02, x03, x04, x05, x06, x07⟩ := box_all8 (T1.out); clear h1)
            | (go_at_call 36; refine (K1.out _ B1.out).mono ?_; rintro e w2 ⟨rfl, h1⟩; have B2 := Lib.hid (B1.out.trans (h1.mono B1.out.size)); have T2 := Lib.hid (T1.out.laterP h1); obtain ⟨x10, x11, x12, x13, x14, x15, x16, x17⟩ := box_all8 (T2.out); clear h1)
            | (go_at_call 37; refine (K2.out _ B2.out).mono ?_; rintro e w3 ⟨rfl, h1⟩; have B3 := Lib.hid (B2.out.trans (h1.mono B2.out.size)); have T3 := Lib.hid (T2.out.laterP h1); obtain ⟨x20, x21, x22, x23, x24, x25, x26, x27⟩ := box_all8 (T3.out); clear h1)
            | (go_at_call 38; refine (K3.out _ B3.out).mono ?_; rintro e w4 ⟨rfl, h1⟩; have B4 := Lib.hid (B3.out.trans (h1.mono B3.out.size)); have T4 := Lib.hid (T3.out.laterP h1); obtain ⟨x30, x31, x32, x33, x34, x35, x36, x37⟩ := box_all8 (T4.out); clear h1))
          go_ret
          exact ⟨retBP R.out.symm, B4.out⟩
      · have R := Lib.hid (p := decide (canP p) = false) (decide_eq_false (fun z => e2 z.2.2.1))
        rw [e0] at K0
        simp only [decide_eq_true e1] at K1
        simp only [decide_eq_false e2] at K2
        obtain ⟨na, nc, names, ua, uc, curs, pa, pc, pool, hor, cells, slots, stack, da, dc, days⟩ := p
        simp only at K0 K1 K2 R B0 TB
        clear e0 e1 e2
        go_enter Tryd.func25, Tryd.ntmps25
        have T0 := TB
        go_wp2_with (first
          | (go_at_call 35; refine (K0.out _ B0.out).mono ?_; rintro e w1 ⟨rfl, h1⟩; have B1 := Lib.hid (B0.out.trans (h1.mono B0.out.size)); have T1 := Lib.hid (T0.out.laterP h1); obtain ⟨x00, x01, x02, x03, x04, x05, x06, x07⟩ := box_all8 (T1.out); clear h1)
          | (go_at_call 36; refine (K1.out _ B1.out).mono ?_; rintro e w2 ⟨rfl, h1⟩; have B2 := Lib.hid (B1.out.trans (h1.mono B1.out.size)); have T2 := Lib.hid (T1.out.laterP h1); obtain ⟨x10, x11, x12, x13, x14, x15, x16, x17⟩ := box_all8 (T2.out); clear h1)
          | (go_at_call 37; refine (K2.out _ B2.out).mono ?_; rintro e w3 ⟨rfl, h1⟩; have B3 := Lib.hid (B2.out.trans (h1.mono B2.out.size)); have T3 := Lib.hid (T2.out.laterP h1); obtain ⟨x20, x21, x22, x23, x24, x25, x26, x27⟩ := box_all8 (T3.out); clear h1))
        go_ret
        exact ⟨retBP R.out.symm, B3.out⟩
    · have R := Lib.hid (p := decide (canP p) = false) (decide_eq_false (fun z => e1 z.2.1))
      rw [e0] at K0
      simp only [decide_eq_false e1] at K1
      obtain ⟨na, nc, names, ua, uc, curs, pa, pc, pool, hor, cells, slots, stack, da, dc, days⟩ := p
      simp only at K0 K1 R B0 TB
      clear e0 e1
      go_enter Tryd.func25, Tryd.ntmps25
      have T0 := TB
      go_wp2_with (first
        | (go_at_call 35; refine (K0.out _ B0.out).mono ?_; rintro e w1 ⟨rfl, h1⟩; have B1 := Lib.hid (B0.out.trans (h1.mono B0.out.size)); have T1 := Lib.hid (T0.out.laterP h1); obtain ⟨x00, x01, x02, x03, x04, x05, x06, x07⟩ := box_all8 (T1.out); clear h1)
        | (go_at_call 36; refine (K1.out _ B1.out).mono ?_; rintro e w2 ⟨rfl, h1⟩; have B2 := Lib.hid (B1.out.trans (h1.mono B1.out.size)); have T2 := Lib.hid (T1.out.laterP h1); obtain ⟨x10, x11, x12, x13, x14, x15, x16, x17⟩ := box_all8 (T2.out); clear h1))
      go_ret
      exact ⟨retBP R.out.symm, B2.out⟩
  · have R := Lib.hid (p := decide (canP p) = false) (decide_eq_false (fun z => e0 z.1))
    rw [Bool.eq_false_iff.2 e0] at K0
    obtain ⟨na, nc, names, ua, uc, curs, pa, pc, pool, hor, cells, slots, stack, da, dc, days⟩ := p
    simp only at K0 R B0 TB
    clear e0
    go_enter Tryd.func25, Tryd.ntmps25
    have T0 := TB
    go_wp2_with (first
      | (go_at_call 35; refine (K0.out _ B0.out).mono ?_; rintro e w1 ⟨rfl, h1⟩; have B1 := Lib.hid (B0.out.trans (h1.mono B0.out.size)); have T1 := Lib.hid (T0.out.laterP h1); obtain ⟨x00, x01, x02, x03, x04, x05, x06, x07⟩ := box_all8 (T1.out); clear h1))
    go_ret
    exact ⟨retBP R.out.symm, B1.out⟩
set_option maxRecDepth 100000 in
theorem canon_any {w : World} {p : Pg} (h : PV w p) (hR : Rws w) : Calls Tryd.prog 15 #[p.agg] w fun e w' => e = .returned (.int .i64 (if canP p then 0 else 121)) ∧ Below w.heap.size w w' := by
  have K := Lib.hid (canonical_any (h.later (allocBP w p.box)) (hR.below (allocBP w p.box)))
  have B0 := Lib.hid (allocBP w p.box)
  clear h hR
  by_cases e : canP p
  · have R := Lib.hid (p := (if canP p then (0 : Int) else 121) = 0) (if_pos e)
    rw [decide_eq_true e] at K
    rw [R.out]
    clear R e
    unfold Pg.agg at K
    unfold Pg.agg
    unfold Pg.box at B0 K
    obtain ⟨na, nc, names, ua, uc, curs, pa, pc, pool, hor, cells, slots, stack, da, dc, days⟩ := p
    go_enter Tryd.func15, Tryd.ntmps15
    go_wp2_with (go_at_call 25; refine K.out.mono ?_; rintro e w1 ⟨rfl, h1⟩; have B1 := Lib.hid (B0.out.trans (h1.mono B0.out.size)); clear h1)
    go_ret
    exact ⟨rfl, B1.out⟩
  · have R := Lib.hid (p := (if canP p then (0 : Int) else 121) = 121) (if_neg e)
    rw [decide_eq_false e] at K
    rw [R.out]
    clear R e
    unfold Pg.agg at K
    unfold Pg.agg
    unfold Pg.box at B0 K
    obtain ⟨na, nc, names, ua, uc, curs, pa, pc, pool, hor, cells, slots, stack, da, dc, days⟩ := p
    go_enter Tryd.func15, Tryd.ntmps15
    go_wp2_with (go_at_call 25; refine K.out.mono ?_; rintro e w1 ⟨rfl, h1⟩; have B1 := Lib.hid (B0.out.trans (h1.mono B0.out.size)); clear h1)
    go_ret
    exact ⟨rfl, B1.out⟩
end Go.Proofs.YtjbbbejadhojlaaDoor

namespace Go.Proofs.YtjbbbejadhojlaaDoor
open Go.RowKit
set_option linter.unusedVariables false
set_option linter.unusedSimpArgs false
theorem state_info : (Tryd.prog.info? 61).map (·.size) = some 18 := by kernel_rfl
theorem state_desc : ∃ d, Tryd.prog.underlying 61 = some d ∧ d.isRow = true := ⟨_, Tryd.underlying61, rfl⟩
theorem load_st {ops : Array Oper} {rest : List Oper} {op : Oper} {a : Act} {w : World} {Q : Exit → Act → World → Prop} (hgd : op.guard = none) (x : Operand) (ho : op.op = .load 61 x) (b : Nat) (hx : a.eval x = .pointer (some ⟨b, 0, none⟩)) (tb len : Nat) (ps : Nat → Option Nat) (hb : BkP w b (stA tb len ps) 61) (h : wpList Tryd.prog ops Q rest (a.put op.dst (.agg (stA tb len ps))) w) : wpList Tryd.prog ops Q (op :: rest) a w := by
  have hr := World.rangeAt_of_block hb 0 18
  have he : (stA tb len ps).extract 0 (0 + 18) = stA tb len ps := by
    have := stA_size tb len ps
    simp only [Nat.zero_add]
    rw [← this, Array.extract_size]
  rw [he] at hr
  obtain ⟨d, d1, d2⟩ := state_desc
  refine wpList_load_mid hgd 61 x ho b 0 hx (stA tb len ps).toList d hr d1 d2 (by rw [state_info]; simp [stA]) ?_
  simpa using h
theorem vNx_err_id {i : In} {l : Nat → Option Vs} {k : Nat} {s : Vs} (h : (vHand (l k) s).1 ≠ 0) : vSet l k (vHand (l k) s).2 = l := by
  apply vSet_id
  unfold vHand at h ⊢
  cases hl : l k with
  | none => rw [hl] at h; exact absurd rfl h
  | some t =>
    rw [hl] at h
    simp only at h ⊢
    split
    · rfl
    split
    · rfl
    · rename_i q1 q2
      rw [if_neg q1, if_neg q2] at h
      exact absurd rfl h
theorem vOn_end {n k : Nat} {i : In} {s : Vs} {l : Nat → Option Vs} (ho : i.o = 0) : vOn n i k s l = (0, l) := by
  have j : ¬ isJ i := by unfold isJ; omega
  have nx : ∀ t, vNx i t s = (0, t) := fun t => by unfold vNx; rw [if_pos (.inr ho)]
  unfold vOn
  rw [if_neg (fun q => j q.1), nx, if_neg (by simp), if_neg j, vSet_id rfl]
theorem vOn_other {n k : Nat} {i : In} {s : Vs} {l : Nat → Option Vs} (h0 : i.o ≠ 0) (h6 : i.o ≠ 26) (h7 : i.o ≠ 27) : vOn n i k s l = ((vHand (l (k + 1)) s).1, vSet l (k + 1) (vHand (l (k + 1)) s).2) := by
  have j : ¬ isJ i := by unfold isJ; omega
  have nx : ∀ t, vNx i t s = vHand t s := fun t => by unfold vNx; rw [if_neg (by omega)]
  unfold vOn
  rw [if_neg (fun q => j q.1), nx]
  by_cases e : (vHand (l (k + 1)) s).1 = 0
  · rw [if_neg (by simpa using e), if_neg j, e]
  · rw [if_pos e, vNx_err_id (i := i) e]
theorem vOn_jump {n k : Nat} {i : In} {s : Vs} {l : Nat → Option Vs} (ho : i.o = 26) (hf : ¬ n ≤ k + 1 + i.a.toNat) : vOn n i k s l = ((vHand (l (k + 1 + i.a.toNat)) s).1, vSet l (k + 1 + i.a.toNat) (vHand (l (k + 1 + i.a.toNat)) s).2) := by
  have j : isJ i := .inl ho
  have nx : ∀ t, vNx i t s = (0, t) := fun t => by unfold vNx; rw [if_pos (.inl ho)]
  unfold vOn
  rw [if_neg (fun q => hf q.2), nx, if_neg (by simp), if_pos j]
  simp only
  rw [vSet_id (rfl : l (k + 1) = l (k + 1))]
theorem vOn_zero1 {n k : Nat} {i : In} {s : Vs} {l : Nat → Option Vs} (ho : i.o = 27) (hf : ¬ n ≤ k + 1 + i.a.toNat) (he : (vHand (l (k + 1)) s).1 ≠ 0) : vOn n i k s l = ((vHand (l (k + 1)) s).1, vSet l (k + 1) (vHand (l (k + 1)) s).2) := by
  have nx : ∀ t, vNx i t s = vHand t s := fun t => by unfold vNx; rw [if_neg (by omega)]
  unfold vOn
  rw [if_neg (fun q => hf q.2), nx, if_pos he, vNx_err_id (i := i) he]
theorem vOn_zero2 {n k : Nat} {i : In} {s : Vs} {l : Nat → Option Vs} (ho : i.o = 27) (hf : ¬ n ≤ k + 1 + i.a.toNat) (he : (vHand (l (k + 1)) s).1 = 0) : vOn n i k s l = ((vHand (vSet l (k + 1) (vHand (l (k + 1)) s).2 (k + 1 + i.a.toNat)) s).1, vSet (vSet l (k + 1) (vHand (l (k + 1)) s).2) (k + 1 + i.a.toNat) (vHand (vSet l (k + 1) (vHand (l (k + 1)) s).2 (k + 1 + i.a.toNat)) s).2) := by
  have j : isJ i := .inr ho
  have nx : ∀ t, vNx i t s = vHand t s := fun t => by unfold vNx; rw [if_neg (by omega)]
  unfold vOn
  rw [if_neg (fun q => hf q.2), nx, if_neg (by simpa using he), if_pos j]
/-- What handOn leaves. -/
structure HoE (W : World) (B wb ab : Nat) (day : Int) (ca : Option Addr) (cc n : Nat) (G : Tg) (A : Nat → Option Nat) (l : Nat → Option Vs) (i : In) (k : Nat) (s : Vs) (e : Ending) (V : World) : Prop where
  ret : e = .returned (.int .i64 (vOn n i k s l).1)
  sta : ∃ A', WkR V B wb ab day ca cc n G A' (vOn n i k s l).2
  bel : Below B W V
  stay : ∀ z y u, BkP W z y u → u ≠ 78 → u ≠ 61 → u ≠ 62 → BkP V z y u
theorem WkR.noY {W : World} {B wb ab : Nat} {day : Int} {ca : Option Addr} {cc n : Nat} {G : Tg} {A : Nat → Option Nat} {l : Nat → Option Vs} (h : WkR W B wb ab day ca cc n G A l) {z : Nat} (hz : W.heap.size ≤ z) : ¬ chX ab n A z := by
  rintro (e | ⟨j, hj, e⟩)
  · have := h.ah.lt; omega
  · obtain ⟨y, k⟩ := h.stt hj e
    have := k.lt
    omega
theorem WkR.noT {W : World} {B wb ab : Nat} {day : Int} {ca : Option Addr} {cc n : Nat} {G : Tg} {A : Nat → Option Nat} {l : Nat → Option Vs} (h : WkR W B wb ab day ca cc n G A l) {z : Nat} {y : Array Value} {t : TypeId} (k : BkP W z y t) (h1 : t ≠ 62) (h2 : t ≠ 61) : ¬ chX ab n A z := by
  rintro (e | ⟨j, hj, e⟩)
  · exact bk_ne k h.ah h1 e
  · obtain ⟨y', k'⟩ := h.stt hj e
    exact bk_ne k k' h2 rfl
set_option maxRecDepth 100000 in
set_option maxHeartbeats 800000 in
theorem on_far_j {w0 W : World} {B wb ab : Nat} {day : Int} {ca : Option Addr} {cc n : Nat} {G : Tg} {A : Nat → Option Nat} {l : Nat → Option Vs} {k tb : Nat} {s : Vs} {ps : Nat → Option Nat} {code : List In} (h : WkR W B wb ab day ca cc n G A l) (hB : B ≤ W.heap.size) (hk : k < n) (hn : n ≤ 262144) (hs : s.ok) (hg : G s.st = some tb) (hp : SlR W B ps s.sl) (hI : IR W ca n cc code) (o a b : Nat) (hi : code.getD k default = ⟨o, a, b⟩) (ha : a < 262144) (ho : o = 26) (hf : n ≤ k + 1 + a) :
    Calls Tryd.prog 27 #[.pointer (some ⟨wb, 0, none⟩), .int .i64 (k : Int), .agg (stA tb s.st.length ps)] W fun e w' => HoE W B wb ab day ca cc n G A l ⟨o, a, b⟩ k s e w' := by
  have W1 := Lib.hid (h.later (allocBP W (hOb tb s.st.length ps)))
  have W2 := Lib.hid (fun q => (h.later (allocBP W (hOb tb s.st.length ps))).later (bel_drV (allocBP (W.alloc (hOb tb s.st.length ps)) (ibx o a b)) q))
  have BY := Lib.hid (fun V (bb : Below (W.alloc (hOb tb s.st.length ps)).heap.size (W.alloc (hOb tb s.st.length ps)) V) => BkP.lat (heapN W (hOb tb s.st.length ps)) bb)
  have HB := Lib.hid hB
  obtain ⟨x, of, hca, _, hc⟩ := (hI.later (allocBP W (hOb tb s.st.length ps))).2.2.2.2.oneP (by omega)
  have c0 := hc k hk 0 (by omega)
  have c1 := hc k hk 1 (by omega)
  have c2 := hc k hk 2 (by omega)
  rw [hi] at c0 c1 c2
  simp only [icell, Nat.add_zero, List.getD_cons_zero, List.getD_cons_succ] at c0 c1 c2
  subst hca
  have d1 := W1.out.wk.cell 1
  simp at d1
  have e1 := (W1.out.later (allocBP _ (ibx o a b))).wk.cell 1
  simp at e1
  have k0 : ¬ (k : Int) < 0 := by omega
  have k1 : (k : Int) < (n : Int) := by omega
  have ks : IntKind.i64.wrap ((k : Int) + 1) = (k : Int) + 1 := by simp [IntKind.wrap, IntKind.bits, IntKind.signed]; omega
  have ts : IntKind.i64.wrap ((k : Int) + 1 + (a : Int)) = (k : Int) + 1 + (a : Int) := by simp [IntKind.wrap, IntKind.bits, IntKind.signed]; omega
  have V := Lib.hid (p := vOn n ⟨o, a, b⟩ k s l = (141, l)) (by unfold vOn; rw [if_pos ⟨by unfold isJ; simp only; omega, by simpa using hf⟩])
  have g0 : (n : Int) ≤ (k : Int) + 1 + (a : Int) := by omega
  have b26 : ((o : Int) == 26) = true := by simp; omega
  have m26 : ((o : Int) != 26) = false := by simp; omega
  have b27 : ((o : Int) == 27) = false := by simp; omega
  have m27 : ((o : Int) != 27) = true := by simp; omega
  have b0 : ((o : Int) == 0) = false := by simp; omega
  have m0 : ((o : Int) != 0) = true := by simp; omega
  clear h hI hk hn hs hg hp hi ha hc hB
  unfold ibx hOb at *
  clear ho hf
  go_enter Tryd.func27, Tryd.ntmps27
  go_wp2
  go_quiet (fail)
  go_wp2
  go_ret
  exact ⟨by rw [V.out]; rfl, ⟨A, by rw [V.out]; exact W2.out _⟩, ((Below.refl B W).alloc HB.out _).trans (Below.mono (bel_drV (allocBP _ _) _) (Nat.le_trans HB.out (allocBP W _).size)), fun z y u kk _ _ _ => kk.lat ((allocBP _ _).trans (Below.mono (bel_drV (allocBP _ _) _) (allocBP _ _).size))⟩
set_option maxRecDepth 100000 in
set_option maxHeartbeats 800000 in
theorem on_far_z {w0 W : World} {B wb ab : Nat} {day : Int} {ca : Option Addr} {cc n : Nat} {G : Tg} {A : Nat → Option Nat} {l : Nat → Option Vs} {k tb : Nat} {s : Vs} {ps : Nat → Option Nat} {code : List In} (h : WkR W B wb ab day ca cc n G A l) (hB : B ≤ W.heap.size) (hk : k < n) (hn : n ≤ 262144) (hs : s.ok) (hg : G s.st = some tb) (hp : SlR W B ps s.sl) (hI : IR W ca n cc code) (o a b : Nat) (hi : code.getD k default = ⟨o, a, b⟩) (ha : a < 262144) (ho : o = 27) (hf : n ≤ k + 1 + a) :
    Calls Tryd.prog 27 #[.pointer (some ⟨wb, 0, none⟩), .int .i64 (k : Int), .agg (stA tb s.st.length ps)] W fun e w' => HoE W B wb ab day ca cc n G A l ⟨o, a, b⟩ k s e w' := by
  have W1 := Lib.hid (h.later (allocBP W (hOb tb s.st.length ps)))
  have W2 := Lib.hid (fun q => (h.later (allocBP W (hOb tb s.st.length ps))).later (bel_drV (allocBP (W.alloc (hOb tb s.st.length ps)) (ibx o a b)) q))
  have BY := Lib.hid (fun V (bb : Below (W.alloc (hOb tb s.st.length ps)).heap.size (W.alloc (hOb tb s.st.length ps)) V) => BkP.lat (heapN W (hOb tb s.st.length ps)) bb)
  have HB := Lib.hid hB
  obtain ⟨x, of, hca, _, hc⟩ := (hI.later (allocBP W (hOb tb s.st.length ps))).2.2.2.2.oneP (by omega)
  have c0 := hc k hk 0 (by omega)
  have c1 := hc k hk 1 (by omega)
  have c2 := hc k hk 2 (by omega)
  rw [hi] at c0 c1 c2
  simp only [icell, Nat.add_zero, List.getD_cons_zero, List.getD_cons_succ] at c0 c1 c2
  subst hca
  have d1 := W1.out.wk.cell 1
  simp at d1
  have e1 := (W1.out.later (allocBP _ (ibx o a b))).wk.cell 1
  simp at e1
  have k0 : ¬ (k : Int) < 0 := by omega
  have k1 : (k : Int) < (n : Int) := by omega
  have ks : IntKind.i64.wrap ((k : Int) + 1) = (k : Int) + 1 := by simp [IntKind.wrap, IntKind.bits, IntKind.signed]; omega
  have ts : IntKind.i64.wrap ((k : Int) + 1 + (a : Int)) = (k : Int) + 1 + (a : Int) := by simp [IntKind.wrap, IntKind.bits, IntKind.signed]; omega
  have V := Lib.hid (p := vOn n ⟨o, a, b⟩ k s l = (141, l)) (by unfold vOn; rw [if_pos ⟨by unfold isJ; simp only; omega, by simpa using hf⟩])
  have g0 : (n : Int) ≤ (k : Int) + 1 + (a : Int) := by omega
  have b26 : ((o : Int) == 26) = false := by simp; omega
  have m26 : ((o : Int) != 26) = true := by simp; omega
  have b27 : ((o : Int) == 27) = true := by simp; omega
  have m27 : ((o : Int) != 27) = false := by simp; omega
  have b0 : ((o : Int) == 0) = false := by simp; omega
  have m0 : ((o : Int) != 0) = true := by simp; omega
  clear h hI hk hn hs hg hp hi ha hc hB
  unfold ibx hOb at *
  clear ho hf
  go_enter Tryd.func27, Tryd.ntmps27
  go_wp2
  go_quiet (fail)
  go_wp2
  go_ret
  exact ⟨by rw [V.out]; rfl, ⟨A, by rw [V.out]; exact W2.out _⟩, ((Below.refl B W).alloc HB.out _).trans (Below.mono (bel_drV (allocBP _ _) _) (Nat.le_trans HB.out (allocBP W _).size)), fun z y u kk _ _ _ => kk.lat ((allocBP _ _).trans (Below.mono (bel_drV (allocBP _ _) _) (allocBP _ _).size))⟩
set_option maxRecDepth 100000 in
set_option maxHeartbeats 800000 in
theorem on_end {w0 W : World} {B wb ab : Nat} {day : Int} {ca : Option Addr} {cc n : Nat} {G : Tg} {A : Nat → Option Nat} {l : Nat → Option Vs} {k tb : Nat} {s : Vs} {ps : Nat → Option Nat} {code : List In} (h : WkR W B wb ab day ca cc n G A l) (hB : B ≤ W.heap.size) (hk : k < n) (hn : n ≤ 262144) (hs : s.ok) (hg : G s.st = some tb) (hp : SlR W B ps s.sl) (hI : IR W ca n cc code) (o a b : Nat) (hi : code.getD k default = ⟨o, a, b⟩) (ha : a < 262144) (ho : o = 0) :
    Calls Tryd.prog 27 #[.pointer (some ⟨wb, 0, none⟩), .int .i64 (k : Int), .agg (stA tb s.st.length ps)] W fun e w' => HoE W B wb ab day ca cc n G A l ⟨o, a, b⟩ k s e w' := by
  have W1 := Lib.hid (h.later (allocBP W (hOb tb s.st.length ps)))
  have W2 := Lib.hid (fun q => (h.later (allocBP W (hOb tb s.st.length ps))).later (bel_drV (allocBP (W.alloc (hOb tb s.st.length ps)) (ibx o a b)) q))
  have BY := Lib.hid (fun V (bb : Below (W.alloc (hOb tb s.st.length ps)).heap.size (W.alloc (hOb tb s.st.length ps)) V) => BkP.lat (heapN W (hOb tb s.st.length ps)) bb)
  have HB := Lib.hid hB
  obtain ⟨x, of, hca, _, hc⟩ := (hI.later (allocBP W (hOb tb s.st.length ps))).2.2.2.2.oneP (by omega)
  have c0 := hc k hk 0 (by omega)
  have c1 := hc k hk 1 (by omega)
  have c2 := hc k hk 2 (by omega)
  rw [hi] at c0 c1 c2
  simp only [icell, Nat.add_zero, List.getD_cons_zero, List.getD_cons_succ] at c0 c1 c2
  subst hca
  have d1 := W1.out.wk.cell 1
  simp at d1
  have e1 := (W1.out.later (allocBP _ (ibx o a b))).wk.cell 1
  simp at e1
  have k0 : ¬ (k : Int) < 0 := by omega
  have k1 : (k : Int) < (n : Int) := by omega
  have ks : IntKind.i64.wrap ((k : Int) + 1) = (k : Int) + 1 := by simp [IntKind.wrap, IntKind.bits, IntKind.signed]; omega
  have ts : IntKind.i64.wrap ((k : Int) + 1 + (a : Int)) = (k : Int) + 1 + (a : Int) := by simp [IntKind.wrap, IntKind.bits, IntKind.signed]; omega
  have V := Lib.hid (p := vOn n ⟨o, a, b⟩ k s l = (0, l)) (vOn_end (by simp only; omega))
  have b26 : ((o : Int) == 26) = false := by simp; omega
  have m26 : ((o : Int) != 26) = true := by simp; omega
  have b27 : ((o : Int) == 27) = false := by simp; omega
  have m27 : ((o : Int) != 27) = true := by simp; omega
  have b0 : ((o : Int) == 0) = true := by simp; omega
  have m0 : ((o : Int) != 0) = false := by simp; omega
  clear h hI hk hn hs hg hp hi ha hc hB
  unfold ibx hOb at *
  clear ho
  go_enter Tryd.func27, Tryd.ntmps27
  go_wp2
  go_quiet (fail)
  go_wp2
  go_ret
  exact ⟨by rw [V.out]; rfl, ⟨A, by rw [V.out]; exact W2.out _⟩, ((Below.refl B W).alloc HB.out _).trans (Below.mono (bel_drV (allocBP _ _) _) (Nat.le_trans HB.out (allocBP W _).size)), fun z y u kk _ _ _ => kk.lat ((allocBP _ _).trans (Below.mono (bel_drV (allocBP _ _) _) (allocBP _ _).size))⟩
end Go.Proofs.YtjbbbejadhojlaaDoor
