/-
  WALKS: the document's Decode.
-/
import Derived.Test.YtdbjdieegocdfaaDoorWCodeP
import Derived.Test.YtdbjdieegocdfaaDoorWCodeL
namespace Go.Proofs.YtdbjdieegocdfaaDoor
open Go.RowKit
set_option linter.unusedVariables false
set_option linter.unusedSimpArgs false

set_option maxRecDepth 100000 in
set_option maxHeartbeats 8000000 in
theorem refDecode_in (a : Option Addr) (n cap : Nat) (xs : List Int) (cnt : Nat) (w : World) (h : Sl w a n cap xs) (hc : cnt ≤ 262144) :
    Calls Tryd.prog 10 #[.slice a n cap, .int .i64 (cnt : Int)] w fun e w' => DcE w (decs cnt xs) e w' := by
  have KN := Lib.hid (newReaderR_any a n cap xs w h)
  have XB := Lib.hid h.1.2.2.1
  have XL := Lib.hid h.1.1
  have XN := h.1.2.1
  have KR := Lib.hid (fun (k : Nat) (hk : k < 29) W => refRow_any (ref_in hk) W)
  have KRo := Lib.hid (fun (c : Int) (hc : c < 0 ∨ 29 ≤ c) W => refRow_any (op := c) (n := ⟨#[]⟩) (a := 0) (b := 0) (t := 0) (p := 0) (er := 111) ⟨.inr ⟨hc, rfl, rfl, rfl, rfl, rfl, rfl⟩⟩ W)
  have c0 : ¬ (cnt : Int) < 0 := by omega
  have cc1 : ¬ (262144 : Int) < (cnt : Int) := by omega
  clear h
  go_enter Tryd.func10, Tryd.ntmps10
  go_wp2_with (first
    | (go_at_call 17; refine KN.out.mono ?_; rintro e w1 ⟨p, a1, c1, rfl, h1, h2⟩; have R0 := Lib.hid h1; have B0 := Lib.hid h2; clear h1 h2))
  go_loopw [8, 9] (fun b t wr => ∃ (acc : List In) (pos : Nat), t = .int .i64 (acc.length : Int) ∧ DJ xs cnt acc pos ∧ OwI wr w.heap.size b acc ∧ RE wr w.heap.size p a1 n c1 xs pos ∧ Below w.heap.size w wr) (fun _ t _ => cnt - (intOf t).toNat)
  case atStart => exact ⟨[], 0, rfl, DJ.start xs XB.out cnt, owi_nil _ _, R0.out, B0.out⟩
  case round =>
    rename World => wr
    obtain ⟨acc, pos, rfl, hJ, hO, hRd, hB⟩ := hrel
    have JJ := Lib.hid hJ
    have OO := Lib.hid hO
    have RD := Lib.hid hRd
    have BB := Lib.hid hB
    have al := hJ.1
    have pn := hRd.le
    have P0 : True := trivial
    have P1 : True := trivial
    clear hJ hO hRd hB R0 B0
    by_cases hlt : acc.length < cnt
    · have jc : (acc.length : Int) < (cnt : Int) := by omega
      have KP := Lib.hid (fun W (q : RE W w.heap.size p a1 n c1 xs pos) => placeR_same w.heap.size p a1 n c1 xs pos W q)
      have LZ := Lib.hid (leftR_q w.heap.size p a1 n c1 xs pos wr RD.out)
      by_cases hp : pos = n
      · have hd : xs.drop pos = [] := List.drop_eq_nil_of_le (by rw [XL.out]; omega)
        have ST := Lib.hid (p := decs cnt xs = ([], 41, n)) (by have := JJ.out.stop hlt (by rw [hd]; simp [dec1]); rw [hd] at this; rw [this]; simp [dec1]; omega)
        rw [show n - pos = 0 by omega] at LZ
        clear hp hd
        go_wp2_with (first
          | (go_at_call 18; refine LZ.out.mono ?_; rintro e w1 ⟨rfl, q, h1⟩; subst h1))
        go_ret3
        exact ⟨⟨_, by rw [ST.out]; rfl, by rw [ST.out]; exact owi_nil _ _⟩, below_drewN BB.out _⟩
      · have KT := Lib.hid (fun W (q : RE W w.heap.size p a1 n c1 xs pos) => takeR_ok w.heap.size p a1 n c1 xs pos 1 W q (by omega))
        have hd : xs.drop pos = xs.getD pos 0 :: xs.drop (pos + 1) := drop_cons (by rw [XL.out]; omega)
        obtain ⟨c, hcc⟩ : ∃ c, xs.getD pos 0 = c := ⟨_, rfl⟩
        rw [hcc] at hd
        have cb : 0 ≤ c ∧ c ≤ 255 := XB.out c (List.mem_of_mem_drop (by rw [hd]; simp))
        have TK := Lib.hid (p := (xs.drop pos).take 1 = [c]) (by rw [hd]; rfl)
        rw [TK.out] at KT
        have CB := Lib.hid cb
        have cw : IntKind.i64.wrap c = c := wrap_id (by omega)
        obtain ⟨lf, hlf⟩ : ∃ lf : Nat, n - pos = lf := ⟨_, rfl⟩
        have lf0 : ((lf : Int) == 0) = false := by simp; omega
        have lf1 : ¬ lf = 0 := by omega
        have pn1 : pos < n := by omega
        rw [hlf] at LZ
        clear hlf hp hcc TK
        by_cases h29 : 29 ≤ c
        · have ST := Lib.hid (p := decs cnt xs = ([], 111, pos)) (by have := JJ.out.stop hlt (by rw [hd, dec1, if_pos h29]; simp); rw [hd, dec1, if_pos h29] at this; simpa using this)
          have KRk := Lib.hid (KRo.out c (.inr h29))
          clear hd cb h29
          go_wp2_with (first
            | (go_at_call 18; have qq := P0; refine LZ.out.mono ?_; rintro e w1 ⟨rfl, q, h1⟩; subst h1; have R1 := Lib.hid (RD.out.drewN q); have O1 := Lib.hid (OO.out.kept (gr_drewN (gr_refl none wr) q) (by cases (Value.ownBlock _) <;> simp)); have B1 := Lib.hid (below_drewN BB.out q); clear P0; generalize wr.drewN q = w1 at *)
            | (go_at_call 19; refine (KP.out _ R1.out).mono ?_; rintro e w1' ⟨rfl, h1⟩; subst h1)
            | (go_at_call 20; refine (KT.out _ R1.out).mono ?_; rintro e w2 ⟨v2, rfl, h1, h2, h3⟩; have R2 := Lib.hid h2; have B2 := Lib.hid (B1.out.trans (gr_out h3 R1.out.base B1.out.size)); have O2 := Lib.hid (O1.out.kept h3 (.inr (by obtain ⟨cs, fz, ht⟩ := R1.out.ty; exact owi_ne O1.out ht (by decide)))); obtain ⟨sb, so, sc, hv2, hc2, hb2⟩ := sl_one2 h1 CB.out; subst hv2; have CL := Lib.hid (p := ∀ W, Below w2.heap.size w2 W → W.cell? ⟨sb, so, none⟩ = some (.int .u8 c)) (fun W q => (q.cell (p := ⟨sb, so, none⟩) hb2).trans hc2); clear h1 h2 h3)
            | (go_at_call 14; refine (KRk.out _).mono ?_; rintro e w3 ⟨rfl, h1⟩; have B3 := Lib.hid (B2.out.trans (h1.mono B2.out.size)); clear h1))
          go_ret3
          exact ⟨⟨_, by rw [ST.out]; rfl, by rw [ST.out]; exact owi_nil _ _⟩, B3.out.alloc B3.out.size _⟩
        · obtain ⟨k, rfl⟩ : ∃ k : Nat, c = (k : Int) := ⟨c.toNat, by omega⟩
          have hk : k < 29 := by omega
          obtain ⟨x1, e1, m1, ha⟩ : ∃ x e m, uN (xs.drop (pos + 1)) (baA k) = (x, e, m) := ⟨_, _, _, rfl⟩
          obtain ⟨x2, e2, m2, hb⟩ : ∃ x e m, uN ((xs.drop (pos + 1)).drop m1) (bbA k) = (x, e, m) := ⟨_, _, _, rfl⟩
          have DD : DC k (xs.drop (pos + 1)) x1 e1 m1 x2 e2 m2 := ⟨ha, hb⟩
          obtain ⟨f1, f2, f3, _⟩ := tab_facts k hk
          have NK := Lib.hid (show (xs.drop (pos + 1)).length = n - (pos + 1) by rw [List.length_drop, XL.out])
          have KRk := Lib.hid (KR.out k hk)
          have RA := Lib.hid (p := (rfs k).a = if 1 ≤ onA k then (baA k : Int) else -1) rfl
          have RB' := Lib.hid (p := (rfs k).b = if 2 ≤ onA k then (bbA k : Int) else -1) rfl
          obtain ⟨pl1, hpl1⟩ : ∃ pl : Nat, (if e1 = 41 then n else pos + 1) = pl := ⟨_, rfl⟩
          obtain ⟨pl2, hpl2⟩ : ∃ pl : Nat, (if e2 = 41 then n else pos + 1 + m1) = pl := ⟨_, rfl⟩
          have KO1 := Lib.hid (p := ∀ W, RE W w.heap.size p a1 n c1 xs (pos + 1) → Calls Tryd.prog 21 #[.pointer (some ⟨p, 0, none⟩), .int .i64 (baA k : Int)] W fun e w' => e = .returned (.tuple #[.int .i64 (x1 : Int), .int .i64 (pl1 : Int), .int .i64 e1]) ∧ RE w' w.heap.size p a1 n c1 xs (pos + 1 + m1) ∧ Gr p W w') (fun W q => by
            have := operand_some w.heap.size p a1 n c1 xs (pos + 1) (baA k) (by omega) x1 e1 m1 ha W q
            rw [hpl1] at this; exact this)
          have KO2 := Lib.hid (p := ∀ W, RE W w.heap.size p a1 n c1 xs (pos + 1 + m1) → Calls Tryd.prog 21 #[.pointer (some ⟨p, 0, none⟩), .int .i64 (bbA k : Int)] W fun e w' => e = .returned (.tuple #[.int .i64 (x2 : Int), .int .i64 (pl2 : Int), .int .i64 e2]) ∧ RE w' w.heap.size p a1 n c1 xs (pos + 1 + m1 + m2) ∧ Gr p W w') (fun W q => by
            have := operand_some w.heap.size p a1 n c1 xs (pos + 1 + m1) (bbA k) (by omega) x2 e2 m2 (by rw [← List.drop_drop]; exact hb) W q
            rw [hpl2] at this; exact this)
          have S1 := Lib.hid (p := 1 ≤ onA k → e1 ≠ 0 → decs cnt xs = ([], e1, pl1)) (fun q1 q2 => by
            have e := DD.err1 hk q1 q2
            have := JJ.out.stop hlt (by rw [hd, e]; exact q2)
            rw [hd, e] at this
            rw [this, ← hpl1]
            have := NK.out
            simp only
            congr 2
            split <;> omega)
          have S2 := Lib.hid (p := 2 ≤ onA k → e1 = 0 → e2 ≠ 0 → decs cnt xs = ([], e2, pl2)) (fun q1 q2 q3 => by
            have e := DD.err2 hk q1 q2 q3
            have := JJ.out.stop hlt (by rw [hd, e]; exact q3)
            rw [hd, e] at this
            rw [this, ← hpl2]
            have := NK.out
            simp only
            congr 2
            split <;> omega)
          have S3 := Lib.hid (p := (1 ≤ onA k → e1 = 0) → (2 ≤ onA k → e2 = 0) → DJ xs cnt (acc ++ [⟨(k : Int), (av x1 (onA k) : Int), (bv x2 (onA k) : Int)⟩]) (pos + (1 + av m1 (onA k) + bv m2 (onA k)))) (fun q1 q2 => by
            have e := DD.ok hk q1 q2
            have := JJ.out.step XB.out hlt (by rw [hd, e])
            rw [hd, e] at this
            exact this)
          clear ha hb DD hpl1 hpl2 hd NK cb h29 f2 f3
          rcases (show onA k = 0 ∨ onA k = 1 ∨ onA k = 2 by omega) with ho | ho | ho
          · have JS := Lib.hid (p := DJ xs cnt (acc ++ [⟨(k : Int), 0, 0⟩]) (pos + 1)) (by have := S3.out (fun q => by omega) (fun q => by omega); rw [ho] at this; simpa [av, bv] using this)
            rw [RA.out, RB'.out, ho] at KRk
            simp only [show ¬ (1 : Nat) ≤ 0 by omega, show ¬ (2 : Nat) ≤ 0 by omega, if_false] at KRk
            clear S1 S2 S3 RA RB' ho f1 hk
            go_wp2_with (first
              | (go_at_call 18; have qq := P0; refine LZ.out.mono ?_; rintro e w1 ⟨rfl, q, h1⟩; subst h1; have R1 := Lib.hid (RD.out.drewN q); have O1 := Lib.hid (OO.out.kept (gr_drewN (gr_refl none wr) q) (by cases (Value.ownBlock _) <;> simp)); have B1 := Lib.hid (below_drewN BB.out q); clear P0; generalize wr.drewN q = w1 at *)
              | (go_at_call 19; refine (KP.out _ R1.out).mono ?_; rintro e w1' ⟨rfl, h1⟩; subst h1)
              | (go_at_call 20; refine (KT.out _ R1.out).mono ?_; rintro e w2 ⟨v2, rfl, h1, h2, h3⟩; have R2 := Lib.hid h2; have B2 := Lib.hid (B1.out.trans (gr_out h3 R1.out.base B1.out.size)); have O2 := Lib.hid (O1.out.kept h3 (.inr (by obtain ⟨cs, fz, ht⟩ := R1.out.ty; exact owi_ne O1.out ht (by decide)))); obtain ⟨sb, so, sc, hv2, hc2, hb2⟩ := sl_one2 h1 CB.out; subst hv2; have CL := Lib.hid (p := ∀ W, Below w2.heap.size w2 W → W.cell? ⟨sb, so, none⟩ = some (.int .u8 (k : Int))) (fun W q => (q.cell (p := ⟨sb, so, none⟩) hb2).trans hc2); clear h1 h2 h3)
              | (go_at_call 14; refine (KRk.out _).mono ?_; rintro e w3 ⟨rfl, h1⟩; have d0 := CL.out (w3.alloc (.cells #[.string (nmA k), .int .i64 (-1), .int .i64 (-1), .int .i64 (tkA k : Int), .int .i64 (ptA k : Int)] 38)) (h1.alloc h1.size _); have b5 : Below w2.heap.size w2 ((w3.alloc (.cells #[.string (nmA k), .int .i64 (-1), .int .i64 (-1), .int .i64 (tkA k : Int), .int .i64 (ptA k : Int)] 38)).alloc (.cells #[.int .i64 (k : Int), .int .i64 0, .int .i64 0] 24)) := (h1.alloc h1.size _).alloc (by have := h1.size; simp; omega) _; have M5 := Lib.hid (p := RM w ((w3.alloc (.cells #[.string (nmA k), .int .i64 (-1), .int .i64 (-1), .int .i64 (tkA k : Int), .int .i64 (ptA k : Int)] 38)).alloc (.cells #[.int .i64 (k : Int), .int .i64 0, .int .i64 0] 24)) w.heap.size p a1 n c1 xs (pos + 1) _ acc w3.heap.size (nmA k) (-1) (-1) (tkA k : Int) (ptA k : Int) (k : Int) 0 0) ⟨R2.out.later (below_gr b5 none), O2.out.kept (below_gr b5 none) (by cases (Value.ownBlock _) <;> simp), B2.out.trans (b5.mono B2.out.size), heap_old1 w3 _ _, heap_new1 w3 _ _, Nat.lt_of_lt_of_le R2.out.lt h1.size, (fun g e => Nat.lt_of_lt_of_le (O2.out.lt g e).2 h1.size), (fun g e => Nat.lt_of_lt_of_le (R2.out.own.lt g e).2 h1.size)⟩; have Q5 := Lib.hid (p := w.heap.size ≤ w3.heap.size) (Nat.le_trans B2.out.size h1.size); clear h1 b5)
              | (go_at_call 21; have qq := P1; refine (operand_none p (-1) (by omega) _).mono ?_; rintro e w6 ⟨rfl, h1⟩; subst h1; clear P1)
              | (go_at_call 21; refine (operand_none p (-1) (by omega) _).mono ?_; rintro e w8 ⟨rfl, h1⟩; subst h1; have M9 := M5)
              | (at_builtin; refine wp_instr _ ⟨(k : Int), 0, 0⟩ rfl _ _ rfl w.heap.size _ acc rfl _ (by first | rfl | simp) rfl M9.out.own (by omega) M9.out.bel.size _ rfl ?_; intro va wa oa ga; have Oa := Lib.hid oa; have Ra := Lib.hid ((M9.out.rd.later (below_gr ((Below.refl _ _).alloc (Nat.le_refl _) _) none)).appI (M9.out.own.alloc _) ga); have Ba := Lib.hid ((M9.out.bel.alloc M9.out.bel.size _).grown ga (Nat.le_trans M9.out.bel.size (by simp)) (fun k e => (M9.out.own.lt k e).1)); clear oa ga))
            go_roundw
            case rel => exact ⟨acc ++ [⟨(k : Int), 0, 0⟩], (pos + 1), by simp, JS.out, Oa.out, Ra.out, Ba.out⟩
            case measure => simp [intOf]; omega
          · by_cases he : e1 = 0
            · have JS := Lib.hid (p := DJ xs cnt (acc ++ [⟨(k : Int), (x1 : Int), 0⟩]) (pos + 1 + m1)) (by have := S3.out (fun q => he) (fun q => by omega); rw [ho] at this; simpa [av, bv, Nat.add_assoc] using this)
              rw [RA.out, RB'.out, ho] at KRk
              simp only [Nat.le_refl, show ¬ (2 : Nat) ≤ 1 by omega, if_true, if_false] at KRk
              clear S1 S2 S3 RA RB' ho f1 hk
              subst he
              go_wp2_with (first
                | (go_at_call 18; have qq := P0; refine LZ.out.mono ?_; rintro e w1 ⟨rfl, q, h1⟩; subst h1; have R1 := Lib.hid (RD.out.drewN q); have O1 := Lib.hid (OO.out.kept (gr_drewN (gr_refl none wr) q) (by cases (Value.ownBlock _) <;> simp)); have B1 := Lib.hid (below_drewN BB.out q); clear P0; generalize wr.drewN q = w1 at *)
                | (go_at_call 19; refine (KP.out _ R1.out).mono ?_; rintro e w1' ⟨rfl, h1⟩; subst h1)
                | (go_at_call 20; refine (KT.out _ R1.out).mono ?_; rintro e w2 ⟨v2, rfl, h1, h2, h3⟩; have R2 := Lib.hid h2; have B2 := Lib.hid (B1.out.trans (gr_out h3 R1.out.base B1.out.size)); have O2 := Lib.hid (O1.out.kept h3 (.inr (by obtain ⟨cs, fz, ht⟩ := R1.out.ty; exact owi_ne O1.out ht (by decide)))); obtain ⟨sb, so, sc, hv2, hc2, hb2⟩ := sl_one2 h1 CB.out; subst hv2; have CL := Lib.hid (p := ∀ W, Below w2.heap.size w2 W → W.cell? ⟨sb, so, none⟩ = some (.int .u8 (k : Int))) (fun W q => (q.cell (p := ⟨sb, so, none⟩) hb2).trans hc2); clear h1 h2 h3)
                | (go_at_call 14; refine (KRk.out _).mono ?_; rintro e w3 ⟨rfl, h1⟩; have d0 := CL.out (w3.alloc (.cells #[.string (nmA k), .int .i64 (baA k : Int), .int .i64 (-1), .int .i64 (tkA k : Int), .int .i64 (ptA k : Int)] 38)) (h1.alloc h1.size _); have b5 : Below w2.heap.size w2 ((w3.alloc (.cells #[.string (nmA k), .int .i64 (baA k : Int), .int .i64 (-1), .int .i64 (tkA k : Int), .int .i64 (ptA k : Int)] 38)).alloc (.cells #[.int .i64 (k : Int), .int .i64 0, .int .i64 0] 24)) := (h1.alloc h1.size _).alloc (by have := h1.size; simp; omega) _; have M5 := Lib.hid (p := RM w ((w3.alloc (.cells #[.string (nmA k), .int .i64 (baA k : Int), .int .i64 (-1), .int .i64 (tkA k : Int), .int .i64 (ptA k : Int)] 38)).alloc (.cells #[.int .i64 (k : Int), .int .i64 0, .int .i64 0] 24)) w.heap.size p a1 n c1 xs (pos + 1) _ acc w3.heap.size (nmA k) (baA k : Int) (-1) (tkA k : Int) (ptA k : Int) (k : Int) 0 0) ⟨R2.out.later (below_gr b5 none), O2.out.kept (below_gr b5 none) (by cases (Value.ownBlock _) <;> simp), B2.out.trans (b5.mono B2.out.size), heap_old1 w3 _ _, heap_new1 w3 _ _, Nat.lt_of_lt_of_le R2.out.lt h1.size, (fun g e => Nat.lt_of_lt_of_le (O2.out.lt g e).2 h1.size), (fun g e => Nat.lt_of_lt_of_le (R2.out.own.lt g e).2 h1.size)⟩; have Q5 := Lib.hid (p := w.heap.size ≤ w3.heap.size) (Nat.le_trans B2.out.size h1.size); clear h1 b5)
                | (go_at_call 21; have qq := P1; refine (KO1.out _ M5.out.rd).mono ?_; rintro e w6 ⟨rfl, h1, h2⟩; have M6 := Lib.hid (M5.out.turn h1 h2 M5.out.bel.size); obtain ⟨l0, l1, l2⟩ := box3 M6.out.ins; obtain ⟨p0, p1', p2⟩ := frz3 M6.out.ins; clear h1 h2 P1; obtain ⟨w7, hw7⟩ : ∃ w7, w6.setCell ⟨w3.heap.size + 1, 1, none⟩ (.int .i64 (x1 : Int)) = w7 := ⟨_, rfl⟩; have M7 := Lib.hid (p := RM w w7 w.heap.size p a1 n c1 xs (pos + 1 + m1) _ acc w3.heap.size (nmA k) (baA k : Int) (-1) (tkA k : Int) (ptA k : Int) (k : Int) (x1 : Int) 0) (by rw [← hw7]; exact M6.out.setCell 1 (x1 : Int) Q5.out (set3b M6.out.ins)); obtain ⟨m0, m1', m2', m3, m4⟩ := box_all5 M7.out.row; obtain ⟨n0, n1, n2⟩ := box3 M7.out.ins; obtain ⟨r0, r1, r2⟩ := frz3 M7.out.ins)
                | (go_at_call 21; refine (operand_none p (-1) (by omega) _).mono ?_; rintro e w8 ⟨rfl, h1⟩; have h2' := h1.symm; subst h2'; obtain ⟨w9, hw9⟩ : ∃ w9, w7.setCell ⟨w3.heap.size + 1, 2, none⟩ (.int .i64 0) = w9 := ⟨_, rfl⟩; have M9 := Lib.hid (p := RM w w9 w.heap.size p a1 n c1 xs (pos + 1 + m1) _ acc w3.heap.size (nmA k) (baA k : Int) (-1) (tkA k : Int) (ptA k : Int) (k : Int) (x1 : Int) 0) (by rw [← hw9]; exact M7.out.setCell 2 0 Q5.out (set3c M7.out.ins)); obtain ⟨s0, s1, s2⟩ := box3 M9.out.ins)
                | (at_builtin; refine wp_instr _ ⟨(k : Int), (x1 : Int), 0⟩ rfl _ _ rfl w.heap.size _ acc rfl _ (by first | rfl | simp) rfl M9.out.own (by omega) M9.out.bel.size _ rfl ?_; intro va wa oa ga; have Oa := Lib.hid oa; have Ra := Lib.hid ((M9.out.rd.later (below_gr ((Below.refl _ _).alloc (Nat.le_refl _) _) none)).appI (M9.out.own.alloc _) ga); have Ba := Lib.hid ((M9.out.bel.alloc M9.out.bel.size _).grown ga (Nat.le_trans M9.out.bel.size (by simp)) (fun k e => (M9.out.own.lt k e).1)); clear oa ga))
              go_roundw
              case rel => exact ⟨acc ++ [⟨(k : Int), (x1 : Int), 0⟩], (pos + 1 + m1), by simp, JS.out, Oa.out, Ra.out, Ba.out⟩
              case measure => simp [intOf]; omega
            · have ST := Lib.hid (S1.out (by omega) he)
              have he' : (e1 == 0) = false := by simpa using he
              rw [RA.out, RB'.out, ho] at KRk
              simp only [Nat.le_refl, show ¬ (2 : Nat) ≤ 1 by omega, if_true, if_false] at KRk
              clear S1 S2 S3 RA RB' ho f1 hk
              go_wp2_with (first
                | (go_at_call 18; have qq := P0; refine LZ.out.mono ?_; rintro e w1 ⟨rfl, q, h1⟩; subst h1; have R1 := Lib.hid (RD.out.drewN q); have O1 := Lib.hid (OO.out.kept (gr_drewN (gr_refl none wr) q) (by cases (Value.ownBlock _) <;> simp)); have B1 := Lib.hid (below_drewN BB.out q); clear P0; generalize wr.drewN q = w1 at *)
                | (go_at_call 19; refine (KP.out _ R1.out).mono ?_; rintro e w1' ⟨rfl, h1⟩; subst h1)
                | (go_at_call 20; refine (KT.out _ R1.out).mono ?_; rintro e w2 ⟨v2, rfl, h1, h2, h3⟩; have R2 := Lib.hid h2; have B2 := Lib.hid (B1.out.trans (gr_out h3 R1.out.base B1.out.size)); have O2 := Lib.hid (O1.out.kept h3 (.inr (by obtain ⟨cs, fz, ht⟩ := R1.out.ty; exact owi_ne O1.out ht (by decide)))); obtain ⟨sb, so, sc, hv2, hc2, hb2⟩ := sl_one2 h1 CB.out; subst hv2; have CL := Lib.hid (p := ∀ W, Below w2.heap.size w2 W → W.cell? ⟨sb, so, none⟩ = some (.int .u8 (k : Int))) (fun W q => (q.cell (p := ⟨sb, so, none⟩) hb2).trans hc2); clear h1 h2 h3)
                | (go_at_call 14; refine (KRk.out _).mono ?_; rintro e w3 ⟨rfl, h1⟩; have d0 := CL.out (w3.alloc (.cells #[.string (nmA k), .int .i64 (baA k : Int), .int .i64 (-1), .int .i64 (tkA k : Int), .int .i64 (ptA k : Int)] 38)) (h1.alloc h1.size _); have b5 : Below w2.heap.size w2 ((w3.alloc (.cells #[.string (nmA k), .int .i64 (baA k : Int), .int .i64 (-1), .int .i64 (tkA k : Int), .int .i64 (ptA k : Int)] 38)).alloc (.cells #[.int .i64 (k : Int), .int .i64 0, .int .i64 0] 24)) := (h1.alloc h1.size _).alloc (by have := h1.size; simp; omega) _; have M5 := Lib.hid (p := RM w ((w3.alloc (.cells #[.string (nmA k), .int .i64 (baA k : Int), .int .i64 (-1), .int .i64 (tkA k : Int), .int .i64 (ptA k : Int)] 38)).alloc (.cells #[.int .i64 (k : Int), .int .i64 0, .int .i64 0] 24)) w.heap.size p a1 n c1 xs (pos + 1) _ acc w3.heap.size (nmA k) (baA k : Int) (-1) (tkA k : Int) (ptA k : Int) (k : Int) 0 0) ⟨R2.out.later (below_gr b5 none), O2.out.kept (below_gr b5 none) (by cases (Value.ownBlock _) <;> simp), B2.out.trans (b5.mono B2.out.size), heap_old1 w3 _ _, heap_new1 w3 _ _, Nat.lt_of_lt_of_le R2.out.lt h1.size, (fun g e => Nat.lt_of_lt_of_le (O2.out.lt g e).2 h1.size), (fun g e => Nat.lt_of_lt_of_le (R2.out.own.lt g e).2 h1.size)⟩; have Q5 := Lib.hid (p := w.heap.size ≤ w3.heap.size) (Nat.le_trans B2.out.size h1.size); clear h1 b5)
                | (go_at_call 21; refine (KO1.out _ M5.out.rd).mono ?_; rintro e w6 ⟨rfl, h1, h2⟩; have M6 := Lib.hid (M5.out.turn h1 h2 M5.out.bel.size); clear h1 h2))
              go_ret3
              exact ⟨⟨_, by rw [ST.out]; rfl, by rw [ST.out]; exact owi_nil _ _⟩, M6.out.bel⟩
          · by_cases he : e1 = 0
            · by_cases hf : e2 = 0
              · have JS := Lib.hid (p := DJ xs cnt (acc ++ [⟨(k : Int), (x1 : Int), (x2 : Int)⟩]) (pos + 1 + m1 + m2)) (by have := S3.out (fun q => he) (fun q => hf); rw [ho] at this; simpa [av, bv, Nat.add_assoc] using this)
                rw [RA.out, RB'.out, ho] at KRk
                simp only [show (1 : Nat) ≤ 2 by omega, Nat.le_refl, if_true] at KRk
                clear S1 S2 S3 RA RB' ho f1 hk
                subst he hf
                go_wp2_with (first
                  | (go_at_call 18; have qq := P0; refine LZ.out.mono ?_; rintro e w1 ⟨rfl, q, h1⟩; subst h1; have R1 := Lib.hid (RD.out.drewN q); have O1 := Lib.hid (OO.out.kept (gr_drewN (gr_refl none wr) q) (by cases (Value.ownBlock _) <;> simp)); have B1 := Lib.hid (below_drewN BB.out q); clear P0; generalize wr.drewN q = w1 at *)
                  | (go_at_call 19; refine (KP.out _ R1.out).mono ?_; rintro e w1' ⟨rfl, h1⟩; subst h1)
                  | (go_at_call 20; refine (KT.out _ R1.out).mono ?_; rintro e w2 ⟨v2, rfl, h1, h2, h3⟩; have R2 := Lib.hid h2; have B2 := Lib.hid (B1.out.trans (gr_out h3 R1.out.base B1.out.size)); have O2 := Lib.hid (O1.out.kept h3 (.inr (by obtain ⟨cs, fz, ht⟩ := R1.out.ty; exact owi_ne O1.out ht (by decide)))); obtain ⟨sb, so, sc, hv2, hc2, hb2⟩ := sl_one2 h1 CB.out; subst hv2; have CL := Lib.hid (p := ∀ W, Below w2.heap.size w2 W → W.cell? ⟨sb, so, none⟩ = some (.int .u8 (k : Int))) (fun W q => (q.cell (p := ⟨sb, so, none⟩) hb2).trans hc2); clear h1 h2 h3)
                  | (go_at_call 14; refine (KRk.out _).mono ?_; rintro e w3 ⟨rfl, h1⟩; have d0 := CL.out (w3.alloc (.cells #[.string (nmA k), .int .i64 (baA k : Int), .int .i64 (bbA k : Int), .int .i64 (tkA k : Int), .int .i64 (ptA k : Int)] 38)) (h1.alloc h1.size _); have b5 : Below w2.heap.size w2 ((w3.alloc (.cells #[.string (nmA k), .int .i64 (baA k : Int), .int .i64 (bbA k : Int), .int .i64 (tkA k : Int), .int .i64 (ptA k : Int)] 38)).alloc (.cells #[.int .i64 (k : Int), .int .i64 0, .int .i64 0] 24)) := (h1.alloc h1.size _).alloc (by have := h1.size; simp; omega) _; have M5 := Lib.hid (p := RM w ((w3.alloc (.cells #[.string (nmA k), .int .i64 (baA k : Int), .int .i64 (bbA k : Int), .int .i64 (tkA k : Int), .int .i64 (ptA k : Int)] 38)).alloc (.cells #[.int .i64 (k : Int), .int .i64 0, .int .i64 0] 24)) w.heap.size p a1 n c1 xs (pos + 1) _ acc w3.heap.size (nmA k) (baA k : Int) (bbA k : Int) (tkA k : Int) (ptA k : Int) (k : Int) 0 0) ⟨R2.out.later (below_gr b5 none), O2.out.kept (below_gr b5 none) (by cases (Value.ownBlock _) <;> simp), B2.out.trans (b5.mono B2.out.size), heap_old1 w3 _ _, heap_new1 w3 _ _, Nat.lt_of_lt_of_le R2.out.lt h1.size, (fun g e => Nat.lt_of_lt_of_le (O2.out.lt g e).2 h1.size), (fun g e => Nat.lt_of_lt_of_le (R2.out.own.lt g e).2 h1.size)⟩; have Q5 := Lib.hid (p := w.heap.size ≤ w3.heap.size) (Nat.le_trans B2.out.size h1.size); clear h1 b5)
                  | (go_at_call 21; have qq := P1; refine (KO1.out _ M5.out.rd).mono ?_; rintro e w6 ⟨rfl, h1, h2⟩; have M6 := Lib.hid (M5.out.turn h1 h2 M5.out.bel.size); obtain ⟨l0, l1, l2⟩ := box3 M6.out.ins; obtain ⟨p0, p1', p2⟩ := frz3 M6.out.ins; clear h1 h2 P1; obtain ⟨w7, hw7⟩ : ∃ w7, w6.setCell ⟨w3.heap.size + 1, 1, none⟩ (.int .i64 (x1 : Int)) = w7 := ⟨_, rfl⟩; have M7 := Lib.hid (p := RM w w7 w.heap.size p a1 n c1 xs (pos + 1 + m1) _ acc w3.heap.size (nmA k) (baA k : Int) (bbA k : Int) (tkA k : Int) (ptA k : Int) (k : Int) (x1 : Int) 0) (by rw [← hw7]; exact M6.out.setCell 1 (x1 : Int) Q5.out (set3b M6.out.ins)); obtain ⟨m0, m1', m2', m3, m4⟩ := box_all5 M7.out.row; obtain ⟨n0, n1, n2⟩ := box3 M7.out.ins; obtain ⟨r0, r1, r2⟩ := frz3 M7.out.ins)
                  | (go_at_call 21; refine (KO2.out _ M7.out.rd).mono ?_; rintro e w8 ⟨rfl, h1, h2⟩; have M8 := Lib.hid (M7.out.turn h1 h2 M7.out.bel.size); obtain ⟨t0, t1', t2'⟩ := box3 M8.out.ins; obtain ⟨u0, u1', u2'⟩ := frz3 M8.out.ins; clear h1 h2; obtain ⟨w9, hw9⟩ : ∃ w9, w8.setCell ⟨w3.heap.size + 1, 2, none⟩ (.int .i64 (x2 : Int)) = w9 := ⟨_, rfl⟩; have M9 := Lib.hid (p := RM w w9 w.heap.size p a1 n c1 xs (pos + 1 + m1 + m2) _ acc w3.heap.size (nmA k) (baA k : Int) (bbA k : Int) (tkA k : Int) (ptA k : Int) (k : Int) (x1 : Int) (x2 : Int)) (by rw [← hw9]; exact M8.out.setCell 2 (x2 : Int) Q5.out (set3c M8.out.ins)); obtain ⟨s0, s1, s2⟩ := box3 M9.out.ins)
                  | (at_builtin; refine wp_instr _ ⟨(k : Int), (x1 : Int), (x2 : Int)⟩ rfl _ _ rfl w.heap.size _ acc rfl _ (by first | rfl | simp) rfl M9.out.own (by omega) M9.out.bel.size _ rfl ?_; intro va wa oa ga; have Oa := Lib.hid oa; have Ra := Lib.hid ((M9.out.rd.later (below_gr ((Below.refl _ _).alloc (Nat.le_refl _) _) none)).appI (M9.out.own.alloc _) ga); have Ba := Lib.hid ((M9.out.bel.alloc M9.out.bel.size _).grown ga (Nat.le_trans M9.out.bel.size (by simp)) (fun k e => (M9.out.own.lt k e).1)); clear oa ga))
                go_roundw
                case rel => exact ⟨acc ++ [⟨(k : Int), (x1 : Int), (x2 : Int)⟩], (pos + 1 + m1 + m2), by simp, JS.out, Oa.out, Ra.out, Ba.out⟩
                case measure => simp [intOf]; omega
              · have ST := Lib.hid (S2.out (by omega) he hf)
                have hf' : (e2 == 0) = false := by simpa using hf
                rw [RA.out, RB'.out, ho] at KRk
                simp only [show (1 : Nat) ≤ 2 by omega, Nat.le_refl, if_true] at KRk
                clear S1 S2 S3 RA RB' ho f1 hk
                subst he
                go_wp2_with (first
                  | (go_at_call 18; have qq := P0; refine LZ.out.mono ?_; rintro e w1 ⟨rfl, q, h1⟩; subst h1; have R1 := Lib.hid (RD.out.drewN q); have O1 := Lib.hid (OO.out.kept (gr_drewN (gr_refl none wr) q) (by cases (Value.ownBlock _) <;> simp)); have B1 := Lib.hid (below_drewN BB.out q); clear P0; generalize wr.drewN q = w1 at *)
                  | (go_at_call 19; refine (KP.out _ R1.out).mono ?_; rintro e w1' ⟨rfl, h1⟩; subst h1)
                  | (go_at_call 20; refine (KT.out _ R1.out).mono ?_; rintro e w2 ⟨v2, rfl, h1, h2, h3⟩; have R2 := Lib.hid h2; have B2 := Lib.hid (B1.out.trans (gr_out h3 R1.out.base B1.out.size)); have O2 := Lib.hid (O1.out.kept h3 (.inr (by obtain ⟨cs, fz, ht⟩ := R1.out.ty; exact owi_ne O1.out ht (by decide)))); obtain ⟨sb, so, sc, hv2, hc2, hb2⟩ := sl_one2 h1 CB.out; subst hv2; have CL := Lib.hid (p := ∀ W, Below w2.heap.size w2 W → W.cell? ⟨sb, so, none⟩ = some (.int .u8 (k : Int))) (fun W q => (q.cell (p := ⟨sb, so, none⟩) hb2).trans hc2); clear h1 h2 h3)
                  | (go_at_call 14; refine (KRk.out _).mono ?_; rintro e w3 ⟨rfl, h1⟩; have d0 := CL.out (w3.alloc (.cells #[.string (nmA k), .int .i64 (baA k : Int), .int .i64 (bbA k : Int), .int .i64 (tkA k : Int), .int .i64 (ptA k : Int)] 38)) (h1.alloc h1.size _); have b5 : Below w2.heap.size w2 ((w3.alloc (.cells #[.string (nmA k), .int .i64 (baA k : Int), .int .i64 (bbA k : Int), .int .i64 (tkA k : Int), .int .i64 (ptA k : Int)] 38)).alloc (.cells #[.int .i64 (k : Int), .int .i64 0, .int .i64 0] 24)) := (h1.alloc h1.size _).alloc (by have := h1.size; simp; omega) _; have M5 := Lib.hid (p := RM w ((w3.alloc (.cells #[.string (nmA k), .int .i64 (baA k : Int), .int .i64 (bbA k : Int), .int .i64 (tkA k : Int), .int .i64 (ptA k : Int)] 38)).alloc (.cells #[.int .i64 (k : Int), .int .i64 0, .int .i64 0] 24)) w.heap.size p a1 n c1 xs (pos + 1) _ acc w3.heap.size (nmA k) (baA k : Int) (bbA k : Int) (tkA k : Int) (ptA k : Int) (k : Int) 0 0) ⟨R2.out.later (below_gr b5 none), O2.out.kept (below_gr b5 none) (by cases (Value.ownBlock _) <;> simp), B2.out.trans (b5.mono B2.out.size), heap_old1 w3 _ _, heap_new1 w3 _ _, Nat.lt_of_lt_of_le R2.out.lt h1.size, (fun g e => Nat.lt_of_lt_of_le (O2.out.lt g e).2 h1.size), (fun g e => Nat.lt_of_lt_of_le (R2.out.own.lt g e).2 h1.size)⟩; have Q5 := Lib.hid (p := w.heap.size ≤ w3.heap.size) (Nat.le_trans B2.out.size h1.size); clear h1 b5)
                  | (go_at_call 21; have qq := P1; refine (KO1.out _ M5.out.rd).mono ?_; rintro e w6 ⟨rfl, h1, h2⟩; have M6 := Lib.hid (M5.out.turn h1 h2 M5.out.bel.size); obtain ⟨l0, l1, l2⟩ := box3 M6.out.ins; obtain ⟨p0, p1', p2⟩ := frz3 M6.out.ins; clear h1 h2 P1; obtain ⟨w7, hw7⟩ : ∃ w7, w6.setCell ⟨w3.heap.size + 1, 1, none⟩ (.int .i64 (x1 : Int)) = w7 := ⟨_, rfl⟩; have M7 := Lib.hid (p := RM w w7 w.heap.size p a1 n c1 xs (pos + 1 + m1) _ acc w3.heap.size (nmA k) (baA k : Int) (bbA k : Int) (tkA k : Int) (ptA k : Int) (k : Int) (x1 : Int) 0) (by rw [← hw7]; exact M6.out.setCell 1 (x1 : Int) Q5.out (set3b M6.out.ins)); obtain ⟨m0, m1', m2', m3, m4⟩ := box_all5 M7.out.row; obtain ⟨n0, n1, n2⟩ := box3 M7.out.ins; obtain ⟨r0, r1, r2⟩ := frz3 M7.out.ins)
                  | (go_at_call 21; refine (KO2.out _ M7.out.rd).mono ?_; rintro e w8 ⟨rfl, h1, h2⟩; have M8 := Lib.hid (M7.out.turn h1 h2 M7.out.bel.size); clear h1 h2))
                go_ret3
                exact ⟨⟨_, by rw [ST.out]; rfl, by rw [ST.out]; exact owi_nil _ _⟩, M8.out.bel⟩
            · have ST := Lib.hid (S1.out (by omega) he)
              have he' : (e1 == 0) = false := by simpa using he
              rw [RA.out, RB'.out, ho] at KRk
              simp only [show (1 : Nat) ≤ 2 by omega, Nat.le_refl, if_true] at KRk
              clear S1 S2 S3 RA RB' ho f1 hk
              go_wp2_with (first
                | (go_at_call 18; have qq := P0; refine LZ.out.mono ?_; rintro e w1 ⟨rfl, q, h1⟩; subst h1; have R1 := Lib.hid (RD.out.drewN q); have O1 := Lib.hid (OO.out.kept (gr_drewN (gr_refl none wr) q) (by cases (Value.ownBlock _) <;> simp)); have B1 := Lib.hid (below_drewN BB.out q); clear P0; generalize wr.drewN q = w1 at *)
                | (go_at_call 19; refine (KP.out _ R1.out).mono ?_; rintro e w1' ⟨rfl, h1⟩; subst h1)
                | (go_at_call 20; refine (KT.out _ R1.out).mono ?_; rintro e w2 ⟨v2, rfl, h1, h2, h3⟩; have R2 := Lib.hid h2; have B2 := Lib.hid (B1.out.trans (gr_out h3 R1.out.base B1.out.size)); have O2 := Lib.hid (O1.out.kept h3 (.inr (by obtain ⟨cs, fz, ht⟩ := R1.out.ty; exact owi_ne O1.out ht (by decide)))); obtain ⟨sb, so, sc, hv2, hc2, hb2⟩ := sl_one2 h1 CB.out; subst hv2; have CL := Lib.hid (p := ∀ W, Below w2.heap.size w2 W → W.cell? ⟨sb, so, none⟩ = some (.int .u8 (k : Int))) (fun W q => (q.cell (p := ⟨sb, so, none⟩) hb2).trans hc2); clear h1 h2 h3)
                | (go_at_call 14; refine (KRk.out _).mono ?_; rintro e w3 ⟨rfl, h1⟩; have d0 := CL.out (w3.alloc (.cells #[.string (nmA k), .int .i64 (baA k : Int), .int .i64 (bbA k : Int), .int .i64 (tkA k : Int), .int .i64 (ptA k : Int)] 38)) (h1.alloc h1.size _); have b5 : Below w2.heap.size w2 ((w3.alloc (.cells #[.string (nmA k), .int .i64 (baA k : Int), .int .i64 (bbA k : Int), .int .i64 (tkA k : Int), .int .i64 (ptA k : Int)] 38)).alloc (.cells #[.int .i64 (k : Int), .int .i64 0, .int .i64 0] 24)) := (h1.alloc h1.size _).alloc (by have := h1.size; simp; omega) _; have M5 := Lib.hid (p := RM w ((w3.alloc (.cells #[.string (nmA k), .int .i64 (baA k : Int), .int .i64 (bbA k : Int), .int .i64 (tkA k : Int), .int .i64 (ptA k : Int)] 38)).alloc (.cells #[.int .i64 (k : Int), .int .i64 0, .int .i64 0] 24)) w.heap.size p a1 n c1 xs (pos + 1) _ acc w3.heap.size (nmA k) (baA k : Int) (bbA k : Int) (tkA k : Int) (ptA k : Int) (k : Int) 0 0) ⟨R2.out.later (below_gr b5 none), O2.out.kept (below_gr b5 none) (by cases (Value.ownBlock _) <;> simp), B2.out.trans (b5.mono B2.out.size), heap_old1 w3 _ _, heap_new1 w3 _ _, Nat.lt_of_lt_of_le R2.out.lt h1.size, (fun g e => Nat.lt_of_lt_of_le (O2.out.lt g e).2 h1.size), (fun g e => Nat.lt_of_lt_of_le (R2.out.own.lt g e).2 h1.size)⟩; have Q5 := Lib.hid (p := w.heap.size ≤ w3.heap.size) (Nat.le_trans B2.out.size h1.size); clear h1 b5)
                | (go_at_call 21; refine (KO1.out _ M5.out.rd).mono ?_; rintro e w6 ⟨rfl, h1, h2⟩; have M6 := Lib.hid (M5.out.turn h1 h2 M5.out.bel.size); clear h1 h2))
              go_ret3
              exact ⟨⟨_, by rw [ST.out]; rfl, by rw [ST.out]; exact owi_nil _ _⟩, M6.out.bel⟩
    · have hl : acc.length = cnt := by omega
      have ac : ¬ (acc.length : Int) < (cnt : Int) := by omega
      have LZ := Lib.hid (leftR_q w.heap.size p a1 n c1 xs pos wr RD.out)
      by_cases hp : pos = n
      · have DN := Lib.hid (JJ.out.done hl (by rw [XL.out]; exact hp))
        rw [show n - pos = 0 by omega] at LZ
        clear hp hl
        go_wp2_with (first
          | (go_at_call 18; refine LZ.out.mono ?_; rintro e w1 ⟨rfl, q, h1⟩; subst h1))
        go_ret3
        exact ⟨⟨_, by rw [DN.out]; rfl, by rw [DN.out]; exact OO.out.kept (gr_drewN (gr_refl none wr) q) (by cases (Value.ownBlock _) <;> simp)⟩, below_drewN BB.out _⟩
      · have pn' : pos < n := by omega
        have DN := Lib.hid (JJ.out.extra hl (by rw [XL.out]; exact pn'))
        have KP := Lib.hid (fun W (q : RE W w.heap.size p a1 n c1 xs pos) => placeR_same w.heap.size p a1 n c1 xs pos W q)
        obtain ⟨lf, hlf⟩ : ∃ lf : Nat, n - pos = lf := ⟨_, rfl⟩
        have lf0 : (0 : Int) < (lf : Int) := by omega
        rw [hlf] at LZ
        clear hlf hp hl pn'
        go_wp2_with (first
          | (go_at_call 18; refine LZ.out.mono ?_; rintro e w1 ⟨rfl, q, h1⟩; subst h1; have R1 := Lib.hid (RD.out.drewN q); have B1 := Lib.hid (below_drewN BB.out q); generalize wr.drewN q = w1 at *)
          | (go_at_call 19; refine (KP.out _ R1.out).mono ?_; rintro e w1' ⟨rfl, h1⟩; subst h1))
        go_ret3
        exact ⟨⟨_, by rw [DN.out]; rfl, by rw [DN.out]; exact owi_nil _ _⟩, B1.out⟩
end Go.Proofs.YtdbjdieegocdfaaDoor
