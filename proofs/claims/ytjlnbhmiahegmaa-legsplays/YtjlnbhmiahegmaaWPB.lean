/-
  WALK: the document's Play.
-/
import Derived.Test.YtjlnbhmiahegmaaWP9
import Derived.Test.YtjlnbhmiahegmaaWPA
namespace Go.Proofs.Ytjlnbhmiahegmaa
open Go.RowKit
set_option linter.unusedVariables false
set_option linter.unusedSimpArgs false

theorem block_ne {w : World} {b c : Nat} {cu cv : Array Value} {t u : TypeId} (h : Bk w b cu t) (k : Bk w c cv u) (hne : t ≠ u) : b ≠ c := fun e => by
  subst e
  unfold Bk at h k
  rw [h] at k
  injection k with k; injection k with _ k2; exact hne k2
theorem own_ne {w : World} {b B : Nat} {cu : Array Value} {t E : TypeId} {s n : Nat} {v : Value} {xs : List Value} (h : Bk w b cu t) (k : w.ownsRow B E s v n xs) (hne : t ≠ E) : some b ≠ v.ownBlock := fun e => by
  rcases k.2 with ⟨q, _⟩ | ⟨g, cap, cur, q, _, q3, _⟩
  · rw [q] at e; cases e
  · rw [q] at e; simp [Value.ownBlock] at e; subst e
    unfold Bk at h; rw [q3] at h; injection h with h; injection h with _ q4; exact hne q4.symm
/-- What the document's Play holds. -/
structure RQ (wS w : World) (nb ob : Nat) (C : List Int) (fv : Value) (F : List Fl) : Prop where
  bel : Below wS.heap.size wS w
  o : Bk w ob #[fv, .int .i64 0, .int .i64 0] 44
  olo : wS.heap.size ≤ ob
  nlo : wS.heap.size ≤ nb
  c : IB w nb C
  fo : w.ownsRow wS.heap.size 51 3 fv F.length (fcs F)
section
variable {wS w w' : World} {nb ob : Nat} {C : List Int} {fv : Value} {F : List Fl}
theorem RQ.later (h : RQ wS w nb ob C fv F) (b : Below w.heap.size w w') : RQ wS w' nb ob C fv F :=
  ⟨h.bel.trans (b.mono h.bel.size), h.o.below b h.o.lt, h.olo, h.nlo, h.c.keep (b.block nb h.c.lt), own_keep h.fo (fun k hk => b.block k (h.fo.lt k hk).2)⟩
theorem RQ.ne (h : RQ wS w nb ob C fv F) : ob ≠ nb := by obtain ⟨cu, h1, _⟩ := h.c; exact block_ne h.o h1 (by decide)
theorem RQ.ne1 (h : RQ wS w nb ob C fv F) : some ob ≠ fv.ownBlock := own_ne h.o h.fo (by decide)
theorem RQ.ne2 (h : RQ wS w nb ob C fv F) : some nb ≠ fv.ownBlock := by obtain ⟨cu, h1, _⟩ := h.c; exact own_ne h1 h.fo (by decide)
theorem RQ.flow {w7 : World} {v' : Value} {f : Fl} (h : RQ wS w nb ob C fv F) (g : w.grownBy w7 fv.ownBlock) (ho : w7.ownsRow wS.heap.size 51 3 v' (F ++ [f]).length (fcs (F ++ [f]))) : RQ wS (w7.setCell ⟨ob, 0, none⟩ v') nb ob C v' (F ++ [f]) := by
  have o7 : Bk w7 ob #[fv, .int .i64 0, .int .i64 0] 44 := h.o.grown g h.ne1
  have hv : ∀ y, fv.ownBlock = some y → wS.heap.size ≤ y := fun y e => (h.fo.lt y e).1
  have b7 : Below wS.heap.size wS w7 := ⟨g.os.trans h.bel.os, g.tape.trans h.bel.tape, g.output.trans h.bel.output, Nat.le_trans h.bel.size g.size, fun k hk => (g.block k (Nat.lt_of_lt_of_le hk h.bel.size) (fun e => by have := hv k e.symm; omega)).trans (h.bel.block k hk)⟩
  refine ⟨b7.setCell (p := ⟨ob, 0, none⟩) h.olo _, ?_, h.olo, h.nlo, (h.c.keep (g.block nb h.c.lt h.ne2)).keep (heap_set_other _ _ _ _ _ h.ne), own_keep ho (fun k hk => heap_set_other _ _ _ _ _ (fun e => own_ne o7 ho (by decide) (by rw [e]; exact hk.symm)))⟩
  have := o7.set 0 v' (by simp)
  simpa using this
theorem RQ.cell (h : RQ wS w nb ob C fv F) (i : Nat) (hi : i < C.length) (v : Int) : RQ wS (w.setCell ⟨nb, i, none⟩ (.int .i64 v)) nb ob (C.set i v) fv F :=
  ⟨h.bel.setCell (p := ⟨nb, i, none⟩) h.nlo _, h.o.other nb i _ (Ne.symm h.ne), h.olo, h.nlo, h.c.put i hi v, own_keep h.fo (fun k hk => heap_set_other _ _ _ _ _ (fun e => h.ne2 (by rw [e]; exact hk.symm)))⟩
end
set_option maxRecDepth 100000 in
set_option maxHeartbeats 20000000 in
theorem rplay_any {w : World} {al : List At} {pa : Option Addr} {pc : Nat} (hA : AL w pa al) {ra : Option Addr} {rn rc : Nat} {rs : List Rw} (hR : RL w ra rn rs) (cells : Int) :
    Calls Try.prog 18 #[.slice pa al.length pc, .int .i64 cells, .slice ra rn rc] w fun e w' => PlE w.heap.size (outR (Rws rs) al cells) (oddR al cells) e w' ∧ Below w.heap.size w w' := by
  obtain ⟨w0, hw0⟩ : ∃ w0, w.alloc (.cells #[.slice none 0 0, .int .i64 0, .int .i64 0] 44) = w0 := ⟨_, rfl⟩
  have X0 := Lib.hid (NB.is hw0)
  have Z0 := Lib.hid (show w0.heap.size = w.heap.size + 1 by rw [← hw0]; simp)
  have HW0 := Lib.hid hw0
  have KP := Lib.hid (rodd_any (pc := pc) (hA.later X0.out.1) cells)
  have HA := Lib.hid hA
  have HR := Lib.hid hR
  have HRI := Lib.hid (rl_inR hR)
  obtain ⟨er, her⟩ : ∃ x, oddR al cells = x := ⟨_, rfl⟩
  have HER := Lib.hid her
  rw [her] at KP
  obtain ⟨n, hn⟩ : ∃ n, al.length = n := ⟨_, rfl⟩
  have HL := Lib.hid hn
  rw [hn] at KP ⊢
  clear hw0 hA hR her hn
  go_enter Try.func18, Try.ntmps18
  go_wp2_with fail
  rw [HW0.out]
  clear HW0
  go_at_call 34
  refine KP.out.mono ?_
  rintro e w1 ⟨rfl, c1⟩
  have B1 := Lib.hid (X0.out.1.trans (c1.mono X0.out.1.size))
  have BX := Lib.hid (X0.out.2.below c1 X0.out.2.lt)
  have Z1 := Lib.hid (show w.heap.size + 1 ≤ w1.heap.size from by rw [← Z0.out]; exact c1.size)
  clear c1
  by_cases z : er = 0
  · subst z
    obtain ⟨ok1, ok2, ok3, ok4⟩ := odd_ok HER.out
    have HI := Lib.hid ok3
    obtain ⟨m, hm⟩ : ∃ m : Nat, cells = (m : Int) := ⟨cells.toNat, by omega⟩
    subst hm
    have m512 : m ≤ 512 := by omega
    have n48 : n ≤ 2048 := by rw [← HL.out]; exact ok4
    have MK := fun W => make_is0 W m (by omega)
    obtain ⟨w2, hw2⟩ : ∃ w2, (w1.alloc (.cells (madeCells #[.int .i64 0] m) 3)).alloc (.cells #[.slice none 0 0, .int .i64 0, .int .i64 0] 44) = w2 := ⟨_, rfl⟩
    have Q2 := Lib.hid (show RQ w1 w2 w1.heap.size (w1.heap.size + 1) (List.replicate m 0) (.slice none 0 0) [] by
      subst hw2
      refine ⟨((Below.refl _ _).alloc (Nat.le_refl _) _).alloc (by simp) _, ?_, by omega, Nat.le_refl _, ?_, World.ownsRow_nil _ _ _ _⟩
      · have := Bk.new (w1.alloc (.cells (madeCells #[.int .i64 0] m) 3)) #[.slice none 0 0, .int .i64 0, .int .i64 0] 44
        rw [World.size_alloc] at this
        exact this
      · refine ⟨_, (Bk.new w1 _ _).alloc _, by simp [madeCells], fun i hi => ?_⟩
        have hi' : i < m := by simpa using hi
        simp [madeCells, List.getD, hi', Nat.mod_one])
    have HW2 := Lib.hid hw2
    have OUT := Lib.hid (show outR (Rws rs) al (m : Int) = playR (Rws rs) al (List.replicate m 0) from by unfold outR; rw [HER.out, if_pos rfl]; simp)
    have PS0 := Lib.hid (PS.new (R := Rws rs) (al := al) (C0 := List.replicate m 0) (fun x hx => by rw [List.eq_of_mem_replicate hx]; exact zero_inR))
    -- the way out: the outcome is laid into the result
    have WAY := Lib.hid (show ∀ (u : World) (x : Value) (F : List Fl) (f d : Int), Below w1.heap.size w1 u → u.ownsRow w1.heap.size 51 3 x F.length (fcs F) → outR (Rws rs) al (m : Int) = (F, f, d) →
        PlE w.heap.size (outR (Rws rs) al (m : Int)) (oddR al (m : Int)) (.returned (.tuple #[.agg #[x, .int .i64 f, .int .i64 d], .int .i64 0])) (((u.setCell ⟨w.heap.size, 0, none⟩ x).setCell ⟨w.heap.size, 1, none⟩ (.int .i64 f)).setCell ⟨w.heap.size, 2, none⟩ (.int .i64 d)) ∧ Below w.heap.size w (((u.setCell ⟨w.heap.size, 0, none⟩ x).setCell ⟨w.heap.size, 1, none⟩ (.int .i64 f)).setCell ⟨w.heap.size, 2, none⟩ (.int .i64 d)) from fun u x F f d hb ho he => by
      refine ⟨⟨x, by rw [he, HER.out], ?_⟩, ?_⟩
      · rw [he]
        refine own_keep (own_mono ho (by have := Z1.out; omega)) (fun k hk => ?_)
        have := (ho.lt k hk).1
        have := Z1.out
        rw [heap_set_other _ _ _ _ _ (by omega), heap_set_other _ _ _ _ _ (by omega), heap_set_other _ _ _ _ _ (by omega)]
      · have B := B1.out.trans (hb.mono (by have := Z1.out; omega))
        exact ((B.setCell (p := ⟨w.heap.size, 0, none⟩) (Nat.le_refl _) _).setCell (p := ⟨w.heap.size, 1, none⟩) (Nat.le_refl _) _).setCell (p := ⟨w.heap.size, 2, none⟩) (Nat.le_refl _) _)
    clear hw2 ok1 ok2 ok3 ok4
    go_wp2
    rw [HW2.out]
    clear HW2 MK
    go_loopw [11] (fun t wr => ∃ (i : Nat) (C' : List Int) (fv : Value) (F : List Fl), i ≤ n ∧ t = .int .i64 i ∧ RQ w1 wr w1.heap.size (w1.heap.size + 1) C' fv F ∧ RowKit.Hid (PS (Rws rs) al (List.replicate m 0) i C' F)) (fun t _ => n - (intOf t).toNat)
    case atStart => exact ⟨0, _, _, _, by omega, rfl, Q2.out, PS0.out⟩
    case round =>
      clear Q2 PS0
      obtain ⟨i, C', fv, F, hi, rfl, hQ, HPS⟩ := hrel
      have QQ := Lib.hid hQ
      clear hQ
      have BWR := Lib.hid (B1.out.trans (QQ.out.bel.mono (by have := Z1.out; omega)))
      by_cases il : i < n
      · have ic : (i : Int) < (n : Int) := by omega
        have il' : i < al.length := by rw [HL.out]; exact il
        obtain ⟨b, o, hpa, hb, hat⟩ := HA.out.at (by omega)
        subst hpa
        obtain ⟨hav, hac0⟩ := hat i il'
        have hac := hac0.later BWR.out hb
        obtain ⟨x0, x1, x2, x3, x4, x5, hx, k3, k4, k5, k6⟩ := hac.nine hav
        have k0 := hac.day
        have k1 := hac.kind
        have k2 := hac.ss
        have k7 := hac.cur
        have k8 := hac.cell
        have hia : isA (al.getD i default) (m : Int) := HI.out _ (by rw [show al.getD i default = al[i] by simp [List.getD, il']]; exact List.getElem_mem il')
        have PSS := Lib.hid HPS.out
        have FLT := Lib.hid (show ¬ (doneR (Rws rs) C' (al.getD i default)).2.2 = 0 → playR (Rws rs) al (List.replicate m 0) = (F, (doneR (Rws rs) C' (al.getD i default)).2.2, (al.getD i default).day) from fun z => PSS.out.fault il' z)
        have SKP := Lib.hid (fun z1 z2 => PSS.out.skip il' z1 z2)
        have FLO := Lib.hid (fun z1 z2 z3 => PSS.out.flow il' z1 z2 z3)
        have VIN := Lib.hid (show inR (doneR (Rws rs) C' (al.getD i default)).1 from by
          have q := turnR_in (R := Rws rs) (C := C') (al.getD i default).ss ((al.getD i default).e.val (Rws rs) C') (val_in hav.2.2.2.1 (Rws rs) C' HRI.out PSS.out.bd)
          unfold doneR
          split
          · exact zero_inR
          · split
            · exact zero_inR
            · split
              · exact zero_inR
              · exact q)
        have STS := Lib.hid (fun z1 z2 z3 => PSS.out.sets il' z1 z2 z3 VIN.out)
        have CL := Lib.hid (show C'.length = m from by rw [PSS.out.len]; simp)
        have CBD := Lib.hid PSS.out.bd
        have FLN := Lib.hid PSS.out.fl
        have HAV := Lib.hid hav
        have HXX := Lib.hid hx
        generalize al.getD i default = a at *
        obtain ⟨w3, hw3⟩ : ∃ w3, wr.alloc (.cells #[.int .i64 a.day, .int .i64 a.kind, .slice a.sa a.ss.length a.sc, .int .i64 x0, .int .i64 x1, .int .i64 x2, .slice x3 x4 x5, .string a.cur, .int .i64 a.cell] 71) = w3 := ⟨_, rfl⟩
        have X3 := Lib.hid (NB.is hw3)
        have HW3 := Lib.hid hw3
        have Q3 := Lib.hid (QQ.out.later X3.out.1)
        have B3 := Lib.hid (BWR.out.trans (X3.out.1.mono BWR.out.size))
        have KD := Lib.hid (rdone_any (ra := ra) (rn := rn) (rc := rc) (ca := some ⟨w1.heap.size, 0, none⟩) (cn := C'.length) (cc := C'.length) hav B3.out (HR.out.later B3.out) (Q3.out.c.il (by rw [CL.out]; omega) CBD.out) (fun j hj => kind_at hia.1 j hj))
        have acs : a.cs = [.int .i64 a.day, .int .i64 a.kind, .slice a.sa a.ss.length a.sc, .int .i64 x0, .int .i64 x1, .int .i64 x2, .slice x3 x4 x5, .string a.cur, .int .i64 a.cell] := by unfold At.cs; rw [hx]; rfl
        rw [acs, CL.out] at KD
        have q0 := X3.out.2.cell 0
        have q1 := X3.out.2.cell 1
        have q2 := X3.out.2.cell 2
        have q3 := X3.out.2.cell 3
        have q4 := X3.out.2.cell 4
        have q5 := X3.out.2.cell 5
        have q6 := X3.out.2.cell 6
        have q7 := X3.out.2.cell 7
        have q8 := X3.out.2.cell 8
        simp at q0 q1 q2 q3 q4 q5 q6 q7 q8
        have HIA := Lib.hid hia
        clear hat hac hac0 hav hx hw3 acs hia
        go_wp2_with fail
        rw [HW3.out]
        go_wp2_with fail
        clear k0 k1 k2 k3 k4 k5 k6 k7 k8 HW3
        go_at_call 35
        refine KD.out.mono ?_
        rintro e w4 ⟨⟨v, rfl, hv⟩, b4⟩
        have Q4 := Lib.hid (Q3.out.later b4)
        have X4 := Lib.hid (X3.out.2.below b4 X3.out.2.lt)
        have B4 := Lib.hid (B3.out.trans (b4.mono B3.out.size))
        have HVV := Lib.hid hv
        have r0 := X4.out.cell 0
        have r1 := X4.out.cell 1
        have r7 := X4.out.cell 7
        have r8 := X4.out.cell 8
        simp at r0 r1 r7 r8
        obtain ⟨⟨dv, dc, df⟩, hdd⟩ : ∃ r, doneR (Rws rs) C' a = r := ⟨_, rfl⟩
        rw [hdd] at FLT SKP FLO STS HVV VIN ⊢
        have BXR := Lib.hid (show Bk w4 w.heap.size #[.slice none 0 0, .int .i64 0, .int .i64 0] 44 from BX.out.below Q4.out.bel (by have := Z1.out; omega))
        clear b4 hv hdd q0 q1 q2 q3 q4 q5 q6 q7 q8
        have OL := Lib.hid (show w1.heap.size + 1 < wr.heap.size from QQ.out.o.lt)
        have ne1 : ¬ wr.heap.size = w1.heap.size + 1 := by have := OL.out; omega
        have ne2 : ¬ w1.heap.size + 1 = wr.heap.size := by have := OL.out; omega
        have ne3 : ¬ w.heap.size = w1.heap.size + 1 := by have := Z1.out; omega
        have ne4 : ¬ w1.heap.size + 1 = w.heap.size := by have := Z1.out; omega
        obtain ⟨fa, fc, hfv⟩ := own_sl Q4.out.fo
        subst hfv
        have o0 := Q4.out.o.cell 0
        have o1 := Q4.out.o.cell 1
        have o2 := Q4.out.o.cell 2
        have p0 := Q4.out.o.frozen 0
        have p1 := Q4.out.o.frozen 1
        have p2 := Q4.out.o.frozen 2
        simp at o0 o1 o2
        by_cases zf : df = 0
        · subst zf
          cases dc with
          | false =>
            have NX := Lib.hid (SKP.out rfl rfl)
            go_wp2
            go_roundw
            case rel => exact ⟨i + 1, C', _, F, by omega, by go_num, Q4.out, NX.out⟩
            case measure => simp [intOf]; omega
          | true =>
            have hvv := HVV.out rfl
            simp only at hvv
            subst hvv
            rcases HIA.out.2 with ⟨hk, _⟩ | ⟨hk, hc0, hc1⟩
            · rw [hk] at r1
              have XK := X4
              rw [hk] at XK
              have NX := Lib.hid (FLO.out rfl rfl hk)
              have fln := FLN.out
              clear hk
              go_wp2_with (at_builtin; refine wp_flow _ a.day v a.cur rfl _ _ rfl w1.heap.size _ F rfl rfl Q4.out.fo (by omega) Q4.out.bel.size ?_; intro v' w7 h1 h2; have O7 := Lib.hid h1; have G7 := Lib.hid h2; have QA := Lib.hid (Q4.out.later ((Below.refl _ w4).alloc (Nat.le_refl _) (.cells #[.int .i64 a.day, .string a.cur, .int .i64 v] 51))); have x7 := (QA.out.o.grown h2 QA.out.ne1).cell 0; have f7 := (QA.out.o.grown h2 QA.out.ne1).frozen 0; simp at x7; have XA := Lib.hid (show Bk w7 wr.heap.size #[.int .i64 a.day, .int .i64 1, .slice a.sa a.ss.length a.sc, .int .i64 x0, .int .i64 x1, .int .i64 x2, .slice x3 x4 x5, .string a.cur, .int .i64 a.cell] 71 from (XK.out.alloc _).grown h2 (own_ne (XK.out.alloc (.cells #[.int .i64 a.day, .string a.cur, .int .i64 v] 51)) QA.out.fo (by decide))); have y1 := XA.out.cell 1; simp at y1; obtain ⟨va, vc, hva⟩ := own_sl h1; subst hva; clear h1 h2)
              go_roundw
              case rel => exact ⟨i + 1, C', _, _, by omega, by go_num, QA.out.flow (f := ⟨a.day, a.cur, v⟩) G7.out (by have q := O7.out; simp only [List.length_append, List.length_cons, List.length_nil, Nat.zero_add] at q ⊢; exact q), NX.out⟩
              case measure => simp [intOf]; omega
            · obtain ⟨ci, hci⟩ : ∃ x : Nat, a.cell = (x : Int) := ⟨a.cell.toNat, by omega⟩
              have NX := Lib.hid (STS.out rfl rfl (by rw [hk]; decide))
              rw [hk] at r1
              rw [hci] at r8 hc1 NX
              rw [Int.toNat_natCast] at NX
              have cl : ci < C'.length := by rw [CL.out]; omega
              have cm : (ci : Int) < (m : Int) := by omega
              obtain ⟨cur, c1, c2, c3⟩ := Q4.out.c
              obtain ⟨yy, x7⟩ := c1.some1 ci (by omega)
              have f7 := c1.frozen ci
              clear hk hci hc0 c1 c2 c3
              go_wp2
              go_roundw
              case rel => exact ⟨i + 1, _, _, F, by omega, by go_num, Q4.out.cell ci cl v, NX.out⟩
              case measure => simp [intOf]; omega
        · have FF := Lib.hid (FLT.out zf)
          have zn : (df != 0) = true := by simpa using zf
          have b0 := BXR.out.cell 0
          have b1 := BXR.out.cell 1
          have b2 := BXR.out.cell 2
          have g0 := BXR.out.frozen 0
          have g1 := BXR.out.frozen 1
          have g2 := BXR.out.frozen 2
          simp at b0 b1 b2
          have SET := Lib.hid (((((BXR.out.other (w1.heap.size + 1) 1 (.int .i64 df) ne4).other (w1.heap.size + 1) 2 (.int .i64 a.day) ne4).set 0 (.slice fa F.length fc) (by simp)).set 1 (.int .i64 df) (by simp)).set 2 (.int .i64 a.day) (by simp))
          have FIN := Lib.hid (WAY.out ((w4.setCell ⟨w1.heap.size + 1, 1, none⟩ (.int .i64 df)).setCell ⟨w1.heap.size + 1, 2, none⟩ (.int .i64 a.day)) (.slice fa F.length fc) F df a.day
            ((Q4.out.bel.setCell (p := ⟨w1.heap.size + 1, 1, none⟩) Q4.out.olo _).setCell (p := ⟨w1.heap.size + 1, 2, none⟩) Q4.out.olo _)
            (own_keep Q4.out.fo (fun k hk => by
              have hne : w1.heap.size + 1 ≠ k := fun e => Q4.out.ne1 (by rw [e]; exact hk.symm)
              rw [heap_set_other _ _ _ _ _ hne, heap_set_other _ _ _ _ _ hne])) (by rw [OUT.out, FF.out]))
          go_wp2
          have k0 := SET.out.cell 0
          have k1 := SET.out.cell 1
          have k2 := SET.out.cell 2
          simp only [Array.getElem?_set, List.getElem?_toArray] at k0 k1 k2
          refine bodyPost_ret (v := .tuple #[.agg #[.slice fa F.length fc, .int .i64 df, .int .i64 a.day], .int .i64 0]) (by simp [results, Try.results18, go_sem, k0, k1, k2]) rfl ?_
          exact FIN.out
      · obtain rfl : i = n := by omega
        have FZ := Lib.hid (show playR (Rws rs) al (List.replicate m 0) = (F, 0, 0) from by
          rw [HPS.out.is, List.drop_eq_nil_of_le (by rw [HL.out]; exact Nat.le_refl _)]; simp [playR])
        obtain ⟨fa, fc, hfv⟩ := own_sl QQ.out.fo
        subst hfv
        have ne3 : ¬ w.heap.size = w1.heap.size + 1 := by have := Z1.out; omega
        have ne4 : ¬ w1.heap.size + 1 = w.heap.size := by have := Z1.out; omega
        have o0 := QQ.out.o.cell 0
        have o1 := QQ.out.o.cell 1
        have o2 := QQ.out.o.cell 2
        simp at o0 o1 o2
        have BXR := Lib.hid (show Bk wr w.heap.size #[.slice none 0 0, .int .i64 0, .int .i64 0] 44 from BX.out.below QQ.out.bel (by have := Z1.out; omega))
        have b0 := BXR.out.cell 0
        have b1 := BXR.out.cell 1
        have b2 := BXR.out.cell 2
        have g0 := BXR.out.frozen 0
        have g1 := BXR.out.frozen 1
        have g2 := BXR.out.frozen 2
        simp at b0 b1 b2
        have SET := Lib.hid (((BXR.out.set 0 (.slice fa F.length fc) (by simp)).set 1 (.int .i64 0) (by simp)).set 2 (.int .i64 0) (by simp))
        have FIN := Lib.hid (WAY.out wr (.slice fa F.length fc) F 0 0 QQ.out.bel QQ.out.fo (by rw [OUT.out, FZ.out]))
        go_wp2
        have k0 := SET.out.cell 0
        have k1 := SET.out.cell 1
        have k2 := SET.out.cell 2
        simp only [Array.getElem?_set, List.getElem?_toArray] at k0 k1 k2
        refine bodyPost_ret (v := .tuple #[.agg #[.slice fa F.length fc, .int .i64 0, .int .i64 0], .int .i64 0]) (by simp [results, Try.results18, go_sem, k0, k1, k2]) rfl ?_
        exact FIN.out
  · have OUT := Lib.hid (show outR (Rws rs) al cells = ([], 0, 0) from by unfold outR; rw [HER.out, if_neg z])
    have zn : (er != 0) = true := by simpa using z
    have b0 := BX.out.cell 0
    have b1 := BX.out.cell 1
    have b2 := BX.out.cell 2
    have g0 := BX.out.frozen 0
    have g1 := BX.out.frozen 1
    have g2 := BX.out.frozen 2
    simp at b0 b1 b2
    have SET := Lib.hid (((BX.out.set 0 (.slice none 0 0) (by simp)).set 1 (.int .i64 0) (by simp)).set 2 (.int .i64 0) (by simp))
    go_wp2
    have k0 := SET.out.cell 0
    have k1 := SET.out.cell 1
    have k2 := SET.out.cell 2
    simp only [Array.getElem?_set, List.getElem?_toArray] at k0 k1 k2
    refine bodyPost_ret (v := .tuple #[.agg #[.slice none 0 0, .int .i64 0, .int .i64 0], .int .i64 er]) (by simp [results, Try.results18, go_sem, k0, k1, k2]) rfl ?_
    refine ⟨⟨_, by rw [OUT.out, HER.out], ?_⟩, ?_⟩
    · rw [OUT.out]; exact World.ownsRow_nil _ _ _ _
    · exact ((B1.out.setCell (p := ⟨w.heap.size, 0, none⟩) (Nat.le_refl _) _).setCell (p := ⟨w.heap.size, 1, none⟩) (Nat.le_refl _) _).setCell (p := ⟨w.heap.size, 2, none⟩) (Nat.le_refl _) _
end Go.Proofs.Ytjlnbhmiahegmaa
