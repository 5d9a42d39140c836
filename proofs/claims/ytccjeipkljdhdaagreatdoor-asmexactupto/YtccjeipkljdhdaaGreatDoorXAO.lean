import Derived.Test.YtccjeipkljdhdaaGreatDoorXAN
import Derived.Deep.RegionHeld3
namespace Go.Proofs.YtccjeipkljdhdaaGreatDoor
open Go.RowKit
set_option linter.unusedVariables false
set_option linter.unusedSimpArgs false

theorem row_inA {k : Nat} (hk : k < 29) : RowE k (nmA k) (onA k) (tkA k) (ptA k) (baA k) (bbA k) 0 := ⟨.inl ⟨k, hk, rfl, rfl, rfl, rfl, rfl, rfl, rfl, rfl⟩⟩
theorem nm29 : nmL.length = 29 := rfl
theorem nm_get (k : Nat) (hk : k < 29) : nmL[k]'(by rw [nm29]; exact hk) = nmA k := by
  unfold nmA
  rw [List.getD_eq_getElem?_getD, List.getElem?_eq_getElem (by rw [nm29]; exact hk), Option.getD_some]
/-- Find, and the place of a word. -/
theorem fnE_plc (s : ByteArray) : (∃ k : Nat, k < 29 ∧ plcW nmL s = some (k : Int) ∧ FnE s (k : Int) 0) ∨ (plcW nmL s = none ∧ FnE s 0 111) := by
  by_cases h : ∃ k : Nat, k < 29 ∧ nmA k = s
  · obtain ⟨k, hk, e⟩ := h
    refine .inl ⟨k, hk, plc_at (by rw [nm29]; exact hk) ((nm_get k hk).trans e) (fun j hj => ?_), .inl ⟨k, hk, e, rfl, rfl⟩⟩
    rw [nm_get j (by omega)]
    intro q
    exact absurd (nm_one (by omega) hk (q.trans e.symm)) (by omega)
  · refine .inr ⟨plc_not (fun j hj => ?_), .inr ⟨fun k hk e => h ⟨k, hk, e⟩, rfl, rfl⟩⟩
    rw [nm29] at hj
    rw [nm_get j hj]
    exact fun q => h ⟨j, hj, q⟩
/-- An instruction's box. -/
theorem box3 {w W : World} {o a b : Int} (h : Below (w.alloc (.cells #[.int .i64 o, .int .i64 a, .int .i64 b] 42)).heap.size (w.alloc (.cells #[.int .i64 o, .int .i64 a, .int .i64 b] 42)) W) : W.cell? ⟨w.heap.size, 0, none⟩ = some (.int .i64 o) ∧ W.cell? ⟨w.heap.size, 1, none⟩ = some (.int .i64 a) ∧ W.cell? ⟨w.heap.size, 2, none⟩ = some (.int .i64 b) ∧ W.frozen? ⟨w.heap.size, 0, none⟩ = false ∧ W.frozen? ⟨w.heap.size, 1, none⟩ = false ∧ W.frozen? ⟨w.heap.size, 2, none⟩ = false := by
  have e : W.heap[w.heap.size]? = some (.cells #[.int .i64 o, .int .i64 a, .int .i64 b] 42 (0, 0)) := (h.block w.heap.size (by simp)).trans (by show (w.heap.push _)[w.heap.size]? = _; simp)
  refine ⟨?_, ?_, ?_, ?_, ?_, ?_⟩ <;> simp [World.cell?, World.frozen?, e]
theorem box_far {W : World} {a b : Nat} (ne : b ≠ a) {u v x p q r : Value} (h : W.cell? ⟨b, 0, none⟩ = some p ∧ W.cell? ⟨b, 1, none⟩ = some q ∧ W.cell? ⟨b, 2, none⟩ = some r) :
    (((W.setCell ⟨a, 0, none⟩ u).setCell ⟨a, 1, none⟩ v).setCell ⟨a, 2, none⟩ x).cell? ⟨b, 0, none⟩ = some p ∧ (((W.setCell ⟨a, 0, none⟩ u).setCell ⟨a, 1, none⟩ v).setCell ⟨a, 2, none⟩ x).cell? ⟨b, 1, none⟩ = some q ∧ (((W.setCell ⟨a, 0, none⟩ u).setCell ⟨a, 1, none⟩ v).setCell ⟨a, 2, none⟩ x).cell? ⟨b, 2, none⟩ = some r := by
  have s : ∀ (X : World) (i j : Nat) (y : Value), (X.setCell ⟨a, i, none⟩ y).cell? ⟨b, j, none⟩ = X.cell? ⟨b, j, none⟩ := fun X i j y => World.cell?_setCell_other _ _ _ _ (by first | (simp; done) | (simp; omega) | exact ne | exact ne.symm)
  rw [s, s, s, s, s, s, s, s, s]
  exact h
theorem box_put1 {W : World} {b : Nat} {p q r y : Value} (h : W.cell? ⟨b, 0, none⟩ = some p ∧ W.cell? ⟨b, 1, none⟩ = some q ∧ W.cell? ⟨b, 2, none⟩ = some r) :
    (W.setCell ⟨b, 1, none⟩ y).cell? ⟨b, 0, none⟩ = some p ∧ (W.setCell ⟨b, 1, none⟩ y).cell? ⟨b, 1, none⟩ = some y ∧ (W.setCell ⟨b, 1, none⟩ y).cell? ⟨b, 2, none⟩ = some r :=
  ⟨(World.cell?_setCell_other _ _ _ _ (by simp)).trans h.1, World.cell?_setCell_same _ _ _ h.2.1, (World.cell?_setCell_other _ _ _ _ (by simp)).trans h.2.2⟩
theorem box_put2 {W : World} {b : Nat} {p q r y : Value} (h : W.cell? ⟨b, 0, none⟩ = some p ∧ W.cell? ⟨b, 1, none⟩ = some q ∧ W.cell? ⟨b, 2, none⟩ = some r) :
    (W.setCell ⟨b, 2, none⟩ y).cell? ⟨b, 0, none⟩ = some p ∧ (W.setCell ⟨b, 2, none⟩ y).cell? ⟨b, 1, none⟩ = some q ∧ (W.setCell ⟨b, 2, none⟩ y).cell? ⟨b, 2, none⟩ = some y :=
  ⟨(World.cell?_setCell_other _ _ _ _ (by simp)).trans h.1, (World.cell?_setCell_other _ _ _ _ (by simp)).trans h.2.1, World.cell?_setCell_same _ _ _ h.2.2⟩
/-- An instruction or none. -/
def OiE (w : World) (o : Option In) (e : Ending) (w' : World) : Prop := (∃ i : In, e = .returned (.tuple #[.agg #[.int .i64 i.o, .int .i64 i.a, .int .i64 i.b], .bool o.isSome]) ∧ ∀ j, o = some j → i = j) ∧ Below w.heap.size w w'
theorem OiE.none {w w' : World} {o a b : Int} (h : Below w.heap.size w w') : OiE w none (.returned (.tuple #[.agg #[.int .i64 o, .int .i64 a, .int .i64 b], .bool false])) w' := ⟨⟨⟨o, a, b⟩, rfl, fun j e => by cases e⟩, h⟩
set_option maxRecDepth 100000 in
set_option maxHeartbeats 8000000 in
theorem instrOf_any (rb n c : Nat) (x : Addr) (w0 : ByteArray) (ws : List ByteArray) (p : Ap) (nm um pm : Value) (w : World) (h : SR w (some x) n c (w0 :: ws)) (hz : ∀ s ∈ w0 :: ws, s.size ≤ 16777216) (hR : Rws w) (hM : Mds w) (ht : Pows w) (hE : Ev w)
    (hn : w.cell? ⟨rb, 11, none⟩ = some nm) (hu : w.cell? ⟨rb, 12, none⟩ = some um) (hp : w.cell? ⟨rb, 13, none⟩ = some pm) (qn : MpqS w nm (plcW p.ns)) (qu : MpqS w um (plcW p.cs)) (qp : MpqZ w pm (plcW p.pl)) (hrb : rb < w.heap.size) :
    Calls Tryz.prog 95 #[.pointer (some ⟨rb, 0, none⟩), .slice (some x) n c] w fun e w' => OiE w (insW p w0 ws) e w' := by
  obtain ⟨hd, l1, b1, s1, r1⟩ := h
  have nl : n = ws.length + 1 := by rw [← l1]; rfl
  have n0 : 0 < n := by omega
  obtain ⟨xb, xo, e, hx, hc⟩ := r1.oneP n0
  injection e with e
  subst e
  have CW := Lib.hid (fun W (b : Below w.heap.size w W) (i : Nat) (hi : i < n) => (show W.cell? ⟨xb, xo + i, none⟩ = some (.string ((w0 :: ws).getD i default)) from by
    have c0 := hc i hi 0 (by omega)
    simp only [Nat.mul_one, Nat.add_zero, List.getD_cons_zero] at c0
    exact (b.cell (p := ⟨xb, xo + i, none⟩) hx).trans c0))
  have c0 : w.cell? ⟨xb, xo, none⟩ = some (.string w0) := by have := CW.out w (Below.refl _ _) 0 n0; simpa using this
  have KO := Lib.hid (fun (k : Nat) (hk : k < 29) W (b : Below w.heap.size w W) => operands_any (row_inA hk) W (hR.below b))
  have KV := Lib.hid (fun (o a b : Int) W (q : Below w.heap.size w W) => valid_any o a b W (hR.below q))
  have KP := Lib.hid (fun (k : Nat) (s : ByteArray) (hs : s.size ≤ 16777216) W (b : Below w.heap.size w W) => operandOf_any rb k s p nm um pm W hs (hM.later b) (pows_below ht b) (ev_below hE b) ((b.cell (p := ⟨rb, 11, none⟩) hrb).trans hn) ((b.cell (p := ⟨rb, 12, none⟩) hrb).trans hu) ((b.cell (p := ⟨rb, 13, none⟩) hrb).trans hp) (qn.later b) (qu.later b) (qp.later b) (Nat.lt_of_lt_of_le hrb b.size))
  have KN := Lib.hid (fun (s : ByteArray) (hs : s.size ≤ 16777216) W (b : Below w.heap.size w W) => numberOf_any s hs W (pows_below ht b) (ev_below hE b))
  have HZ := Lib.hid hz
  have A0 := Lib.hid (allocBP w (.cells #[.int .i64 0, .int .i64 0, .int .i64 0] 42))
  have CB := Lib.hid (fun W (b : Below (w.alloc (.cells #[.int .i64 0, .int .i64 0, .int .i64 0] 42)).heap.size (w.alloc (.cells #[.int .i64 0, .int .i64 0, .int .i64 0] 42)) W) => box3 b)
  rcases fnE_plc w0 with ⟨k, hk, hpl, hF⟩ | ⟨hpl, hF⟩
  · have KF := Lib.hid (fun W (b : Below w.heap.size w W) => find_any w0 k 0 hF W (hR.below b))
    have e0 : insW p w0 ws = insK p k ws := by unfold insW; rw [hpl]; rfl
    rw [e0]
    have on2 := (tab_facts k hk).1
    obtain ⟨ON, hON⟩ : ∃ m, onA k = m := ⟨_, rfl⟩
    rw [hON] at on2
    have KO := Lib.hid (fun W (b : Below w.heap.size w W) => KO.out k hk W b)
    rw [hON] at KO
    unfold insK
    rw [hON]
    have kon : IntKind.i64.wrap (1 + (ON : Int)) = 1 + (ON : Int) := by simp [IntKind.wrap, IntKind.bits, IntKind.signed]; omega
    clear r1 hc hd s1 hz hR hM ht hE hn hu hp qn qu qp hpl hF e0 hON
    by_cases q : ws.length = ON
    · rw [if_pos q]
      have q1 : ((n : Int) != 1 + (ON : Int)) = false := by simp; omega
      have LS0 := Lib.hid (fun (W : World) => (show W.heap.size < (W.alloc (.cells #[.int .i64 (k : Int), .int .i64 0, .int .i64 0] 42)).heap.size from by simp))
      rcases (show ON = 0 ∨ ON = 1 ∨ ON = 2 by omega) with rfl | rfl | rfl
      · have e1 : ((if (0 : Nat) = 0 then some 0 else opdW p k (ws.getD 0 ⟨#[]⟩)).bind fun a => (if (0 : Nat) ≤ 1 then some 0 else numW (ws.getD 1 ⟨#[]⟩)).bind fun b => if (In.mk k a b).okP then some (In.mk k a b) else none) = if (In.mk k 0 0).okP then some (In.mk k 0 0) else none := by simp
        rw [e1]
        clear e1
        obtain ⟨RES, hRES⟩ : ∃ R, (if (In.mk k 0 0).okP then some (In.mk k 0 0) else none) = R := ⟨_, rfl⟩
        obtain ⟨V, hV⟩ : ∃ V, okV ⟨(k : Int), 0, 0⟩ = V := ⟨_, rfl⟩
        have HI := Lib.hid (p := RES.isSome = (V == 0)) (by
          rw [← hRES, ← hV]
          unfold okV
          split <;> simp)
        have HJ := Lib.hid (p := ∀ j, RES = some j → In.mk k 0 0 = j) (fun j e => by
          rw [← hRES] at e
          split at e
          · injection e
          · cases e)
        rw [hRES]
        clear hRES
        go_enter Tryz.func95, Tryz.ntmps95
        go_upto_region 12 with (first
          | (go_at_call 115; refine (KF.out _ A0.out).mono ?_; rintro e w2 ⟨rfl, h2⟩; have B2 := Lib.hid (A0.out.trans (h2.mono A0.out.size)); have X2 := Lib.hid h2; clear h2)
          | (go_at_call 51; refine (KO.out _ B2.out).mono ?_; rintro e w3 ⟨rfl, h2⟩; have B3 := Lib.hid (B2.out.trans (h2.mono B2.out.size)); have X3 := Lib.hid (X2.out.trans (h2.mono X2.out.size)); clear h2))
        have LS := Lib.hid (LS0.out w3)
        have CB2 := Lib.hid (box3 (Below.refl _ (w3.alloc (.cells #[.int .i64 (k : Int), .int .i64 0, .int .i64 0] 42))))
        have A4 := Lib.hid (allocBP w3 (.cells #[.int .i64 (k : Int), .int .i64 0, .int .i64 0] 42))
        obtain ⟨wS, hwS⟩ : ∃ y, w3.alloc (.cells #[.int .i64 (k : Int), .int .i64 0, .int .i64 0] 42) = y := ⟨_, rfl⟩
        rw [hwS] at CB2 A4 LS
        rw [hwS]
        clear hwS
        have XS := Lib.hid (X3.out.trans (A4.out.mono X3.out.size))
        have BS := Lib.hid (B3.out.trans (A4.out.mono B3.out.size))
        obtain ⟨d0, d1, d2, _, _, _⟩ := CB2.out
        have NE := Lib.hid (p := w3.heap.size ≠ w.heap.size) (by have := X3.out.size; simp at this; omega)
        have D9 := Lib.hid (p := Below wS.heap.size wS wS.drew) (Below.refl _ wS).drew
        have KV1 := Lib.hid (KV.out (k : Int) 0 0 wS.drew (BS.out.trans (D9.out.mono BS.out.size)))
        rw [hV] at KV1
        have DS := Lib.hid (And.intro d0 (And.intro d1 d2))
        go_region_held3 (fun w' => w'.cell? ⟨w3.heap.size, 0, none⟩ = some (.int .i64 (k : Int)) ∧ w'.cell? ⟨w3.heap.size, 1, none⟩ = some (.int .i64 0) ∧ w'.cell? ⟨w3.heap.size, 2, none⟩ = some (.int .i64 0)) (first | exact ⟨d0, d1, d2⟩ | exact F5.out | exact box_far NE.out F5.out) (first
          | (go_at_call 23; refine KV1.out.mono ?_; rintro e w9 ⟨rfl, h2⟩; have B9 := Lib.hid (D9.out.trans (h2.mono D9.out.size)); have F5 := Lib.hid (p := w9.cell? ⟨w3.heap.size, 0, none⟩ = some (.int .i64 (k : Int)) ∧ w9.cell? ⟨w3.heap.size, 1, none⟩ = some (.int .i64 0) ∧ w9.cell? ⟨w3.heap.size, 2, none⟩ = some (.int .i64 0)) ⟨(B9.out.cell (p := ⟨w3.heap.size, 0, none⟩) LS.out).trans DS.out.1, (B9.out.cell (p := ⟨w3.heap.size, 1, none⟩) LS.out).trans DS.out.2.1, (B9.out.cell (p := ⟨w3.heap.size, 2, none⟩) LS.out).trans DS.out.2.2⟩; obtain ⟨y0, y1, y2, z0, z1, z2⟩ := CB.out _ (XS.out.trans (B9.out.mono XS.out.size)); clear h2))
        go_wp2
        refine bodyPost_ret (v := .tuple #[.agg #[.int .i64 (k : Int), .int .i64 0, .int .i64 0], .bool (V == 0)]) (by simp [results, Tryz.results95, go_sem, y0, y1, y2]) rfl ?_
        have BF := ((((BS.out.trans (B9.out.mono BS.out.size)).setCell (p := ⟨w.heap.size, 0, none⟩) (by simp) (.int .i64 (k : Int))).setCell (p := ⟨w.heap.size, 1, none⟩) (by simp) (.int .i64 0)).setCell (p := ⟨w.heap.size, 2, none⟩) (by simp) (.int .i64 0))
        exact ⟨⟨⟨(k : Int), 0, 0⟩, by rw [HI.out], HJ.out⟩, BF⟩
      · obtain ⟨u1, rfl⟩ : ∃ u, ws = [u] := List.length_eq_one_iff.1 q
        have SZ1 := Lib.hid (HZ.out u1 (by simp))
        obtain ⟨OA, hOA⟩ : ∃ o, opdW p k u1 = o := ⟨_, rfl⟩
        have KP := Lib.hid (fun (kk : Nat) (s : ByteArray) (hs : s.size ≤ 16777216) W (b : Below w.heap.size w W) => KP.out kk s hs W b)
        have KP1 := Lib.hid (fun W (b : Below w.heap.size w W) => KP.out k u1 SZ1.out W b)
        rw [hOA] at KP1
        have e1 : ((if (1 : Nat) = 0 then some 0 else opdW p k ([u1].getD 0 ⟨#[]⟩)).bind fun a => (if (1 : Nat) ≤ 1 then some 0 else numW ([u1].getD 1 ⟨#[]⟩)).bind fun b => if (In.mk k a b).okP then some (In.mk k a b) else none) = OA.bind fun a => if (In.mk k a 0).okP then some (In.mk k a 0) else none := by simp [hOA]
        rw [e1]
        clear e1 hOA KP
        cases OA with
        | none =>
          show Calls _ _ _ _ (fun e w' => OiE w none e w')
          go_enter Tryz.func95, Tryz.ntmps95
          go_upto_region 12 with (first
            | (go_at_call 115; refine (KF.out _ A0.out).mono ?_; rintro e w2 ⟨rfl, h2⟩; have B2 := Lib.hid (A0.out.trans (h2.mono A0.out.size)); have X2 := Lib.hid h2; clear h2)
            | (go_at_call 51; refine (KO.out _ B2.out).mono ?_; rintro e w3 ⟨rfl, h2⟩; have B3 := Lib.hid (B2.out.trans (h2.mono B2.out.size)); have X3 := Lib.hid (X2.out.trans (h2.mono X2.out.size)); clear h2; have B4 := Lib.hid (B3.out.trans ((allocBP w3 (.cells #[.int .i64 (k : Int), .int .i64 0, .int .i64 0] 42)).mono B3.out.size)); have X4 := Lib.hid (X3.out.trans ((allocBP w3 (.cells #[.int .i64 (k : Int), .int .i64 0, .int .i64 0] 42)).mono X3.out.size)); have c1 := CW.out _ B4.out 1 (by omega); simp only [List.getD_cons_succ, List.getD_cons_zero] at c1)
            | (go_at_call 116; refine (KP1.out _ B4.out).mono ?_; rintro e w5 ⟨⟨ia, rfl, hia⟩, h5⟩; have B5 := Lib.hid (B4.out.trans (h5.mono B4.out.size)); have X5 := Lib.hid (X4.out.trans (h5.mono X4.out.size)); obtain ⟨g0, g1, g2, f0, f1, f2⟩ := box3 h5; have L5 := Lib.hid (Nat.lt_of_lt_of_le (LS0.out w3) h5.size); clear hia h5))
          have CB2 := Lib.hid (box_put1 (y := .int .i64 ia) ⟨g0, g1, g2⟩)
          have NE := Lib.hid (p := w3.heap.size ≠ w.heap.size) (by have := X3.out.size; simp at this; omega)
          have XS := Lib.hid (X5.out.setCell (p := ⟨w3.heap.size, 1, none⟩) X3.out.size (.int .i64 ia))
          have BS := Lib.hid (B5.out.setCell (p := ⟨w3.heap.size, 1, none⟩) B3.out.size (.int .i64 ia))
          have LS := Lib.hid (p := w3.heap.size < (w5.setCell ⟨w3.heap.size, 1, none⟩ (.int .i64 ia)).heap.size) (by have := L5.out; simp; omega)
          obtain ⟨wS, hwS⟩ : ∃ y, w5.setCell ⟨w3.heap.size, 1, none⟩ (.int .i64 ia) = y := ⟨_, rfl⟩
          rw [hwS] at CB2 XS BS LS
          rw [hwS]
          clear hwS g0 g1 g2 f0 f1 f2
          obtain ⟨d0, d1, d2⟩ := CB2.out
          obtain ⟨y0, y1, y2, z0, z1, z2⟩ := CB.out _ XS.out
          go_region
          all_goals
            go_wp2
            refine bodyPost_ret (v := .tuple #[.agg #[.int .i64 (k : Int), .int .i64 ia, .int .i64 0], .bool false]) (by simp [results, Tryz.results95, go_sem, y0, y1, y2]) rfl (OiE.none ?_)
            exact (((BS.out.drew.setCell (p := ⟨w.heap.size, 0, none⟩) (by simp) (.int .i64 (k : Int))).setCell (p := ⟨w.heap.size, 1, none⟩) (by simp) (.int .i64 ia)).setCell (p := ⟨w.heap.size, 2, none⟩) (by simp) (.int .i64 0))
        | some va =>
          show Calls _ _ _ _ (fun e w' => OiE w (if (In.mk k va 0).okP then some (In.mk k va 0) else none) e w')
          obtain ⟨RES, hRES⟩ : ∃ R, (if (In.mk k va 0).okP then some (In.mk k va 0) else none) = R := ⟨_, rfl⟩
          obtain ⟨V, hV⟩ : ∃ V, okV ⟨(k : Int), va, 0⟩ = V := ⟨_, rfl⟩
          have HI := Lib.hid (p := RES.isSome = (V == 0)) (by
            rw [← hRES, ← hV]
            unfold okV
            split <;> simp)
          have HJ := Lib.hid (p := ∀ j, RES = some j → In.mk k va 0 = j) (fun j e => by
            rw [← hRES] at e
            split at e
            · injection e
            · cases e)
          rw [hRES]
          clear hRES
          go_enter Tryz.func95, Tryz.ntmps95
          go_upto_region 12 with (first
            | (go_at_call 115; refine (KF.out _ A0.out).mono ?_; rintro e w2 ⟨rfl, h2⟩; have B2 := Lib.hid (A0.out.trans (h2.mono A0.out.size)); have X2 := Lib.hid h2; clear h2)
            | (go_at_call 51; refine (KO.out _ B2.out).mono ?_; rintro e w3 ⟨rfl, h2⟩; have B3 := Lib.hid (B2.out.trans (h2.mono B2.out.size)); have X3 := Lib.hid (X2.out.trans (h2.mono X2.out.size)); clear h2; have B4 := Lib.hid (B3.out.trans ((allocBP w3 (.cells #[.int .i64 (k : Int), .int .i64 0, .int .i64 0] 42)).mono B3.out.size)); have X4 := Lib.hid (X3.out.trans ((allocBP w3 (.cells #[.int .i64 (k : Int), .int .i64 0, .int .i64 0] 42)).mono X3.out.size)); have c1 := CW.out _ B4.out 1 (by omega); simp only [List.getD_cons_succ, List.getD_cons_zero] at c1)
            | (go_at_call 116; refine (KP1.out _ B4.out).mono ?_; rintro e w5 ⟨⟨ia, rfl, hia⟩, h5⟩; have B5 := Lib.hid (B4.out.trans (h5.mono B4.out.size)); have X5 := Lib.hid (X4.out.trans (h5.mono X4.out.size)); obtain ⟨g0, g1, g2, f0, f1, f2⟩ := box3 h5; obtain rfl := hia va rfl; have L5 := Lib.hid (Nat.lt_of_lt_of_le (LS0.out w3) h5.size); clear hia h5))
          have CB2 := Lib.hid (box_put1 (y := .int .i64 ia) ⟨g0, g1, g2⟩)
          have NE := Lib.hid (p := w3.heap.size ≠ w.heap.size) (by have := X3.out.size; simp at this; omega)
          have XS := Lib.hid (X5.out.setCell (p := ⟨w3.heap.size, 1, none⟩) X3.out.size (.int .i64 ia))
          have BS := Lib.hid (B5.out.setCell (p := ⟨w3.heap.size, 1, none⟩) B3.out.size (.int .i64 ia))
          have LS := Lib.hid (p := w3.heap.size < (w5.setCell ⟨w3.heap.size, 1, none⟩ (.int .i64 ia)).heap.size) (by have := L5.out; simp; omega)
          obtain ⟨wS, hwS⟩ : ∃ y, w5.setCell ⟨w3.heap.size, 1, none⟩ (.int .i64 ia) = y := ⟨_, rfl⟩
          rw [hwS] at CB2 XS BS LS
          rw [hwS]
          clear hwS g0 g1 g2 f0 f1 f2
          obtain ⟨d0, d1, d2⟩ := CB2.out
          have D9 := Lib.hid (p := Below wS.heap.size wS wS.drew) (Below.refl _ wS).drew
          have KV1 := Lib.hid (KV.out (k : Int) ia 0 wS.drew (BS.out.trans (D9.out.mono BS.out.size)))
          rw [hV] at KV1
          have DS := Lib.hid (And.intro d0 (And.intro d1 d2))
          go_region_held3 (fun w' => w'.cell? ⟨w3.heap.size, 0, none⟩ = some (.int .i64 (k : Int)) ∧ w'.cell? ⟨w3.heap.size, 1, none⟩ = some (.int .i64 ia) ∧ w'.cell? ⟨w3.heap.size, 2, none⟩ = some (.int .i64 0)) (first | exact ⟨d0, d1, d2⟩ | exact F5.out | exact box_far NE.out F5.out) (first
            | (go_at_call 23; refine KV1.out.mono ?_; rintro e w9 ⟨rfl, h2⟩; have B9 := Lib.hid (D9.out.trans (h2.mono D9.out.size)); have F5 := Lib.hid (p := w9.cell? ⟨w3.heap.size, 0, none⟩ = some (.int .i64 (k : Int)) ∧ w9.cell? ⟨w3.heap.size, 1, none⟩ = some (.int .i64 ia) ∧ w9.cell? ⟨w3.heap.size, 2, none⟩ = some (.int .i64 0)) ⟨(B9.out.cell (p := ⟨w3.heap.size, 0, none⟩) LS.out).trans DS.out.1, (B9.out.cell (p := ⟨w3.heap.size, 1, none⟩) LS.out).trans DS.out.2.1, (B9.out.cell (p := ⟨w3.heap.size, 2, none⟩) LS.out).trans DS.out.2.2⟩; obtain ⟨y0, y1, y2, z0, z1, z2⟩ := CB.out _ (XS.out.trans (B9.out.mono XS.out.size)); clear h2))
          go_wp2
          refine bodyPost_ret (v := .tuple #[.agg #[.int .i64 (k : Int), .int .i64 ia, .int .i64 0], .bool (V == 0)]) (by simp [results, Tryz.results95, go_sem, y0, y1, y2]) rfl ?_
          have BF := ((((BS.out.trans (B9.out.mono BS.out.size)).setCell (p := ⟨w.heap.size, 0, none⟩) (by simp) (.int .i64 (k : Int))).setCell (p := ⟨w.heap.size, 1, none⟩) (by simp) (.int .i64 ia)).setCell (p := ⟨w.heap.size, 2, none⟩) (by simp) (.int .i64 0))
          exact ⟨⟨⟨(k : Int), ia, 0⟩, by rw [HI.out], HJ.out⟩, BF⟩
      · obtain ⟨u1, u2, rfl⟩ : ∃ u v, ws = [u, v] := by
          match ws, q with
          | [u, v], _ => exact ⟨u, v, rfl⟩
        have SZ1 := Lib.hid (HZ.out u1 (by simp))
        have SZ2 := Lib.hid (HZ.out u2 (by simp))
        obtain ⟨OA, hOA⟩ : ∃ o, opdW p k u1 = o := ⟨_, rfl⟩
        obtain ⟨OB, hOB⟩ : ∃ o, numW u2 = o := ⟨_, rfl⟩
        have KP1 := Lib.hid (fun W (b : Below w.heap.size w W) => KP.out k u1 SZ1.out W b)
        have KN1 := Lib.hid (fun W (b : Below w.heap.size w W) => KN.out u2 SZ2.out W b)
        rw [hOA] at KP1
        rw [hOB] at KN1
        have e1 : ((if (2 : Nat) = 0 then some 0 else opdW p k ([u1, u2].getD 0 ⟨#[]⟩)).bind fun a => (if (2 : Nat) ≤ 1 then some 0 else numW ([u1, u2].getD 1 ⟨#[]⟩)).bind fun b => if (In.mk k a b).okP then some (In.mk k a b) else none) = OA.bind fun a => OB.bind fun b => if (In.mk k a b).okP then some (In.mk k a b) else none := by simp [hOA, hOB]
        rw [e1]
        clear e1 hOA hOB KP KN
        cases OA with
        | none =>
          show Calls _ _ _ _ (fun e w' => OiE w none e w')
          go_enter Tryz.func95, Tryz.ntmps95
          go_upto_region 12 with (first
            | (go_at_call 115; refine (KF.out _ A0.out).mono ?_; rintro e w2 ⟨rfl, h2⟩; have B2 := Lib.hid (A0.out.trans (h2.mono A0.out.size)); have X2 := Lib.hid h2; clear h2)
            | (go_at_call 51; refine (KO.out _ B2.out).mono ?_; rintro e w3 ⟨rfl, h2⟩; have B3 := Lib.hid (B2.out.trans (h2.mono B2.out.size)); have X3 := Lib.hid (X2.out.trans (h2.mono X2.out.size)); clear h2; have B4 := Lib.hid (B3.out.trans ((allocBP w3 (.cells #[.int .i64 (k : Int), .int .i64 0, .int .i64 0] 42)).mono B3.out.size)); have X4 := Lib.hid (X3.out.trans ((allocBP w3 (.cells #[.int .i64 (k : Int), .int .i64 0, .int .i64 0] 42)).mono X3.out.size)); have c1 := CW.out _ B4.out 1 (by omega); simp only [List.getD_cons_succ, List.getD_cons_zero] at c1)
            | (go_at_call 116; refine (KP1.out _ B4.out).mono ?_; rintro e w5 ⟨⟨ia, rfl, hia⟩, h5⟩; have B5 := Lib.hid (B4.out.trans (h5.mono B4.out.size)); have X5 := Lib.hid (X4.out.trans (h5.mono X4.out.size)); obtain ⟨g0, g1, g2, f0, f1, f2⟩ := box3 h5; have L5 := Lib.hid (Nat.lt_of_lt_of_le (LS0.out w3) h5.size); clear hia h5))
          have CB2 := Lib.hid (box_put1 (y := .int .i64 ia) ⟨g0, g1, g2⟩)
          have NE := Lib.hid (p := w3.heap.size ≠ w.heap.size) (by have := X3.out.size; simp at this; omega)
          have XS := Lib.hid (X5.out.setCell (p := ⟨w3.heap.size, 1, none⟩) X3.out.size (.int .i64 ia))
          have BS := Lib.hid (B5.out.setCell (p := ⟨w3.heap.size, 1, none⟩) B3.out.size (.int .i64 ia))
          have LS := Lib.hid (p := w3.heap.size < (w5.setCell ⟨w3.heap.size, 1, none⟩ (.int .i64 ia)).heap.size) (by have := L5.out; simp; omega)
          obtain ⟨wS, hwS⟩ : ∃ y, w5.setCell ⟨w3.heap.size, 1, none⟩ (.int .i64 ia) = y := ⟨_, rfl⟩
          rw [hwS] at CB2 XS BS LS
          rw [hwS]
          clear hwS g0 g1 g2 f0 f1 f2
          obtain ⟨d0, d1, d2⟩ := CB2.out
          obtain ⟨y0, y1, y2, z0, z1, z2⟩ := CB.out _ XS.out
          go_region
          all_goals
            go_wp2
            refine bodyPost_ret (v := .tuple #[.agg #[.int .i64 (k : Int), .int .i64 ia, .int .i64 0], .bool false]) (by simp [results, Tryz.results95, go_sem, y0, y1, y2]) rfl (OiE.none ?_)
            exact (((BS.out.drew.setCell (p := ⟨w.heap.size, 0, none⟩) (by simp) (.int .i64 (k : Int))).setCell (p := ⟨w.heap.size, 1, none⟩) (by simp) (.int .i64 ia)).setCell (p := ⟨w.heap.size, 2, none⟩) (by simp) (.int .i64 0))
        | some va =>
          cases OB with
          | none =>
            show Calls _ _ _ _ (fun e w' => OiE w none e w')
            go_enter Tryz.func95, Tryz.ntmps95
            go_upto_region 12 with (first
              | (go_at_call 115; refine (KF.out _ A0.out).mono ?_; rintro e w2 ⟨rfl, h2⟩; have B2 := Lib.hid (A0.out.trans (h2.mono A0.out.size)); have X2 := Lib.hid h2; clear h2)
              | (go_at_call 51; refine (KO.out _ B2.out).mono ?_; rintro e w3 ⟨rfl, h2⟩; have B3 := Lib.hid (B2.out.trans (h2.mono B2.out.size)); have X3 := Lib.hid (X2.out.trans (h2.mono X2.out.size)); clear h2; have B4 := Lib.hid (B3.out.trans ((allocBP w3 (.cells #[.int .i64 (k : Int), .int .i64 0, .int .i64 0] 42)).mono B3.out.size)); have X4 := Lib.hid (X3.out.trans ((allocBP w3 (.cells #[.int .i64 (k : Int), .int .i64 0, .int .i64 0] 42)).mono X3.out.size)); have c1 := CW.out _ B4.out 1 (by omega); simp only [List.getD_cons_succ, List.getD_cons_zero] at c1)
              | (go_at_call 116; refine (KP1.out _ B4.out).mono ?_; rintro e w5 ⟨⟨ia, rfl, hia⟩, h5⟩; have B5 := Lib.hid (B4.out.trans (h5.mono B4.out.size)); have X5 := Lib.hid (X4.out.trans (h5.mono X4.out.size)); obtain ⟨g0, g1, g2, f0, f1, f2⟩ := box3 h5; have L5 := Lib.hid (Nat.lt_of_lt_of_le (LS0.out w3) h5.size); have BP1 := Lib.hid (box_put1 (y := .int .i64 ia) ⟨g0, g1, g2⟩); have XC := Lib.hid (X5.out.setCell (p := ⟨w3.heap.size, 1, none⟩) X3.out.size (.int .i64 ia)); have BC := Lib.hid (B5.out.setCell (p := ⟨w3.heap.size, 1, none⟩) B3.out.size (.int .i64 ia)); have c2 := CW.out _ BC.out 2 (by omega); simp only [List.getD_cons_succ, List.getD_cons_zero] at c2; have FF := Lib.hid (p := (w5.setCell ⟨w3.heap.size, 1, none⟩ (.int .i64 ia)).frozen? ⟨w3.heap.size, 2, none⟩ = false) (by simpa using f2); clear hia h5)
              | (go_at_call 96; refine (KN1.out _ BC.out).mono ?_; rintro e w6 ⟨⟨ib, rfl, hib⟩, h6⟩; have B6 := Lib.hid (BC.out.trans (h6.mono BC.out.size)); have X6 := Lib.hid (XC.out.trans (h6.mono XC.out.size)); have LC := Lib.hid (p := w3.heap.size < (w5.setCell ⟨w3.heap.size, 1, none⟩ (.int .i64 ia)).heap.size) (by have := L5.out; simp; omega); have k0 := (h6.cell (p := ⟨w3.heap.size, 0, none⟩) LC.out).trans BP1.out.1; have k1 := (h6.cell (p := ⟨w3.heap.size, 1, none⟩) LC.out).trans BP1.out.2.1; have k2 := (h6.cell (p := ⟨w3.heap.size, 2, none⟩) LC.out).trans BP1.out.2.2; have kf := (World.frozen?_of_block (a := ⟨w3.heap.size, 2, none⟩) (h6.block _ LC.out)).trans FF.out; have L6 := Lib.hid (Nat.lt_of_lt_of_le LC.out h6.size); clear h6 hib))
            have CB2 := Lib.hid (box_put2 (y := .int .i64 ib) ⟨k0, k1, k2⟩)
            have NE := Lib.hid (p := w3.heap.size ≠ w.heap.size) (by have := X3.out.size; simp at this; omega)
            have XS := Lib.hid (X6.out.setCell (p := ⟨w3.heap.size, 2, none⟩) X3.out.size (.int .i64 ib))
            have BS := Lib.hid (B6.out.setCell (p := ⟨w3.heap.size, 2, none⟩) B3.out.size (.int .i64 ib))
            have LS := Lib.hid (p := w3.heap.size < (w6.setCell ⟨w3.heap.size, 2, none⟩ (.int .i64 ib)).heap.size) (by have := L6.out; simp; omega)
            obtain ⟨wS, hwS⟩ : ∃ y, w6.setCell ⟨w3.heap.size, 2, none⟩ (.int .i64 ib) = y := ⟨_, rfl⟩
            rw [hwS] at CB2 XS BS LS
            rw [hwS]
            clear hwS k0 k1 k2 kf
            obtain ⟨d0, d1, d2⟩ := CB2.out
            obtain ⟨y0, y1, y2, z0, z1, z2⟩ := CB.out _ XS.out
            go_region
            all_goals
              go_wp2
              refine bodyPost_ret (v := .tuple #[.agg #[.int .i64 (k : Int), .int .i64 ia, .int .i64 ib], .bool false]) (by simp [results, Tryz.results95, go_sem, y0, y1, y2]) rfl (OiE.none ?_)
              exact (((BS.out.drew.setCell (p := ⟨w.heap.size, 0, none⟩) (by simp) (.int .i64 (k : Int))).setCell (p := ⟨w.heap.size, 1, none⟩) (by simp) (.int .i64 ia)).setCell (p := ⟨w.heap.size, 2, none⟩) (by simp) (.int .i64 ib))
          | some vb =>
            show Calls _ _ _ _ (fun e w' => OiE w (if (In.mk k va vb).okP then some (In.mk k va vb) else none) e w')
            obtain ⟨RES, hRES⟩ : ∃ R, (if (In.mk k va vb).okP then some (In.mk k va vb) else none) = R := ⟨_, rfl⟩
            obtain ⟨V, hV⟩ : ∃ V, okV ⟨(k : Int), va, vb⟩ = V := ⟨_, rfl⟩
            have HI := Lib.hid (p := RES.isSome = (V == 0)) (by
              rw [← hRES, ← hV]
              unfold okV
              split <;> simp)
            have HJ := Lib.hid (p := ∀ j, RES = some j → In.mk k va vb = j) (fun j e => by
              rw [← hRES] at e
              split at e
              · injection e
              · cases e)
            rw [hRES]
            clear hRES
            go_enter Tryz.func95, Tryz.ntmps95
            go_upto_region 12 with (first
              | (go_at_call 115; refine (KF.out _ A0.out).mono ?_; rintro e w2 ⟨rfl, h2⟩; have B2 := Lib.hid (A0.out.trans (h2.mono A0.out.size)); have X2 := Lib.hid h2; clear h2)
              | (go_at_call 51; refine (KO.out _ B2.out).mono ?_; rintro e w3 ⟨rfl, h2⟩; have B3 := Lib.hid (B2.out.trans (h2.mono B2.out.size)); have X3 := Lib.hid (X2.out.trans (h2.mono X2.out.size)); clear h2; have B4 := Lib.hid (B3.out.trans ((allocBP w3 (.cells #[.int .i64 (k : Int), .int .i64 0, .int .i64 0] 42)).mono B3.out.size)); have X4 := Lib.hid (X3.out.trans ((allocBP w3 (.cells #[.int .i64 (k : Int), .int .i64 0, .int .i64 0] 42)).mono X3.out.size)); have c1 := CW.out _ B4.out 1 (by omega); simp only [List.getD_cons_succ, List.getD_cons_zero] at c1)
              | (go_at_call 116; refine (KP1.out _ B4.out).mono ?_; rintro e w5 ⟨⟨ia, rfl, hia⟩, h5⟩; have B5 := Lib.hid (B4.out.trans (h5.mono B4.out.size)); have X5 := Lib.hid (X4.out.trans (h5.mono X4.out.size)); obtain ⟨g0, g1, g2, f0, f1, f2⟩ := box3 h5; obtain rfl := hia va rfl; have L5 := Lib.hid (Nat.lt_of_lt_of_le (LS0.out w3) h5.size); have BP1 := Lib.hid (box_put1 (y := .int .i64 ia) ⟨g0, g1, g2⟩); have XC := Lib.hid (X5.out.setCell (p := ⟨w3.heap.size, 1, none⟩) X3.out.size (.int .i64 ia)); have BC := Lib.hid (B5.out.setCell (p := ⟨w3.heap.size, 1, none⟩) B3.out.size (.int .i64 ia)); have c2 := CW.out _ BC.out 2 (by omega); simp only [List.getD_cons_succ, List.getD_cons_zero] at c2; have FF := Lib.hid (p := (w5.setCell ⟨w3.heap.size, 1, none⟩ (.int .i64 ia)).frozen? ⟨w3.heap.size, 2, none⟩ = false) (by simpa using f2); clear hia h5)
              | (go_at_call 96; refine (KN1.out _ BC.out).mono ?_; rintro e w6 ⟨⟨ib, rfl, hib⟩, h6⟩; have B6 := Lib.hid (BC.out.trans (h6.mono BC.out.size)); have X6 := Lib.hid (XC.out.trans (h6.mono XC.out.size)); have LC := Lib.hid (p := w3.heap.size < (w5.setCell ⟨w3.heap.size, 1, none⟩ (.int .i64 ia)).heap.size) (by have := L5.out; simp; omega); have k0 := (h6.cell (p := ⟨w3.heap.size, 0, none⟩) LC.out).trans BP1.out.1; have k1 := (h6.cell (p := ⟨w3.heap.size, 1, none⟩) LC.out).trans BP1.out.2.1; have k2 := (h6.cell (p := ⟨w3.heap.size, 2, none⟩) LC.out).trans BP1.out.2.2; have kf := (World.frozen?_of_block (a := ⟨w3.heap.size, 2, none⟩) (h6.block _ LC.out)).trans FF.out; have L6 := Lib.hid (Nat.lt_of_lt_of_le LC.out h6.size); obtain rfl := hib vb rfl; clear h6 hib))
            have CB2 := Lib.hid (box_put2 (y := .int .i64 ib) ⟨k0, k1, k2⟩)
            have NE := Lib.hid (p := w3.heap.size ≠ w.heap.size) (by have := X3.out.size; simp at this; omega)
            have XS := Lib.hid (X6.out.setCell (p := ⟨w3.heap.size, 2, none⟩) X3.out.size (.int .i64 ib))
            have BS := Lib.hid (B6.out.setCell (p := ⟨w3.heap.size, 2, none⟩) B3.out.size (.int .i64 ib))
            have LS := Lib.hid (p := w3.heap.size < (w6.setCell ⟨w3.heap.size, 2, none⟩ (.int .i64 ib)).heap.size) (by have := L6.out; simp; omega)
            obtain ⟨wS, hwS⟩ : ∃ y, w6.setCell ⟨w3.heap.size, 2, none⟩ (.int .i64 ib) = y := ⟨_, rfl⟩
            rw [hwS] at CB2 XS BS LS
            rw [hwS]
            clear hwS k0 k1 k2 kf
            obtain ⟨d0, d1, d2⟩ := CB2.out
            have D9 := Lib.hid (p := Below wS.heap.size wS wS.drew) (Below.refl _ wS).drew
            have KV1 := Lib.hid (KV.out (k : Int) ia ib wS.drew (BS.out.trans (D9.out.mono BS.out.size)))
            rw [hV] at KV1
            have DS := Lib.hid (And.intro d0 (And.intro d1 d2))
            go_region_held3 (fun w' => w'.cell? ⟨w3.heap.size, 0, none⟩ = some (.int .i64 (k : Int)) ∧ w'.cell? ⟨w3.heap.size, 1, none⟩ = some (.int .i64 ia) ∧ w'.cell? ⟨w3.heap.size, 2, none⟩ = some (.int .i64 ib)) (first | exact ⟨d0, d1, d2⟩ | exact F5.out | exact box_far NE.out F5.out) (first
              | (go_at_call 23; refine KV1.out.mono ?_; rintro e w9 ⟨rfl, h2⟩; have B9 := Lib.hid (D9.out.trans (h2.mono D9.out.size)); have F5 := Lib.hid (p := w9.cell? ⟨w3.heap.size, 0, none⟩ = some (.int .i64 (k : Int)) ∧ w9.cell? ⟨w3.heap.size, 1, none⟩ = some (.int .i64 ia) ∧ w9.cell? ⟨w3.heap.size, 2, none⟩ = some (.int .i64 ib)) ⟨(B9.out.cell (p := ⟨w3.heap.size, 0, none⟩) LS.out).trans DS.out.1, (B9.out.cell (p := ⟨w3.heap.size, 1, none⟩) LS.out).trans DS.out.2.1, (B9.out.cell (p := ⟨w3.heap.size, 2, none⟩) LS.out).trans DS.out.2.2⟩; obtain ⟨y0, y1, y2, z0, z1, z2⟩ := CB.out _ (XS.out.trans (B9.out.mono XS.out.size)); clear h2))
            go_wp2
            refine bodyPost_ret (v := .tuple #[.agg #[.int .i64 (k : Int), .int .i64 ia, .int .i64 ib], .bool (V == 0)]) (by simp [results, Tryz.results95, go_sem, y0, y1, y2]) rfl ?_
            have BF := ((((BS.out.trans (B9.out.mono BS.out.size)).setCell (p := ⟨w.heap.size, 0, none⟩) (by simp) (.int .i64 (k : Int))).setCell (p := ⟨w.heap.size, 1, none⟩) (by simp) (.int .i64 ia)).setCell (p := ⟨w.heap.size, 2, none⟩) (by simp) (.int .i64 ib))
            exact ⟨⟨⟨(k : Int), ia, ib⟩, by rw [HI.out], HJ.out⟩, BF⟩
    · rw [if_neg q]
      have q1 : ((n : Int) != 1 + (ON : Int)) = true := by simp; omega
      go_enter Tryz.func95, Tryz.ntmps95
      go_wp2_with (first
        | (go_at_call 115; refine (KF.out _ A0.out).mono ?_; rintro e w2 ⟨rfl, h2⟩; have B2 := Lib.hid (A0.out.trans (h2.mono A0.out.size)); have X2 := Lib.hid h2; clear h2)
        | (go_at_call 51; refine (KO.out _ B2.out).mono ?_; rintro e w3 ⟨rfl, h2⟩; have B3 := Lib.hid (B2.out.trans (h2.mono B2.out.size)); obtain ⟨y0, y1, y2, z0, z1, z2⟩ := CB.out _ (X2.out.trans (h2.mono X2.out.size)); clear h2))
      refine bodyPost_ret (v := .tuple #[.agg #[.int .i64 0, .int .i64 0, .int .i64 0], .bool false]) (by simp [results, Tryz.results95, go_sem, y0, y1, y2]) rfl (OiE.none ?_)
      exact ((B3.out.setCell (by simp) _).setCell (by simp) _).setCell (by simp) _
  · have KF := Lib.hid (fun W (b : Below w.heap.size w W) => find_any w0 0 111 hF W (hR.below b))
    have e0 : insW p w0 ws = none := by unfold insW; rw [hpl]; rfl
    rw [e0]
    clear r1 hc hd s1 hz hR hM ht hE hn hu hp qn qu qp hpl hF e0
    have c1 := (A0.out.cell (p := ⟨xb, xo, none⟩) hx).trans c0
    go_enter Tryz.func95, Tryz.ntmps95
    go_wp2_with (go_at_call 115; refine (KF.out _ A0.out).mono ?_; rintro e w2 ⟨rfl, h2⟩; have B2 := Lib.hid (A0.out.trans (h2.mono A0.out.size)); obtain ⟨y0, y1, y2, z0, z1, z2⟩ := CB.out _ h2; clear h2)
    refine bodyPost_ret (v := .tuple #[.agg #[.int .i64 0, .int .i64 0, .int .i64 0], .bool false]) (by simp [results, Tryz.results95, go_sem, y0, y1, y2]) rfl (OiE.none ?_)
    exact ((B2.out.setCell (by simp) _).setCell (by simp) _).setCell (by simp) _
end Go.Proofs.YtccjeipkljdhdaaGreatDoor
