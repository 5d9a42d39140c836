import Derived.Test.YtccjeipkljdhdaaGreatDoorXBO
import Derived.Test.YtccjeipkljdhdaaGreatDoorXAO
import Derived.Test.YtccjeipkljdhdaaGreatDoorXBQ
import Derived.Deep.RegionWith
namespace Go.Proofs.YtccjeipkljdhdaaGreatDoor
open Go.RowKit
set_option linter.unusedVariables false
set_option linter.unusedSimpArgs false

theorem plc_nn {α : Type} [DecidableEq α] {l : List α} {x : α} {i : Int} (h : plcW l x = some i) : 0 ≤ i := by
  unfold plcW at h
  split at h
  · injection h with h; omega
  · cases h
theorem numW_nn {w : ByteArray} {i : Int} (h : numW w = some i) : 0 ≤ i := by
  unfold numW at h
  obtain ⟨v, _, h2⟩ := Option.bind_eq_some_iff.1 h
  split at h2
  · injection h2 with h2; subst h2; assumption
  · cases h2
theorem on_one : ∀ k, k < 29 → (k = 1 → onA k = 1) ∧ (k = 3 → onA k = 2) ∧ (k = 18 → onA k = 1) ∧ (k = 28 → onA k = 1) ∧ (k ≠ 3 → onA k = 0 ∨ onA k = 1) := by decide
theorem md_inj : ∀ i, i < 5 → ∀ j, j < 5 → mdA i = mdA j → i = j := by
  have : ∀ i, i < 5 → ∀ j, j < 5 → (mdA i).data.toList = (mdA j).data.toList → i = j := by decide
  exact fun i hi j hj e => this i hi j hj (by rw [e])
theorem md_get (k : Nat) (hk : k < 5) : mdL[k]'(by show k < 5; exact hk) = mdA k := by
  unfold mdA
  rw [List.getD_eq_getElem?_getD, List.getElem?_eq_getElem (by show k < 5; exact hk), Option.getD_some]
/-- The program's box and the answer's. -/
theorem two_box {w : World} {v0 v1 v2 v3 v4 v5 v6 v7 : Value} {t u : TypeId} : ∀ W, Below ((w.alloc (.cells #[v0, v1, v2, v3, v4, v5, v6, v7] t)).alloc (.cells #[.int .i64 0, .int .i64 0, .int .i64 0] u)).heap.size ((w.alloc (.cells #[v0, v1, v2, v3, v4, v5, v6, v7] t)).alloc (.cells #[.int .i64 0, .int .i64 0, .int .i64 0] u)) W →
    (W.cell? ⟨w.heap.size, 0, none⟩ = some v0 ∧ W.cell? ⟨w.heap.size, 1, none⟩ = some v1 ∧ W.cell? ⟨w.heap.size, 2, none⟩ = some v2) ∧
    W.cell? ⟨w.heap.size + 1, 0, none⟩ = some (.int .i64 0) ∧ W.cell? ⟨w.heap.size + 1, 1, none⟩ = some (.int .i64 0) ∧ W.cell? ⟨w.heap.size + 1, 2, none⟩ = some (.int .i64 0) ∧ W.frozen? ⟨w.heap.size + 1, 0, none⟩ = false ∧ W.frozen? ⟨w.heap.size + 1, 1, none⟩ = false ∧ W.frozen? ⟨w.heap.size + 1, 2, none⟩ = false := by
  intro W b
  have e1 : W.heap[w.heap.size]? = some (.cells #[v0, v1, v2, v3, v4, v5, v6, v7] t (0, 0)) := (b.block w.heap.size (by simp; omega)).trans (by show ((w.heap.push _).push _)[w.heap.size]? = _; rw [Array.getElem?_push]; simp)
  have e2 : W.heap[w.heap.size + 1]? = some (.cells #[.int .i64 0, .int .i64 0, .int .i64 0] u (0, 0)) := (b.block (w.heap.size + 1) (by simp)).trans (by show ((w.heap.push _).push _)[w.heap.size + 1]? = _; rw [Array.getElem?_push]; simp)
  refine ⟨⟨?_, ?_, ?_⟩, ?_, ?_, ?_, ?_, ?_, ?_⟩ <;> simp [World.cell?, World.frozen?, e1, e2]
set_option maxRecDepth 100000 in
set_option maxHeartbeats 8000000 in
theorem read_any (an au pa da : Option Addr) (cn cu cp dn dc n c xb xo : Nat) (w0 : ByteArray) (ws : List ByteArray) (p : Ap) (w : World) (hN : SR w an p.ns.length cn p.ns) (hU : SR w au p.cs.length cu p.cs) (hP : NR w pa p.pl.length cp p.pl) (hs : WrW xb xo w (w0 :: ws)) (hn : n = ws.length + 1) (hc : n ≤ 16777216) (hz : ∀ s ∈ w0 :: ws, s.size ≤ 16777216) (hM : RMd w) :
    Calls Tryz.prog 30 #[.agg #[.slice an p.ns.length cn, .slice au p.cs.length cu, .slice pa p.pl.length cp, .int .i64 p.hor, .int .i64 p.cells, .int .i64 p.slots, .int .i64 p.stack, .slice da dn dc], .slice (some ⟨xb, xo, none⟩) n c] w fun e w' => OiE w (insW p w0 ws) e w' := by
  obtain ⟨W0, hW0⟩ : ∃ y, (w.alloc (.cells #[.slice an p.ns.length cn, .slice au p.cs.length cu, .slice pa p.pl.length cp, .int .i64 p.hor, .int .i64 p.cells, .int .i64 p.slots, .int .i64 p.stack, .slice da dn dc] 27)).alloc (.cells #[.int .i64 0, .int .i64 0, .int .i64 0] 42) = y := ⟨_, rfl⟩
  have A0 := Lib.hid (p := Below w.heap.size w W0) (by rw [← hW0]; exact (allocBP w _).trans ((allocBP (w.alloc (.cells #[.slice an p.ns.length cn, .slice au p.cs.length cu, .slice pa p.pl.length cp, .int .i64 p.hor, .int .i64 p.cells, .int .i64 p.slots, .int .i64 p.stack, .slice da dn dc] 27)) _).mono (by simp)))
  have TB := Lib.hid (p := ∀ W, Below W0.heap.size W0 W → _) (by rw [← hW0]; exact two_box)
  have Z0 := Lib.hid (p := W0.heap.size = w.heap.size + 2) (by rw [← hW0]; simp)
  have CW := Lib.hid (p := ∀ W, Below w.heap.size w W → ∀ (i : Nat) (hi : i < (w0 :: ws).length), W.cell? ⟨xb, xo + i, none⟩ = some (.string (w0 :: ws)[i])) (fun W b i hi => (hs.later b).2 i hi)
  have XB := Lib.hid (p := xb < w.heap.size) hs.1
  have KFN := Lib.hid (p := ∀ W, Below w.heap.size w W → ∀ s, Calls Tryz.prog 59 #[.slice an p.ns.length cn, .string s] W fun e w' => e = .returned (.int .i64 ((plcW p.ns s).getD (-1))) ∧ w' = W) (fun W b s => findS_any (hN.later b) s)
  have KFU := Lib.hid (p := ∀ W, Below w.heap.size w W → ∀ s, Calls Tryz.prog 59 #[.slice au p.cs.length cu, .string s] W fun e w' => e = .returned (.int .i64 ((plcW p.cs s).getD (-1))) ∧ w' = W) (fun W b s => findS_any (hU.later b) s)
  have KFZ := Lib.hid (p := ∀ W, Below w.heap.size w W → ∀ s, Calls Tryz.prog 58 #[.slice pa p.pl.length cp, .int .i64 s] W fun e w' => e = .returned (.int .i64 ((plcW p.pl s).getD (-1))) ∧ w' = W) (fun W b s => findZ_any (hP.later b) s)
  have MD := Lib.hid (p := ∀ W, Below w.heap.size w W → ∀ k, k < 5 → W.cell? ⟨1, k, none⟩ = some (.string (mdA k))) (fun W b k hk => (hM.later b).2 k hk)
  have KV := Lib.hid (fun (o a b : Int) W => refValid_any o a b W)
  have KVT := Lib.hid (fun (s : ByteArray) (hs : s.size ≤ 16777216) W => valueT_any s hs W)
  have KVN := Lib.hid (fun (s : ByteArray) (hs : s.size ≤ 16777216) W => valueN_any s hs W)
  have HZ := Lib.hid hz
  have NN := Lib.hid hn
  have n1 : (0 : Int) < (n : Int) := by omega
  have c0 : W0.cell? ⟨xb, xo, none⟩ = some (.string w0) := by have := CW.out W0 A0.out 0 (by simp); simpa using this
  clear hN hU hP hs hM hz
  rcases fnE_plc w0 with ⟨k, hk, hpl, hF⟩ | ⟨hpl, hF⟩
  · have KF := Lib.hid (fun W => refFind_any w0 k 0 hF W)
    have e0 : insW p w0 ws = insK p k ws := by unfold insW; rw [hpl]; rfl
    rw [e0]
    obtain ⟨ra, rb, rt, rp, hre, hro⟩ := ref_at k hk
    have KO := Lib.hid (fun W => refOperands_any hre W)
    rw [hro] at KO
    clear hre hro
    obtain ⟨o1, o3, o18, o28, o0⟩ := on_one k hk
    have on2 := (tab_facts k hk).1
    unfold insK
    obtain ⟨ON, hON⟩ : ∃ m, onA k = m := ⟨_, rfl⟩
    rw [hON] at KO o1 o3 o18 o28 o0 on2 ⊢
    have kon : IntKind.i64.wrap ((ON : Int) + 1) = (ON : Int) + 1 := by simp [IntKind.wrap, IntKind.bits, IntKind.signed]; omega
    have kon' : IntKind.i64.wrap (1 + (ON : Int)) = 1 + (ON : Int) := by simp [IntKind.wrap, IntKind.bits, IntKind.signed]; omega
    clear hpl hF e0 hON
    by_cases q : ws.length = ON
    · rw [if_pos q]
      have q1 : ((n : Int) != 1 + (ON : Int)) = false := by simp; omega
      by_cases k1 : k = 1
      · obtain rfl : ON = 1 := o1 k1
        have b1 : ((k : Int) == 1) = true := by rw [k1]; rfl
        obtain ⟨u1, rfl⟩ : ∃ u, ws = [u] := List.length_eq_one_iff.1 q
        have SZ1 := Lib.hid (HZ.out u1 (by simp))
        have e1 : ((if (1 : Nat) = 0 then some 0 else opdW p k ([u1].getD 0 ⟨#[]⟩)).bind fun a => (if (1 : Nat) ≤ 1 then some 0 else numW ([u1].getD 1 ⟨#[]⟩)).bind fun b => if (In.mk k a b).okP then some (In.mk k a b) else none) = ((valW u1).bind (plcW p.pl)).bind fun a => if (In.mk k a 0).okP then some (In.mk k a 0) else none := by simp [opdW, k1]
        rw [e1]
        clear e1 o1 o3 o18 o28 o0 k1
        obtain ⟨VT, hVT⟩ : ∃ o, valW u1 = o := ⟨_, rfl⟩
        have KVT1 := Lib.hid (fun W => KVT.out u1 SZ1.out W)
        rw [hVT] at KVT1 ⊢
        clear hVT
        cases VT with
        | none =>
          show Calls _ _ _ _ (fun e w' => OiE w none e w')
          go_enter Tryz.func30, Tryz.ntmps30
          go_upto_region 28 with (first
            | (with_reducible show Calls _ _ _ _ _; rw [hW0])
            | (go_at_call 56; refine (KF.out W0).mono ?_; rintro e w2 ⟨rfl, h2⟩; have X2 := Lib.hid h2; have B2 := Lib.hid (A0.out.trans (h2.mono A0.out.size)); clear h2)
            | (go_at_call 57; refine (KO.out (w2.alloc (.cells #[.int .i64 (k : Int), .int .i64 0, .int .i64 0] 42))).mono ?_; rintro e w3 ⟨rfl, h2⟩; have Y3 := Lib.hid ((allocBP w2 (.cells #[.int .i64 (k : Int), .int .i64 0, .int .i64 0] 42)).trans (h2.mono (allocBP w2 (.cells #[.int .i64 (k : Int), .int .i64 0, .int .i64 0] 42)).size)); have X3 := Lib.hid (X2.out.trans (Y3.out.mono X2.out.size)); have B3 := Lib.hid (A0.out.trans (X3.out.mono A0.out.size)); obtain ⟨g0, g1, g2, f0, f1, f2⟩ := box3 h2; have L3 := Lib.hid (p := w2.heap.size < w3.heap.size) (by have := h2.size; simp at this; omega); have c1 := CW.out w3 B3.out 1 (by simp); simp only [List.getElem_cons_succ, List.getElem_cons_zero] at c1; obtain ⟨⟨p0, p1, p2⟩, _⟩ := TB.out w3 X3.out; clear h2)
            | (go_at_call 29; refine (KVT1.out w3).mono ?_; rintro e w4 ⟨⟨ia, rfl, hia⟩, hw⟩; have hw := hw.symm; subst hw; obtain ⟨A, hA⟩ : ∃ A, (plcW p.pl ia).getD (-1) = A := ⟨_, rfl⟩; have KA := KFZ.out w3 B3.out ia; rw [hA] at KA; have KA := Lib.hid KA; clear hA hia)
            | (go_at_call 58; refine (KA.out).mono ?_; rintro e w5 ⟨rfl, hw⟩; have hw := hw.symm; subst hw))
          have CB2 := Lib.hid (box_put1 (y := .int .i64 A) ⟨g0, g1, g2⟩)
          have NE := Lib.hid (p := w2.heap.size ≠ w.heap.size + 1) (by have := X2.out.size; have := Z0.out; omega)
          have XS := Lib.hid (X3.out.setCell (p := ⟨w2.heap.size, 1, none⟩) X2.out.size (.int .i64 A))
          have BS := Lib.hid (B3.out.setCell (p := ⟨w2.heap.size, 1, none⟩) B2.out.size (.int .i64 A))
          have LS := Lib.hid (p := w2.heap.size < (w3.setCell ⟨w2.heap.size, 1, none⟩ (.int .i64 A)).heap.size) (by have := L3.out; simp; omega)
          obtain ⟨wS, hwS⟩ : ∃ y, w3.setCell ⟨w2.heap.size, 1, none⟩ (.int .i64 A) = y := ⟨_, rfl⟩
          rw [hwS] at CB2 XS BS LS
          rw [hwS]
          clear hwS g0 g1 g2 f0 f1 f2
          obtain ⟨d0, d1, d2⟩ := CB2.out
          obtain ⟨_, y0, y1, y2, z0, z1, z2⟩ := TB.out _ XS.out
          go_region
          all_goals
            go_wp2
            refine bodyPost_ret (v := .tuple #[.agg #[.int .i64 (k : Int), .int .i64 A, .int .i64 0], .bool false]) (by simp [results, Tryz.results30, go_sem, y0, y1, y2]) rfl (OiE.none ?_)
            exact (((BS.out.drew.setCell (p := ⟨w.heap.size + 1, 0, none⟩) (Nat.le_succ _) (.int .i64 (k : Int))).setCell (p := ⟨w.heap.size + 1, 1, none⟩) (Nat.le_succ _) (.int .i64 A)).setCell (p := ⟨w.heap.size + 1, 2, none⟩) (Nat.le_succ _) (.int .i64 0))
        | some v =>
          show Calls _ _ _ _ (fun e w' => OiE w ((plcW p.pl v).bind fun a => if (In.mk k a 0).okP then some (In.mk k a 0) else none) e w')
          obtain ⟨OA, hOA⟩ : ∃ o, plcW p.pl v = o := ⟨_, rfl⟩
          have KA := Lib.hid (fun W (b : Below w.heap.size w W) => KFZ.out W b v)
          have AN := Lib.hid (p := ∀ a, OA = some a → 0 ≤ a) (fun a e => plc_nn (hOA.trans e))
          rw [hOA] at KA ⊢
          clear hOA
          cases OA with
          | none =>
            show Calls _ _ _ _ (fun e w' => OiE w none e w')
            simp only [Option.getD_none] at KA
            go_enter Tryz.func30, Tryz.ntmps30
            go_upto_region 28 with (first
              | (with_reducible show Calls _ _ _ _ _; rw [hW0])
              | (go_at_call 56; refine (KF.out W0).mono ?_; rintro e w2 ⟨rfl, h2⟩; have X2 := Lib.hid h2; have B2 := Lib.hid (A0.out.trans (h2.mono A0.out.size)); clear h2)
              | (go_at_call 57; refine (KO.out (w2.alloc (.cells #[.int .i64 (k : Int), .int .i64 0, .int .i64 0] 42))).mono ?_; rintro e w3 ⟨rfl, h2⟩; have Y3 := Lib.hid ((allocBP w2 (.cells #[.int .i64 (k : Int), .int .i64 0, .int .i64 0] 42)).trans (h2.mono (allocBP w2 (.cells #[.int .i64 (k : Int), .int .i64 0, .int .i64 0] 42)).size)); have X3 := Lib.hid (X2.out.trans (Y3.out.mono X2.out.size)); have B3 := Lib.hid (A0.out.trans (X3.out.mono A0.out.size)); obtain ⟨g0, g1, g2, f0, f1, f2⟩ := box3 h2; have L3 := Lib.hid (p := w2.heap.size < w3.heap.size) (by have := h2.size; simp at this; omega); have c1 := CW.out w3 B3.out 1 (by simp); simp only [List.getElem_cons_succ, List.getElem_cons_zero] at c1; obtain ⟨⟨p0, p1, p2⟩, _⟩ := TB.out w3 X3.out; clear h2)
              | (go_at_call 29; refine (KVT1.out w3).mono ?_; rintro e w4 ⟨⟨ia, rfl, hia⟩, hw⟩; have hw := hw.symm; subst hw; obtain rfl := hia v rfl; clear hia)
              | (go_at_call 58; refine (KA.out w3 B3.out).mono ?_; rintro e w5 ⟨rfl, hw⟩; have hw := hw.symm; subst hw))
            have CB2 := Lib.hid (box_put1 (y := .int .i64 (-1)) ⟨g0, g1, g2⟩)
            have NE := Lib.hid (p := w2.heap.size ≠ w.heap.size + 1) (by have := X2.out.size; have := Z0.out; omega)
            have XS := Lib.hid (X3.out.setCell (p := ⟨w2.heap.size, 1, none⟩) X2.out.size (.int .i64 (-1)))
            have BS := Lib.hid (B3.out.setCell (p := ⟨w2.heap.size, 1, none⟩) B2.out.size (.int .i64 (-1)))
            have LS := Lib.hid (p := w2.heap.size < (w3.setCell ⟨w2.heap.size, 1, none⟩ (.int .i64 (-1))).heap.size) (by have := L3.out; simp; omega)
            obtain ⟨wS, hwS⟩ : ∃ y, w3.setCell ⟨w2.heap.size, 1, none⟩ (.int .i64 (-1)) = y := ⟨_, rfl⟩
            rw [hwS] at CB2 XS BS LS
            rw [hwS]
            clear hwS g0 g1 g2 f0 f1 f2
            obtain ⟨d0, d1, d2⟩ := CB2.out
            obtain ⟨_, y0, y1, y2, z0, z1, z2⟩ := TB.out _ XS.out
            go_region
            all_goals
              go_wp2
              refine bodyPost_ret (v := .tuple #[.agg #[.int .i64 (k : Int), .int .i64 (-1), .int .i64 0], .bool false]) (by simp [results, Tryz.results30, go_sem, y0, y1, y2]) rfl (OiE.none ?_)
              exact (((BS.out.drew.setCell (p := ⟨w.heap.size + 1, 0, none⟩) (Nat.le_succ _) (.int .i64 (k : Int))).setCell (p := ⟨w.heap.size + 1, 1, none⟩) (Nat.le_succ _) (.int .i64 (-1))).setCell (p := ⟨w.heap.size + 1, 2, none⟩) (Nat.le_succ _) (.int .i64 0))
          | some va =>
            have ha0 := AN.out va rfl
            simp only [Option.getD_some] at KA
            show Calls _ _ _ _ (fun e w' => OiE w (if (In.mk k va 0).okP then some (In.mk k va 0) else none) e w')
            obtain ⟨RES, hRES⟩ : ∃ R, (if (In.mk k va 0).okP then some (In.mk k va 0) else none) = R := ⟨_, rfl⟩
            obtain ⟨V, hV⟩ : ∃ V, okV ⟨(k : Int), va, 0⟩ = V := ⟨_, rfl⟩
            have HI := Lib.hid (p := RES.isSome = (V == 0)) (by
              rw [← hRES, ← hV]
              unfold okV
              split <;> simp)
            have HJ := Lib.hid (p := ∀ j, RES = some j → In.mk k va 0 = j) (fun j e => by
              rw [← hRES] at e
              split at e
              · injection e
              · cases e)
            rw [hRES]
            clear hRES
            go_enter Tryz.func30, Tryz.ntmps30
            go_upto_region 28 with (first
              | (with_reducible show Calls _ _ _ _ _; rw [hW0])
              | (go_at_call 56; refine (KF.out W0).mono ?_; rintro e w2 ⟨rfl, h2⟩; have X2 := Lib.hid h2; have B2 := Lib.hid (A0.out.trans (h2.mono A0.out.size)); clear h2)
              | (go_at_call 57; refine (KO.out (w2.alloc (.cells #[.int .i64 (k : Int), .int .i64 0, .int .i64 0] 42))).mono ?_; rintro e w3 ⟨rfl, h2⟩; have Y3 := Lib.hid ((allocBP w2 (.cells #[.int .i64 (k : Int), .int .i64 0, .int .i64 0] 42)).trans (h2.mono (allocBP w2 (.cells #[.int .i64 (k : Int), .int .i64 0, .int .i64 0] 42)).size)); have X3 := Lib.hid (X2.out.trans (Y3.out.mono X2.out.size)); have B3 := Lib.hid (A0.out.trans (X3.out.mono A0.out.size)); obtain ⟨g0, g1, g2, f0, f1, f2⟩ := box3 h2; have L3 := Lib.hid (p := w2.heap.size < w3.heap.size) (by have := h2.size; simp at this; omega); have c1 := CW.out w3 B3.out 1 (by simp); simp only [List.getElem_cons_succ, List.getElem_cons_zero] at c1; obtain ⟨⟨p0, p1, p2⟩, _⟩ := TB.out w3 X3.out; clear h2)
              | (go_at_call 29; refine (KVT1.out w3).mono ?_; rintro e w4 ⟨⟨ia, rfl, hia⟩, hw⟩; have hw := hw.symm; subst hw; obtain rfl := hia v rfl; clear hia)
              | (go_at_call 58; refine (KA.out w3 B3.out).mono ?_; rintro e w5 ⟨rfl, hw⟩; have hw := hw.symm; subst hw))
            have CB2 := Lib.hid (box_put1 (y := .int .i64 va) ⟨g0, g1, g2⟩)
            have NE := Lib.hid (p := w2.heap.size ≠ w.heap.size + 1) (by have := X2.out.size; have := Z0.out; omega)
            have XS := Lib.hid (X3.out.setCell (p := ⟨w2.heap.size, 1, none⟩) X2.out.size (.int .i64 va))
            have BS := Lib.hid (B3.out.setCell (p := ⟨w2.heap.size, 1, none⟩) B2.out.size (.int .i64 va))
            have LS := Lib.hid (p := w2.heap.size < (w3.setCell ⟨w2.heap.size, 1, none⟩ (.int .i64 va)).heap.size) (by have := L3.out; simp; omega)
            obtain ⟨wS, hwS⟩ : ∃ y, w3.setCell ⟨w2.heap.size, 1, none⟩ (.int .i64 va) = y := ⟨_, rfl⟩
            rw [hwS] at CB2 XS BS LS
            rw [hwS]
            clear hwS g0 g1 g2 f0 f1 f2
            obtain ⟨d0, d1, d2⟩ := CB2.out
            have D9 := Lib.hid (p := Below wS.heap.size wS wS.drew) (Below.refl _ wS).drew
            have KV1 := Lib.hid (KV.out (k : Int) va 0 wS.drew)
            rw [hV] at KV1
            have DS := Lib.hid (And.intro d0 (And.intro d1 d2))
            go_region_held3 (fun w' => w'.cell? ⟨w2.heap.size, 0, none⟩ = some (.int .i64 (k : Int)) ∧ w'.cell? ⟨w2.heap.size, 1, none⟩ = some (.int .i64 va) ∧ w'.cell? ⟨w2.heap.size, 2, none⟩ = some (.int .i64 0)) (first | exact ⟨d0, d1, d2⟩ | exact F5.out | exact box_far NE.out F5.out) (first
              | (go_at_call 60; refine KV1.out.mono ?_; rintro e w9 ⟨rfl, h2⟩; have B9 := Lib.hid (D9.out.trans (h2.mono D9.out.size)); have F5 := Lib.hid (p := w9.cell? ⟨w2.heap.size, 0, none⟩ = some (.int .i64 (k : Int)) ∧ w9.cell? ⟨w2.heap.size, 1, none⟩ = some (.int .i64 va) ∧ w9.cell? ⟨w2.heap.size, 2, none⟩ = some (.int .i64 0)) ⟨(B9.out.cell (p := ⟨w2.heap.size, 0, none⟩) LS.out).trans DS.out.1, (B9.out.cell (p := ⟨w2.heap.size, 1, none⟩) LS.out).trans DS.out.2.1, (B9.out.cell (p := ⟨w2.heap.size, 2, none⟩) LS.out).trans DS.out.2.2⟩; obtain ⟨_, y0, y1, y2, z0, z1, z2⟩ := TB.out _ (XS.out.trans (B9.out.mono XS.out.size)); clear h2))
            go_wp2
            refine bodyPost_ret (v := .tuple #[.agg #[.int .i64 (k : Int), .int .i64 va, .int .i64 0], .bool (V == 0)]) (by simp [results, Tryz.results30, go_sem, y0, y1, y2]) rfl ?_
            have BF := ((((BS.out.trans (B9.out.mono BS.out.size)).setCell (p := ⟨w.heap.size + 1, 0, none⟩) (Nat.le_succ _) (.int .i64 (k : Int))).setCell (p := ⟨w.heap.size + 1, 1, none⟩) (Nat.le_succ _) (.int .i64 va)).setCell (p := ⟨w.heap.size + 1, 2, none⟩) (Nat.le_succ _) (.int .i64 0))
            exact ⟨⟨⟨(k : Int), va, 0⟩, by rw [HI.out], HJ.out⟩, BF⟩
      by_cases k3 : k = 3
      · obtain rfl : ON = 2 := o3 k3
        have b1 : ((k : Int) == 1) = false := by rw [k3]; rfl
        have b3 : ((k : Int) == 3) = true := by rw [k3]; rfl
        obtain ⟨u1, u2, rfl⟩ : ∃ u v, ws = [u, v] := by
          match ws, q with
          | [u, v], _ => exact ⟨u, v, rfl⟩
        have SZ2 := Lib.hid (HZ.out u2 (by simp))
        have e1 : ((if (2 : Nat) = 0 then some 0 else opdW p k ([u1, u2].getD 0 ⟨#[]⟩)).bind fun a => (if (2 : Nat) ≤ 1 then some 0 else numW ([u1, u2].getD 1 ⟨#[]⟩)).bind fun b => if (In.mk k a b).okP then some (In.mk k a b) else none) = (plcW p.ns u1).bind fun a => (numW u2).bind fun b => if (In.mk k a b).okP then some (In.mk k a b) else none := by simp [opdW, k3]
        rw [e1]
        clear e1 o1 o3 o18 o28 o0 k1 k3
        obtain ⟨OB, hOB⟩ : ∃ o, numW u2 = o := ⟨_, rfl⟩
        have KB := Lib.hid (fun W => KVN.out u2 SZ2.out W)
        rw [hOB] at KB ⊢
        clear hOB
        obtain ⟨OA, hOA⟩ : ∃ o, plcW p.ns u1 = o := ⟨_, rfl⟩
        have KA := Lib.hid (fun W (b : Below w.heap.size w W) => KFN.out W b u1)
        have AN := Lib.hid (p := ∀ a, OA = some a → 0 ≤ a) (fun a e => plc_nn (hOA.trans e))
        rw [hOA] at KA ⊢
        clear hOA
        cases OB with
        | none =>
          have eN : (OA.bind fun a => (Option.none : Option Int).bind fun b => if (In.mk k a b).okP then some (In.mk k a b) else none) = none := by cases OA <;> rfl
          rw [eN]
          clear eN
          obtain ⟨A, hA⟩ : ∃ A, OA.getD (-1) = A := ⟨_, rfl⟩
          rw [hA] at KA
          clear hA
          go_enter Tryz.func30, Tryz.ntmps30
          go_upto_region 17 with (first
            | (with_reducible show Calls _ _ _ _ _; rw [hW0])
            | (go_at_call 56; refine (KF.out W0).mono ?_; rintro e w2 ⟨rfl, h2⟩; have X2 := Lib.hid h2; have B2 := Lib.hid (A0.out.trans (h2.mono A0.out.size)); clear h2)
            | (go_at_call 57; refine (KO.out (w2.alloc (.cells #[.int .i64 (k : Int), .int .i64 0, .int .i64 0] 42))).mono ?_; rintro e w3 ⟨rfl, h2⟩; have Y3 := Lib.hid ((allocBP w2 (.cells #[.int .i64 (k : Int), .int .i64 0, .int .i64 0] 42)).trans (h2.mono (allocBP w2 (.cells #[.int .i64 (k : Int), .int .i64 0, .int .i64 0] 42)).size)); have X3 := Lib.hid (X2.out.trans (Y3.out.mono X2.out.size)); have B3 := Lib.hid (A0.out.trans (X3.out.mono A0.out.size)); obtain ⟨g0, g1, g2, f0, f1, f2⟩ := box3 h2; have L3 := Lib.hid (p := w2.heap.size < w3.heap.size) (by have := h2.size; simp at this; omega); have c1 := CW.out w3 B3.out 1 (by simp); simp only [List.getElem_cons_succ, List.getElem_cons_zero] at c1; obtain ⟨⟨p0, p1, p2⟩, _⟩ := TB.out w3 X3.out; clear h2))
          go_region_with (go_at_call 59; refine (KA.out w3.drew B3.out.drew).mono ?_; rintro e w5 ⟨rfl, hw⟩; have hw := hw.symm; subst hw)
          all_goals
            have CT := Lib.hid (p := (w3.setCell ⟨w2.heap.size, 1, none⟩ (.int .i64 A)).drew.cell? ⟨w2.heap.size, 0, none⟩ = some (.int .i64 (k : Int)) ∧ (w3.setCell ⟨w2.heap.size, 1, none⟩ (.int .i64 A)).drew.cell? ⟨w2.heap.size, 1, none⟩ = some (.int .i64 A) ∧ (w3.setCell ⟨w2.heap.size, 1, none⟩ (.int .i64 A)).drew.cell? ⟨w2.heap.size, 2, none⟩ = some (.int .i64 0)) (box_put1 ⟨g0, g1, g2⟩)
            have XT := Lib.hid (X3.out.setCell (p := ⟨w2.heap.size, 1, none⟩) X2.out.size (.int .i64 A) |>.drew)
            have BT := Lib.hid (B3.out.setCell (p := ⟨w2.heap.size, 1, none⟩) B2.out.size (.int .i64 A) |>.drew)
            have LT := Lib.hid (p := w2.heap.size < (w3.setCell ⟨w2.heap.size, 1, none⟩ (.int .i64 A)).drew.heap.size) (by have := L3.out; show _ < (w3.setCell ⟨w2.heap.size, 1, none⟩ (.int .i64 A)).heap.size; simp; omega)
            have fT : (w3.setCell ⟨w2.heap.size, 1, none⟩ (.int .i64 A)).drew.frozen? ⟨w2.heap.size, 2, none⟩ = false := by show (w3.setCell ⟨w2.heap.size, 1, none⟩ (.int .i64 A)).frozen? ⟨w2.heap.size, 2, none⟩ = false; simpa using f2
            obtain ⟨wT, hwT⟩ : ∃ y, (w3.setCell ⟨w2.heap.size, 1, none⟩ (.int .i64 A)).drew = y := ⟨_, rfl⟩
            rw [hwT] at CT XT BT LT fT
            rw [hwT]
            clear hwT g0 g1 g2 f0 f1 f2 c1 p0 p1 p2
            obtain ⟨t0, t1, t2⟩ := CT.out
            have c2 := CW.out wT BT.out 2 (by simp)
            simp only [List.getElem_cons_succ, List.getElem_cons_zero] at c2
            go_upto_region 28 with (go_at_call 29; refine (KB.out wT).mono ?_; rintro e w4 ⟨⟨ib, rfl, hib⟩, hw⟩; have hw := hw.symm; subst hw; clear hib)
            have CB2 := Lib.hid (box_put2 (y := .int .i64 ib) ⟨t0, t1, t2⟩)
            have NE := Lib.hid (p := w2.heap.size ≠ w.heap.size + 1) (by have := X2.out.size; have := Z0.out; omega)
            have XS := Lib.hid (XT.out.setCell (p := ⟨w2.heap.size, 2, none⟩) X2.out.size (.int .i64 ib))
            have BS := Lib.hid (BT.out.setCell (p := ⟨w2.heap.size, 2, none⟩) B2.out.size (.int .i64 ib))
            have LS := Lib.hid (p := w2.heap.size < (wT.setCell ⟨w2.heap.size, 2, none⟩ (.int .i64 ib)).heap.size) (by have := LT.out; simp; omega)
            obtain ⟨wS, hwS⟩ : ∃ y, wT.setCell ⟨w2.heap.size, 2, none⟩ (.int .i64 ib) = y := ⟨_, rfl⟩
            rw [hwS] at CB2 XS BS LS
            rw [hwS]
            clear hwS t0 t1 t2 fT c2
            obtain ⟨d0, d1, d2⟩ := CB2.out
            obtain ⟨_, y0, y1, y2, z0, z1, z2⟩ := TB.out _ XS.out
            go_region
            all_goals
              go_wp2
              refine bodyPost_ret (v := .tuple #[.agg #[.int .i64 (k : Int), .int .i64 A, .int .i64 ib], .bool false]) (by simp [results, Tryz.results30, go_sem, y0, y1, y2]) rfl (OiE.none ?_)
              exact (((BS.out.drew.setCell (p := ⟨w.heap.size + 1, 0, none⟩) (Nat.le_succ _) (.int .i64 (k : Int))).setCell (p := ⟨w.heap.size + 1, 1, none⟩) (Nat.le_succ _) (.int .i64 A)).setCell (p := ⟨w.heap.size + 1, 2, none⟩) (Nat.le_succ _) (.int .i64 ib))
        | some vb =>
          cases OA with
          | none =>
            show Calls _ _ _ _ (fun e w' => OiE w none e w')
            simp only [Option.getD_none] at KA
            go_enter Tryz.func30, Tryz.ntmps30
            go_upto_region 17 with (first
              | (with_reducible show Calls _ _ _ _ _; rw [hW0])
              | (go_at_call 56; refine (KF.out W0).mono ?_; rintro e w2 ⟨rfl, h2⟩; have X2 := Lib.hid h2; have B2 := Lib.hid (A0.out.trans (h2.mono A0.out.size)); clear h2)
              | (go_at_call 57; refine (KO.out (w2.alloc (.cells #[.int .i64 (k : Int), .int .i64 0, .int .i64 0] 42))).mono ?_; rintro e w3 ⟨rfl, h2⟩; have Y3 := Lib.hid ((allocBP w2 (.cells #[.int .i64 (k : Int), .int .i64 0, .int .i64 0] 42)).trans (h2.mono (allocBP w2 (.cells #[.int .i64 (k : Int), .int .i64 0, .int .i64 0] 42)).size)); have X3 := Lib.hid (X2.out.trans (Y3.out.mono X2.out.size)); have B3 := Lib.hid (A0.out.trans (X3.out.mono A0.out.size)); obtain ⟨g0, g1, g2, f0, f1, f2⟩ := box3 h2; have L3 := Lib.hid (p := w2.heap.size < w3.heap.size) (by have := h2.size; simp at this; omega); have c1 := CW.out w3 B3.out 1 (by simp); simp only [List.getElem_cons_succ, List.getElem_cons_zero] at c1; obtain ⟨⟨p0, p1, p2⟩, _⟩ := TB.out w3 X3.out; clear h2))
            go_region_with (go_at_call 59; refine (KA.out w3.drew B3.out.drew).mono ?_; rintro e w5 ⟨rfl, hw⟩; have hw := hw.symm; subst hw)
            all_goals
              have CT := Lib.hid (p := (w3.setCell ⟨w2.heap.size, 1, none⟩ (.int .i64 (-1))).drew.cell? ⟨w2.heap.size, 0, none⟩ = some (.int .i64 (k : Int)) ∧ (w3.setCell ⟨w2.heap.size, 1, none⟩ (.int .i64 (-1))).drew.cell? ⟨w2.heap.size, 1, none⟩ = some (.int .i64 (-1)) ∧ (w3.setCell ⟨w2.heap.size, 1, none⟩ (.int .i64 (-1))).drew.cell? ⟨w2.heap.size, 2, none⟩ = some (.int .i64 0)) (box_put1 ⟨g0, g1, g2⟩)
              have XT := Lib.hid (X3.out.setCell (p := ⟨w2.heap.size, 1, none⟩) X2.out.size (.int .i64 (-1)) |>.drew)
              have BT := Lib.hid (B3.out.setCell (p := ⟨w2.heap.size, 1, none⟩) B2.out.size (.int .i64 (-1)) |>.drew)
              have LT := Lib.hid (p := w2.heap.size < (w3.setCell ⟨w2.heap.size, 1, none⟩ (.int .i64 (-1))).drew.heap.size) (by have := L3.out; show _ < (w3.setCell ⟨w2.heap.size, 1, none⟩ (.int .i64 (-1))).heap.size; simp; omega)
              have fT : (w3.setCell ⟨w2.heap.size, 1, none⟩ (.int .i64 (-1))).drew.frozen? ⟨w2.heap.size, 2, none⟩ = false := by show (w3.setCell ⟨w2.heap.size, 1, none⟩ (.int .i64 (-1))).frozen? ⟨w2.heap.size, 2, none⟩ = false; simpa using f2
              obtain ⟨wT, hwT⟩ : ∃ y, (w3.setCell ⟨w2.heap.size, 1, none⟩ (.int .i64 (-1))).drew = y := ⟨_, rfl⟩
              rw [hwT] at CT XT BT LT fT
              rw [hwT]
              clear hwT g0 g1 g2 f0 f1 f2 c1 p0 p1 p2
              obtain ⟨t0, t1, t2⟩ := CT.out
              have c2 := CW.out wT BT.out 2 (by simp)
              simp only [List.getElem_cons_succ, List.getElem_cons_zero] at c2
              go_upto_region 28 with (go_at_call 29; refine (KB.out wT).mono ?_; rintro e w4 ⟨⟨ib, rfl, hib⟩, hw⟩; have hw := hw.symm; subst hw; obtain rfl := hib vb rfl; clear hib)
              have CB2 := Lib.hid (box_put2 (y := .int .i64 ib) ⟨t0, t1, t2⟩)
              have NE := Lib.hid (p := w2.heap.size ≠ w.heap.size + 1) (by have := X2.out.size; have := Z0.out; omega)
              have XS := Lib.hid (XT.out.setCell (p := ⟨w2.heap.size, 2, none⟩) X2.out.size (.int .i64 ib))
              have BS := Lib.hid (BT.out.setCell (p := ⟨w2.heap.size, 2, none⟩) B2.out.size (.int .i64 ib))
              have LS := Lib.hid (p := w2.heap.size < (wT.setCell ⟨w2.heap.size, 2, none⟩ (.int .i64 ib)).heap.size) (by have := LT.out; simp; omega)
              obtain ⟨wS, hwS⟩ : ∃ y, wT.setCell ⟨w2.heap.size, 2, none⟩ (.int .i64 ib) = y := ⟨_, rfl⟩
              rw [hwS] at CB2 XS BS LS
              rw [hwS]
              clear hwS t0 t1 t2 fT c2
              obtain ⟨d0, d1, d2⟩ := CB2.out
              obtain ⟨_, y0, y1, y2, z0, z1, z2⟩ := TB.out _ XS.out
              go_region
              all_goals
                go_wp2
                refine bodyPost_ret (v := .tuple #[.agg #[.int .i64 (k : Int), .int .i64 (-1), .int .i64 ib], .bool false]) (by simp [results, Tryz.results30, go_sem, y0, y1, y2]) rfl (OiE.none ?_)
                exact (((BS.out.drew.setCell (p := ⟨w.heap.size + 1, 0, none⟩) (Nat.le_succ _) (.int .i64 (k : Int))).setCell (p := ⟨w.heap.size + 1, 1, none⟩) (Nat.le_succ _) (.int .i64 (-1))).setCell (p := ⟨w.heap.size + 1, 2, none⟩) (Nat.le_succ _) (.int .i64 ib))
          | some va =>
            have ha0 := AN.out va rfl
            simp only [Option.getD_some] at KA
            show Calls _ _ _ _ (fun e w' => OiE w (if (In.mk k va vb).okP then some (In.mk k va vb) else none) e w')
            obtain ⟨RES, hRES⟩ : ∃ R, (if (In.mk k va vb).okP then some (In.mk k va vb) else none) = R := ⟨_, rfl⟩
            obtain ⟨V, hV⟩ : ∃ V, okV ⟨(k : Int), va, vb⟩ = V := ⟨_, rfl⟩
            have HI := Lib.hid (p := RES.isSome = (V == 0)) (by
              rw [← hRES, ← hV]
              unfold okV
              split <;> simp)
            have HJ := Lib.hid (p := ∀ j, RES = some j → In.mk k va vb = j) (fun j e => by
              rw [← hRES] at e
              split at e
              · injection e
              · cases e)
            rw [hRES]
            clear hRES
            go_enter Tryz.func30, Tryz.ntmps30
            go_upto_region 17 with (first
              | (with_reducible show Calls _ _ _ _ _; rw [hW0])
              | (go_at_call 56; refine (KF.out W0).mono ?_; rintro e w2 ⟨rfl, h2⟩; have X2 := Lib.hid h2; have B2 := Lib.hid (A0.out.trans (h2.mono A0.out.size)); clear h2)
              | (go_at_call 57; refine (KO.out (w2.alloc (.cells #[.int .i64 (k : Int), .int .i64 0, .int .i64 0] 42))).mono ?_; rintro e w3 ⟨rfl, h2⟩; have Y3 := Lib.hid ((allocBP w2 (.cells #[.int .i64 (k : Int), .int .i64 0, .int .i64 0] 42)).trans (h2.mono (allocBP w2 (.cells #[.int .i64 (k : Int), .int .i64 0, .int .i64 0] 42)).size)); have X3 := Lib.hid (X2.out.trans (Y3.out.mono X2.out.size)); have B3 := Lib.hid (A0.out.trans (X3.out.mono A0.out.size)); obtain ⟨g0, g1, g2, f0, f1, f2⟩ := box3 h2; have L3 := Lib.hid (p := w2.heap.size < w3.heap.size) (by have := h2.size; simp at this; omega); have c1 := CW.out w3 B3.out 1 (by simp); simp only [List.getElem_cons_succ, List.getElem_cons_zero] at c1; obtain ⟨⟨p0, p1, p2⟩, _⟩ := TB.out w3 X3.out; clear h2))
            go_region_with (go_at_call 59; refine (KA.out w3.drew B3.out.drew).mono ?_; rintro e w5 ⟨rfl, hw⟩; have hw := hw.symm; subst hw)
            all_goals
              have CT := Lib.hid (p := (w3.setCell ⟨w2.heap.size, 1, none⟩ (.int .i64 va)).drew.cell? ⟨w2.heap.size, 0, none⟩ = some (.int .i64 (k : Int)) ∧ (w3.setCell ⟨w2.heap.size, 1, none⟩ (.int .i64 va)).drew.cell? ⟨w2.heap.size, 1, none⟩ = some (.int .i64 va) ∧ (w3.setCell ⟨w2.heap.size, 1, none⟩ (.int .i64 va)).drew.cell? ⟨w2.heap.size, 2, none⟩ = some (.int .i64 0)) (box_put1 ⟨g0, g1, g2⟩)
              have XT := Lib.hid (X3.out.setCell (p := ⟨w2.heap.size, 1, none⟩) X2.out.size (.int .i64 va) |>.drew)
              have BT := Lib.hid (B3.out.setCell (p := ⟨w2.heap.size, 1, none⟩) B2.out.size (.int .i64 va) |>.drew)
              have LT := Lib.hid (p := w2.heap.size < (w3.setCell ⟨w2.heap.size, 1, none⟩ (.int .i64 va)).drew.heap.size) (by have := L3.out; show _ < (w3.setCell ⟨w2.heap.size, 1, none⟩ (.int .i64 va)).heap.size; simp; omega)
              have fT : (w3.setCell ⟨w2.heap.size, 1, none⟩ (.int .i64 va)).drew.frozen? ⟨w2.heap.size, 2, none⟩ = false := by show (w3.setCell ⟨w2.heap.size, 1, none⟩ (.int .i64 va)).frozen? ⟨w2.heap.size, 2, none⟩ = false; simpa using f2
              obtain ⟨wT, hwT⟩ : ∃ y, (w3.setCell ⟨w2.heap.size, 1, none⟩ (.int .i64 va)).drew = y := ⟨_, rfl⟩
              rw [hwT] at CT XT BT LT fT
              rw [hwT]
              clear hwT g0 g1 g2 f0 f1 f2 c1 p0 p1 p2
              obtain ⟨t0, t1, t2⟩ := CT.out
              have c2 := CW.out wT BT.out 2 (by simp)
              simp only [List.getElem_cons_succ, List.getElem_cons_zero] at c2
              go_upto_region 28 with (go_at_call 29; refine (KB.out wT).mono ?_; rintro e w4 ⟨⟨ib, rfl, hib⟩, hw⟩; have hw := hw.symm; subst hw; obtain rfl := hib vb rfl; clear hib)
              have CB2 := Lib.hid (box_put2 (y := .int .i64 ib) ⟨t0, t1, t2⟩)
              have NE := Lib.hid (p := w2.heap.size ≠ w.heap.size + 1) (by have := X2.out.size; have := Z0.out; omega)
              have XS := Lib.hid (XT.out.setCell (p := ⟨w2.heap.size, 2, none⟩) X2.out.size (.int .i64 ib))
              have BS := Lib.hid (BT.out.setCell (p := ⟨w2.heap.size, 2, none⟩) B2.out.size (.int .i64 ib))
              have LS := Lib.hid (p := w2.heap.size < (wT.setCell ⟨w2.heap.size, 2, none⟩ (.int .i64 ib)).heap.size) (by have := LT.out; simp; omega)
              obtain ⟨wS, hwS⟩ : ∃ y, wT.setCell ⟨w2.heap.size, 2, none⟩ (.int .i64 ib) = y := ⟨_, rfl⟩
              rw [hwS] at CB2 XS BS LS
              rw [hwS]
              clear hwS t0 t1 t2 fT c2
              obtain ⟨d0, d1, d2⟩ := CB2.out
              have D9 := Lib.hid (p := Below wS.heap.size wS wS.drew) (Below.refl _ wS).drew
              have KV1 := Lib.hid (KV.out (k : Int) va ib wS.drew)
              rw [hV] at KV1
              have DS := Lib.hid (And.intro d0 (And.intro d1 d2))
              go_region_held3 (fun w' => w'.cell? ⟨w2.heap.size, 0, none⟩ = some (.int .i64 (k : Int)) ∧ w'.cell? ⟨w2.heap.size, 1, none⟩ = some (.int .i64 va) ∧ w'.cell? ⟨w2.heap.size, 2, none⟩ = some (.int .i64 ib)) (first | exact ⟨d0, d1, d2⟩ | exact F5.out | exact box_far NE.out F5.out) (first
                | (go_at_call 60; refine KV1.out.mono ?_; rintro e w9 ⟨rfl, h2⟩; have B9 := Lib.hid (D9.out.trans (h2.mono D9.out.size)); have F5 := Lib.hid (p := w9.cell? ⟨w2.heap.size, 0, none⟩ = some (.int .i64 (k : Int)) ∧ w9.cell? ⟨w2.heap.size, 1, none⟩ = some (.int .i64 va) ∧ w9.cell? ⟨w2.heap.size, 2, none⟩ = some (.int .i64 ib)) ⟨(B9.out.cell (p := ⟨w2.heap.size, 0, none⟩) LS.out).trans DS.out.1, (B9.out.cell (p := ⟨w2.heap.size, 1, none⟩) LS.out).trans DS.out.2.1, (B9.out.cell (p := ⟨w2.heap.size, 2, none⟩) LS.out).trans DS.out.2.2⟩; obtain ⟨_, y0, y1, y2, z0, z1, z2⟩ := TB.out _ (XS.out.trans (B9.out.mono XS.out.size)); clear h2))
              go_wp2
              refine bodyPost_ret (v := .tuple #[.agg #[.int .i64 (k : Int), .int .i64 va, .int .i64 ib], .bool (V == 0)]) (by simp [results, Tryz.results30, go_sem, y0, y1, y2]) rfl ?_
              have BF := ((((BS.out.trans (B9.out.mono BS.out.size)).setCell (p := ⟨w.heap.size + 1, 0, none⟩) (Nat.le_succ _) (.int .i64 (k : Int))).setCell (p := ⟨w.heap.size + 1, 1, none⟩) (Nat.le_succ _) (.int .i64 va)).setCell (p := ⟨w.heap.size + 1, 2, none⟩) (Nat.le_succ _) (.int .i64 ib))
              exact ⟨⟨⟨(k : Int), va, ib⟩, by rw [HI.out], HJ.out⟩, BF⟩
      by_cases k28 : k = 28
      · obtain rfl : ON = 1 := o28 k28
        have b1 : ((k : Int) == 1) = false := by rw [k28]; rfl
        have b3 : ((k : Int) == 3) = false := by rw [k28]; rfl
        have b18 : ((k : Int) == 18) = false := by rw [k28]; rfl
        have b28 : ((k : Int) == 28) = true := by rw [k28]; rfl
        obtain ⟨u1, rfl⟩ : ∃ u, ws = [u] := List.length_eq_one_iff.1 q
        have e1 : ((if (1 : Nat) = 0 then some 0 else opdW p k ([u1].getD 0 ⟨#[]⟩)).bind fun a => (if (1 : Nat) ≤ 1 then some 0 else numW ([u1].getD 1 ⟨#[]⟩)).bind fun b => if (In.mk k a b).okP then some (In.mk k a b) else none) = (plcW p.cs u1).bind fun a => if (In.mk k a 0).okP then some (In.mk k a 0) else none := by simp [opdW, k28]
        rw [e1]
        clear e1 o1 o3 o18 o28 o0 k1 k3 k28
        obtain ⟨OA, hOA⟩ : ∃ o, plcW p.cs u1 = o := ⟨_, rfl⟩
        have KA := Lib.hid (fun W (b : Below w.heap.size w W) => KFU.out W b u1)
        have AN := Lib.hid (p := ∀ a, OA = some a → 0 ≤ a) (fun a e => plc_nn (hOA.trans e))
        rw [hOA] at KA ⊢
        clear hOA
        cases OA with
        | none =>
          show Calls _ _ _ _ (fun e w' => OiE w none e w')
          simp only [Option.getD_none] at KA
          go_enter Tryz.func30, Tryz.ntmps30
          go_upto_region 27 with (first
            | (with_reducible show Calls _ _ _ _ _; rw [hW0])
            | (go_at_call 56; refine (KF.out W0).mono ?_; rintro e w2 ⟨rfl, h2⟩; have X2 := Lib.hid h2; have B2 := Lib.hid (A0.out.trans (h2.mono A0.out.size)); clear h2)
            | (go_at_call 57; refine (KO.out (w2.alloc (.cells #[.int .i64 (k : Int), .int .i64 0, .int .i64 0] 42))).mono ?_; rintro e w3 ⟨rfl, h2⟩; have Y3 := Lib.hid ((allocBP w2 (.cells #[.int .i64 (k : Int), .int .i64 0, .int .i64 0] 42)).trans (h2.mono (allocBP w2 (.cells #[.int .i64 (k : Int), .int .i64 0, .int .i64 0] 42)).size)); have X3 := Lib.hid (X2.out.trans (Y3.out.mono X2.out.size)); have B3 := Lib.hid (A0.out.trans (X3.out.mono A0.out.size)); obtain ⟨g0, g1, g2, f0, f1, f2⟩ := box3 h2; have L3 := Lib.hid (p := w2.heap.size < w3.heap.size) (by have := h2.size; simp at this; omega); have c1 := CW.out w3 B3.out 1 (by simp); simp only [List.getElem_cons_succ, List.getElem_cons_zero] at c1; obtain ⟨⟨p0, p1, p2⟩, _⟩ := TB.out w3 X3.out; clear h2))
          go_region_with (go_at_call 59; refine (KA.out w3.drew B3.out.drew).mono ?_; rintro e w5 ⟨rfl, hw⟩; have hw := hw.symm; subst hw)
          all_goals
            have CT := Lib.hid (p := (w3.setCell ⟨w2.heap.size, 1, none⟩ (.int .i64 (-1))).drew.cell? ⟨w2.heap.size, 0, none⟩ = some (.int .i64 (k : Int)) ∧ (w3.setCell ⟨w2.heap.size, 1, none⟩ (.int .i64 (-1))).drew.cell? ⟨w2.heap.size, 1, none⟩ = some (.int .i64 (-1)) ∧ (w3.setCell ⟨w2.heap.size, 1, none⟩ (.int .i64 (-1))).drew.cell? ⟨w2.heap.size, 2, none⟩ = some (.int .i64 0)) (box_put1 ⟨g0, g1, g2⟩)
            have XT := Lib.hid (X3.out.setCell (p := ⟨w2.heap.size, 1, none⟩) X2.out.size (.int .i64 (-1)) |>.drew)
            have BT := Lib.hid (B3.out.setCell (p := ⟨w2.heap.size, 1, none⟩) B2.out.size (.int .i64 (-1)) |>.drew)
            have LT := Lib.hid (p := w2.heap.size < (w3.setCell ⟨w2.heap.size, 1, none⟩ (.int .i64 (-1))).drew.heap.size) (by have := L3.out; show _ < (w3.setCell ⟨w2.heap.size, 1, none⟩ (.int .i64 (-1))).heap.size; simp; omega)
            have fT : (w3.setCell ⟨w2.heap.size, 1, none⟩ (.int .i64 (-1))).drew.frozen? ⟨w2.heap.size, 2, none⟩ = false := by show (w3.setCell ⟨w2.heap.size, 1, none⟩ (.int .i64 (-1))).frozen? ⟨w2.heap.size, 2, none⟩ = false; simpa using f2
            obtain ⟨wT, hwT⟩ : ∃ y, (w3.setCell ⟨w2.heap.size, 1, none⟩ (.int .i64 (-1))).drew = y := ⟨_, rfl⟩
            rw [hwT] at CT XT BT LT fT
            rw [hwT]
            clear hwT g0 g1 g2 f0 f1 f2 c1 p0 p1 p2
            obtain ⟨d0, d1, d2⟩ := CT.out
            have NE := Lib.hid (p := w2.heap.size ≠ w.heap.size + 1) (by have := X2.out.size; have := Z0.out; omega)
            clear fT
            go_upto_region 28 with (fail)
            obtain ⟨_, y0, y1, y2, z0, z1, z2⟩ := TB.out _ XT.out
            go_region
            all_goals
              go_wp2
              refine bodyPost_ret (v := .tuple #[.agg #[.int .i64 (k : Int), .int .i64 (-1), .int .i64 0], .bool false]) (by simp [results, Tryz.results30, go_sem, y0, y1, y2]) rfl (OiE.none ?_)
              exact (((BT.out.drew.setCell (p := ⟨w.heap.size + 1, 0, none⟩) (Nat.le_succ _) (.int .i64 (k : Int))).setCell (p := ⟨w.heap.size + 1, 1, none⟩) (Nat.le_succ _) (.int .i64 (-1))).setCell (p := ⟨w.heap.size + 1, 2, none⟩) (Nat.le_succ _) (.int .i64 0))
        | some va =>
          have ha0 := AN.out va rfl
          simp only [Option.getD_some] at KA
          show Calls _ _ _ _ (fun e w' => OiE w (if (In.mk k va 0).okP then some (In.mk k va 0) else none) e w')
          obtain ⟨RES, hRES⟩ : ∃ R, (if (In.mk k va 0).okP then some (In.mk k va 0) else none) = R := ⟨_, rfl⟩
          obtain ⟨V, hV⟩ : ∃ V, okV ⟨(k : Int), va, 0⟩ = V := ⟨_, rfl⟩
          have HI := Lib.hid (p := RES.isSome = (V == 0)) (by
            rw [← hRES, ← hV]
            unfold okV
            split <;> simp)
          have HJ := Lib.hid (p := ∀ j, RES = some j → In.mk k va 0 = j) (fun j e => by
            rw [← hRES] at e
            split at e
            · injection e
            · cases e)
          rw [hRES]
          clear hRES
          go_enter Tryz.func30, Tryz.ntmps30
          go_upto_region 27 with (first
            | (with_reducible show Calls _ _ _ _ _; rw [hW0])
            | (go_at_call 56; refine (KF.out W0).mono ?_; rintro e w2 ⟨rfl, h2⟩; have X2 := Lib.hid h2; have B2 := Lib.hid (A0.out.trans (h2.mono A0.out.size)); clear h2)
            | (go_at_call 57; refine (KO.out (w2.alloc (.cells #[.int .i64 (k : Int), .int .i64 0, .int .i64 0] 42))).mono ?_; rintro e w3 ⟨rfl, h2⟩; have Y3 := Lib.hid ((allocBP w2 (.cells #[.int .i64 (k : Int), .int .i64 0, .int .i64 0] 42)).trans (h2.mono (allocBP w2 (.cells #[.int .i64 (k : Int), .int .i64 0, .int .i64 0] 42)).size)); have X3 := Lib.hid (X2.out.trans (Y3.out.mono X2.out.size)); have B3 := Lib.hid (A0.out.trans (X3.out.mono A0.out.size)); obtain ⟨g0, g1, g2, f0, f1, f2⟩ := box3 h2; have L3 := Lib.hid (p := w2.heap.size < w3.heap.size) (by have := h2.size; simp at this; omega); have c1 := CW.out w3 B3.out 1 (by simp); simp only [List.getElem_cons_succ, List.getElem_cons_zero] at c1; obtain ⟨⟨p0, p1, p2⟩, _⟩ := TB.out w3 X3.out; clear h2))
          go_region_with (go_at_call 59; refine (KA.out w3.drew B3.out.drew).mono ?_; rintro e w5 ⟨rfl, hw⟩; have hw := hw.symm; subst hw)
          all_goals
            have CT := Lib.hid (p := (w3.setCell ⟨w2.heap.size, 1, none⟩ (.int .i64 va)).drew.cell? ⟨w2.heap.size, 0, none⟩ = some (.int .i64 (k : Int)) ∧ (w3.setCell ⟨w2.heap.size, 1, none⟩ (.int .i64 va)).drew.cell? ⟨w2.heap.size, 1, none⟩ = some (.int .i64 va) ∧ (w3.setCell ⟨w2.heap.size, 1, none⟩ (.int .i64 va)).drew.cell? ⟨w2.heap.size, 2, none⟩ = some (.int .i64 0)) (box_put1 ⟨g0, g1, g2⟩)
            have XT := Lib.hid (X3.out.setCell (p := ⟨w2.heap.size, 1, none⟩) X2.out.size (.int .i64 va) |>.drew)
            have BT := Lib.hid (B3.out.setCell (p := ⟨w2.heap.size, 1, none⟩) B2.out.size (.int .i64 va) |>.drew)
            have LT := Lib.hid (p := w2.heap.size < (w3.setCell ⟨w2.heap.size, 1, none⟩ (.int .i64 va)).drew.heap.size) (by have := L3.out; show _ < (w3.setCell ⟨w2.heap.size, 1, none⟩ (.int .i64 va)).heap.size; simp; omega)
            have fT : (w3.setCell ⟨w2.heap.size, 1, none⟩ (.int .i64 va)).drew.frozen? ⟨w2.heap.size, 2, none⟩ = false := by show (w3.setCell ⟨w2.heap.size, 1, none⟩ (.int .i64 va)).frozen? ⟨w2.heap.size, 2, none⟩ = false; simpa using f2
            obtain ⟨wT, hwT⟩ : ∃ y, (w3.setCell ⟨w2.heap.size, 1, none⟩ (.int .i64 va)).drew = y := ⟨_, rfl⟩
            rw [hwT] at CT XT BT LT fT
            rw [hwT]
            clear hwT g0 g1 g2 f0 f1 f2 c1 p0 p1 p2
            obtain ⟨d0, d1, d2⟩ := CT.out
            have NE := Lib.hid (p := w2.heap.size ≠ w.heap.size + 1) (by have := X2.out.size; have := Z0.out; omega)
            clear fT
            go_upto_region 28 with (fail)
            have D9 := Lib.hid (p := Below wT.heap.size wT wT.drew) (Below.refl _ wT).drew
            have KV1 := Lib.hid (KV.out (k : Int) va 0 wT.drew)
            rw [hV] at KV1
            have DS := Lib.hid (And.intro d0 (And.intro d1 d2))
            go_region_held3 (fun w' => w'.cell? ⟨w2.heap.size, 0, none⟩ = some (.int .i64 (k : Int)) ∧ w'.cell? ⟨w2.heap.size, 1, none⟩ = some (.int .i64 va) ∧ w'.cell? ⟨w2.heap.size, 2, none⟩ = some (.int .i64 0)) (first | exact ⟨d0, d1, d2⟩ | exact F5.out | exact box_far NE.out F5.out) (first
              | (go_at_call 60; refine KV1.out.mono ?_; rintro e w9 ⟨rfl, h2⟩; have B9 := Lib.hid (D9.out.trans (h2.mono D9.out.size)); have F5 := Lib.hid (p := w9.cell? ⟨w2.heap.size, 0, none⟩ = some (.int .i64 (k : Int)) ∧ w9.cell? ⟨w2.heap.size, 1, none⟩ = some (.int .i64 va) ∧ w9.cell? ⟨w2.heap.size, 2, none⟩ = some (.int .i64 0)) ⟨(B9.out.cell (p := ⟨w2.heap.size, 0, none⟩) LT.out).trans DS.out.1, (B9.out.cell (p := ⟨w2.heap.size, 1, none⟩) LT.out).trans DS.out.2.1, (B9.out.cell (p := ⟨w2.heap.size, 2, none⟩) LT.out).trans DS.out.2.2⟩; obtain ⟨_, y0, y1, y2, z0, z1, z2⟩ := TB.out _ (XT.out.trans (B9.out.mono XT.out.size)); clear h2))
            go_wp2
            refine bodyPost_ret (v := .tuple #[.agg #[.int .i64 (k : Int), .int .i64 va, .int .i64 0], .bool (V == 0)]) (by simp [results, Tryz.results30, go_sem, y0, y1, y2]) rfl ?_
            have BF := ((((BT.out.trans (B9.out.mono BT.out.size)).setCell (p := ⟨w.heap.size + 1, 0, none⟩) (Nat.le_succ _) (.int .i64 (k : Int))).setCell (p := ⟨w.heap.size + 1, 1, none⟩) (Nat.le_succ _) (.int .i64 va)).setCell (p := ⟨w.heap.size + 1, 2, none⟩) (Nat.le_succ _) (.int .i64 0))
            exact ⟨⟨⟨(k : Int), va, 0⟩, by rw [HI.out], HJ.out⟩, BF⟩
      by_cases k18 : k = 18
      · obtain rfl : ON = 1 := o18 k18
        have b1 : ((k : Int) == 1) = false := by rw [k18]; rfl
        have b3 : ((k : Int) == 3) = false := by rw [k18]; rfl
        have b18 : ((k : Int) == 18) = true := by rw [k18]; rfl
        obtain ⟨u1, rfl⟩ : ∃ u, ws = [u] := List.length_eq_one_iff.1 q
        have e1 : ((if (1 : Nat) = 0 then some 0 else opdW p k ([u1].getD 0 ⟨#[]⟩)).bind fun a => (if (1 : Nat) ≤ 1 then some 0 else numW ([u1].getD 1 ⟨#[]⟩)).bind fun b => if (In.mk k a b).okP then some (In.mk k a b) else none) = (plcW mdL u1).bind fun a => if (In.mk k a 0).okP then some (In.mk k a 0) else none := by simp [opdW, k18]
        rw [e1]
        clear e1 o1 o3 o18 o28 o0 k1 k3 k28 k18
        obtain ⟨OA, hOA⟩ : ∃ o, plcW mdL u1 = o := ⟨_, rfl⟩
        have AN := Lib.hid (p := ∀ a, OA = some a → 0 ≤ a) (fun a e => plc_nn (hOA.trans e))
        have HT := Lib.hid (p := ∀ i, i < 5 → mdA i = u1 → OA = some (i : Int)) (fun i hi e => by
          rw [← hOA]
          refine plc_at (show i < mdL.length from hi) ((md_get i hi).trans e) (fun j hj => ?_)
          rw [md_get j (by omega)]
          exact fun e2 => absurd (md_inj i hi j (by omega) (e.trans e2.symm)) (by omega))
        have HM := Lib.hid (p := (∀ i, i < 5 → mdA i ≠ u1) → OA = none) (fun hh => by
          rw [← hOA]
          refine plc_not (fun j hj => ?_)
          have h5 : j < 5 := hj
          rw [md_get j h5]
          exact hh j h5)
        rw [hOA]
        clear hOA
        obtain ⟨GO, hGO⟩ : ∃ o, (OA.bind fun a => if (In.mk k a 0).okP then some (In.mk k a 0) else none) = o := ⟨_, rfl⟩
        have GE := Lib.hid hGO
        rw [hGO]
        clear hGO
        go_enter Tryz.func30, Tryz.ntmps30
        go_wp2_with (first
          | (with_reducible show Calls _ _ _ _ _; rw [hW0])
          | (go_at_call 56; refine (KF.out W0).mono ?_; rintro e w2 ⟨rfl, h2⟩; have X2 := Lib.hid h2; have B2 := Lib.hid (A0.out.trans (h2.mono A0.out.size)); clear h2)
          | (go_at_call 57; refine (KO.out (w2.alloc (.cells #[.int .i64 (k : Int), .int .i64 0, .int .i64 0] 42))).mono ?_; rintro e w3 ⟨rfl, h2⟩; have Y3 := Lib.hid ((allocBP w2 (.cells #[.int .i64 (k : Int), .int .i64 0, .int .i64 0] 42)).trans (h2.mono (allocBP w2 (.cells #[.int .i64 (k : Int), .int .i64 0, .int .i64 0] 42)).size)); have X3 := Lib.hid (X2.out.trans (Y3.out.mono X2.out.size)); have B3 := Lib.hid (A0.out.trans (X3.out.mono A0.out.size)); obtain ⟨g0, g1, g2, f0, f1, f2⟩ := box3 h2; have L3 := Lib.hid (p := w2.heap.size < w3.heap.size) (by have := h2.size; simp at this; omega); have c1 := CW.out w3 B3.out 1 (by simp); simp only [List.getElem_cons_succ, List.getElem_cons_zero] at c1; obtain ⟨⟨p0, p1, p2⟩, _⟩ := TB.out w3 X3.out; clear h2))
        go_loopw [14] (fun t W => ∃ (j : Nat) (A : Int), j ≤ 5 ∧ t = .int .i64 (j : Int) ∧ RowKit.Hid ((∀ i, i < j → mdA i = u1 → A = (i : Int)) ∧ ((∀ i, i < j → mdA i ≠ u1) → A = -1)) ∧ RowKit.Hid (Below w.heap.size w W) ∧ RowKit.Hid (Below W0.heap.size W0 W) ∧ RowKit.Hid (w2.heap.size < W.heap.size) ∧ RowKit.Hid ((W.cell? ⟨w2.heap.size, 0, none⟩ = some (.int .i64 (k : Int)) ∧ W.cell? ⟨w2.heap.size, 1, none⟩ = some (.int .i64 A) ∧ W.cell? ⟨w2.heap.size, 2, none⟩ = some (.int .i64 0)) ∧ W.frozen? ⟨w2.heap.size, 1, none⟩ = false)) (fun t _ => 5 - (intOf t).toNat)
        case atStart =>
          refine ⟨0, -1, by omega, rfl, ⟨fun i q => absurd q (by omega), fun _ => rfl⟩, B3.out.setCell (p := ⟨w2.heap.size, 1, none⟩) B2.out.size _, X3.out.setCell (p := ⟨w2.heap.size, 1, none⟩) X2.out.size _, by have := L3.out; show _ < _; simp; omega, ⟨box_put1 ⟨g0, g1, g2⟩, by simpa using f1⟩⟩
        case round =>
          rename World => W
          obtain ⟨j, A, j5, rfl, HA, BW, XW, LW, HC⟩ := hrel
          clear g0 g1 g2 f0 f1 f2 c1 p0 p1 p2
          obtain ⟨⟨g0, g1, g2⟩, f1⟩ := HC.out
          by_cases jl : j < 5
          · have jc : (j : Int) < 5 := by omega
            have cm := MD.out W BW.out j jl
            have c1 := CW.out W BW.out 1 (by simp)
            simp only [List.getElem_cons_succ, List.getElem_cons_zero] at c1
            have NA1 := Lib.hid (p := mdA j = u1 → (∀ i, i < j + 1 → mdA i = u1 → (j : Int) = (i : Int)) ∧ ((∀ i, i < j + 1 → mdA i ≠ u1) → (j : Int) = -1)) (fun e => ⟨fun i hi e2 => by rw [md_inj j jl i (by omega) (e.trans e2.symm)], fun h => absurd e (h j (by omega))⟩)
            have NA2 := Lib.hid (p := mdA j ≠ u1 → (∀ i, i < j + 1 → mdA i = u1 → A = (i : Int)) ∧ ((∀ i, i < j + 1 → mdA i ≠ u1) → A = -1)) (fun ne => ⟨fun i hi e2 => HA.out.1 i (by rcases (show i < j ∨ i = j by omega) with g | rfl; exact g; exact absurd e2 ne) e2, fun h => HA.out.2 (fun i hi => h i (by omega))⟩)
            generalize mdA j = y at *
            by_cases e : y = u1
            · have N1 := Lib.hid (NA1.out e)
              subst e
              clear NA1 NA2 HA
              go_wp2
              go_region
              all_goals
                go_wp2
                go_roundw
                case rel => exact ⟨j + 1, (j : Int), by omega, by go_num, N1, BW.out.drew.setCell (p := ⟨w2.heap.size, 1, none⟩) B2.out.size _, XW.out.drew.setCell (p := ⟨w2.heap.size, 1, none⟩) X2.out.size _, by have := LW.out; show _ < _; simp; omega, ⟨box_put1 (W := W.drew) ⟨g0, g1, g2⟩, by simpa using f1⟩⟩
                case measure => simp [intOf]; omega
            · have N1 := Lib.hid (NA2.out e)
              have e' : (y.toList == u1.toList) = false := by
                rw [beq_eq_false_iff_ne]; exact fun q => e (bytes_eq q)
              clear NA1 NA2 HA e
              go_wp2
              go_region
              all_goals
                go_wp2
                go_roundw
                case rel => exact ⟨j + 1, A, by omega, by go_num, N1, BW.out.drew, XW.out.drew, by have := LW.out; show _ < _; simp; omega, ⟨⟨g0, g1, g2⟩, f1⟩⟩
                case measure => simp [intOf]; omega
          · obtain rfl : j = 5 := by omega
            have NE := Lib.hid (p := w2.heap.size ≠ w.heap.size + 1) (by have := X2.out.size; have := Z0.out; omega)
            by_cases hex : ∃ i, i < 5 ∧ mdA i = u1
            · obtain ⟨i, hi, ei⟩ := hex
              obtain rfl := HT.out i hi ei
              obtain rfl := HA.out.1 i hi ei
              have ha0 := AN.out _ rfl
              generalize ((i : Nat) : Int) = va at *
              clear HT HM HA AN f1 ei
              obtain ⟨RES, hRES⟩ : ∃ R, (if (In.mk k va 0).okP then some (In.mk k va 0) else none) = R := ⟨_, rfl⟩
              obtain ⟨V, hV⟩ : ∃ V, okV ⟨(k : Int), va, 0⟩ = V := ⟨_, rfl⟩
              have HI := Lib.hid (p := RES.isSome = (V == 0)) (by
                rw [← hRES, ← hV]
                unfold okV
                split <;> simp)
              have HJ := Lib.hid (p := ∀ j, RES = some j → In.mk k va 0 = j) (fun j e => by
                rw [← hRES] at e
                split at e
                · injection e
                · cases e)
              have gR := GE.out.symm.trans hRES
              subst gR
              clear hRES GE
              go_upto_region 28 with (fail)
              have D9 := Lib.hid (p := Below W.heap.size W W.drew) (Below.refl _ W).drew
              have KV1 := Lib.hid (KV.out (k : Int) va 0 W.drew)
              rw [hV] at KV1
              have DS := Lib.hid (And.intro g0 (And.intro g1 g2))
              go_region_held3 (fun w' => w'.cell? ⟨w2.heap.size, 0, none⟩ = some (.int .i64 (k : Int)) ∧ w'.cell? ⟨w2.heap.size, 1, none⟩ = some (.int .i64 va) ∧ w'.cell? ⟨w2.heap.size, 2, none⟩ = some (.int .i64 0)) (first | exact ⟨g0, g1, g2⟩ | exact F5.out | exact box_far NE.out F5.out) (first
                | (go_at_call 60; refine KV1.out.mono ?_; rintro e w9 ⟨rfl, h2⟩; have B9 := Lib.hid (D9.out.trans (h2.mono D9.out.size)); have F5 := Lib.hid (p := w9.cell? ⟨w2.heap.size, 0, none⟩ = some (.int .i64 (k : Int)) ∧ w9.cell? ⟨w2.heap.size, 1, none⟩ = some (.int .i64 va) ∧ w9.cell? ⟨w2.heap.size, 2, none⟩ = some (.int .i64 0)) ⟨(B9.out.cell (p := ⟨w2.heap.size, 0, none⟩) LW.out).trans DS.out.1, (B9.out.cell (p := ⟨w2.heap.size, 1, none⟩) LW.out).trans DS.out.2.1, (B9.out.cell (p := ⟨w2.heap.size, 2, none⟩) LW.out).trans DS.out.2.2⟩; obtain ⟨_, y0, y1, y2, z0, z1, z2⟩ := TB.out _ (XW.out.trans (B9.out.mono XW.out.size)); clear h2))
              go_wp2
              refine bodyPost_ret (v := .tuple #[.agg #[.int .i64 (k : Int), .int .i64 va, .int .i64 0], .bool (V == 0)]) (by simp [results, Tryz.results30, go_sem, y0, y1, y2]) rfl ?_
              have BF := ((((BW.out.trans (B9.out.mono BW.out.size)).setCell (p := ⟨w.heap.size + 1, 0, none⟩) (Nat.le_succ _) (.int .i64 (k : Int))).setCell (p := ⟨w.heap.size + 1, 1, none⟩) (Nat.le_succ _) (.int .i64 va)).setCell (p := ⟨w.heap.size + 1, 2, none⟩) (Nat.le_succ _) (.int .i64 0))
              exact ⟨⟨⟨(k : Int), va, 0⟩, by rw [HI.out], HJ.out⟩, BF⟩
            · obtain rfl := HM.out (fun i hi ei => hex ⟨i, hi, ei⟩)
              obtain rfl := HA.out.2 (fun i hi ei => hex ⟨i, hi, ei⟩)
              obtain rfl := GE.out
              clear HT HM HA GE AN f1
              go_upto_region 28 with (fail)
              obtain ⟨_, y0, y1, y2, z0, z1, z2⟩ := TB.out _ XW.out
              go_region
              all_goals
                go_wp2
                refine bodyPost_ret (v := .tuple #[.agg #[.int .i64 (k : Int), .int .i64 (-1), .int .i64 0], .bool false]) (by simp [results, Tryz.results30, go_sem, y0, y1, y2]) rfl (OiE.none ?_)
                exact (((BW.out.drew.setCell (p := ⟨w.heap.size + 1, 0, none⟩) (Nat.le_succ _) (.int .i64 (k : Int))).setCell (p := ⟨w.heap.size + 1, 1, none⟩) (Nat.le_succ _) (.int .i64 (-1))).setCell (p := ⟨w.heap.size + 1, 2, none⟩) (Nat.le_succ _) (.int .i64 0))
      have b1 : ((k : Int) == 1) = false := by simp; omega
      have b3 : ((k : Int) == 3) = false := by simp; omega
      have b18 : ((k : Int) == 18) = false := by simp; omega
      have b28 : ((k : Int) == 28) = false := by simp; omega
      have eo : ∀ u, opdW p k u = numW u := fun u => by unfold opdW; rw [if_neg k1, if_neg k3, if_neg k28, if_neg k18]
      rcases o0 k3 with rfl | rfl
      · have e1 : ((if (0 : Nat) = 0 then some 0 else opdW p k (ws.getD 0 ⟨#[]⟩)).bind fun a => (if (0 : Nat) ≤ 1 then some 0 else numW (ws.getD 1 ⟨#[]⟩)).bind fun b => if (In.mk k a b).okP then some (In.mk k a b) else none) = if (In.mk k 0 0).okP then some (In.mk k 0 0) else none := by simp
        rw [e1]
        clear e1 eo o1 o3 o18 o28 o0 k1 k3 k28 k18
        obtain ⟨RES, hRES⟩ : ∃ R, (if (In.mk k 0 0).okP then some (In.mk k 0 0) else none) = R := ⟨_, rfl⟩
        obtain ⟨V, hV⟩ : ∃ V, okV ⟨(k : Int), 0, 0⟩ = V := ⟨_, rfl⟩
        have HI := Lib.hid (p := RES.isSome = (V == 0)) (by
          rw [← hRES, ← hV]
          unfold okV
          split <;> simp)
        have HJ := Lib.hid (p := ∀ j, RES = some j → In.mk k 0 0 = j) (fun j e => by
          rw [← hRES] at e
          split at e
          · injection e
          · cases e)
        rw [hRES]
        clear hRES
        go_enter Tryz.func30, Tryz.ntmps30
        go_upto_region 28 with (first
          | (with_reducible show Calls _ _ _ _ _; rw [hW0])
          | (go_at_call 56; refine (KF.out W0).mono ?_; rintro e w2 ⟨rfl, h2⟩; have X2 := Lib.hid h2; have B2 := Lib.hid (A0.out.trans (h2.mono A0.out.size)); clear h2)
          | (go_at_call 57; refine (KO.out (w2.alloc (.cells #[.int .i64 (k : Int), .int .i64 0, .int .i64 0] 42))).mono ?_; rintro e w3 ⟨rfl, h2⟩; have Y3 := Lib.hid ((allocBP w2 (.cells #[.int .i64 (k : Int), .int .i64 0, .int .i64 0] 42)).trans (h2.mono (allocBP w2 (.cells #[.int .i64 (k : Int), .int .i64 0, .int .i64 0] 42)).size)); have X3 := Lib.hid (X2.out.trans (Y3.out.mono X2.out.size)); have B3 := Lib.hid (A0.out.trans (X3.out.mono A0.out.size)); obtain ⟨g0, g1, g2, f0, f1, f2⟩ := box3 h2; have L3 := Lib.hid (p := w2.heap.size < w3.heap.size) (by have := h2.size; simp at this; omega); obtain ⟨⟨p0, p1, p2⟩, _⟩ := TB.out w3 X3.out; clear h2))
        clear f0 f1 f2 p0 p1 p2
        have NE := Lib.hid (p := w2.heap.size ≠ w.heap.size + 1) (by have := X2.out.size; have := Z0.out; omega)
        have D9 := Lib.hid (p := Below w3.heap.size w3 w3.drew) (Below.refl _ w3).drew
        have KV1 := Lib.hid (KV.out (k : Int) 0 0 w3.drew)
        rw [hV] at KV1
        have DS := Lib.hid (And.intro g0 (And.intro g1 g2))
        go_region_held3 (fun w' => w'.cell? ⟨w2.heap.size, 0, none⟩ = some (.int .i64 (k : Int)) ∧ w'.cell? ⟨w2.heap.size, 1, none⟩ = some (.int .i64 0) ∧ w'.cell? ⟨w2.heap.size, 2, none⟩ = some (.int .i64 0)) (first | exact ⟨g0, g1, g2⟩ | exact F5.out | exact box_far NE.out F5.out) (first
          | (go_at_call 60; refine KV1.out.mono ?_; rintro e w9 ⟨rfl, h2⟩; have B9 := Lib.hid (D9.out.trans (h2.mono D9.out.size)); have F5 := Lib.hid (p := w9.cell? ⟨w2.heap.size, 0, none⟩ = some (.int .i64 (k : Int)) ∧ w9.cell? ⟨w2.heap.size, 1, none⟩ = some (.int .i64 0) ∧ w9.cell? ⟨w2.heap.size, 2, none⟩ = some (.int .i64 0)) ⟨(B9.out.cell (p := ⟨w2.heap.size, 0, none⟩) L3.out).trans DS.out.1, (B9.out.cell (p := ⟨w2.heap.size, 1, none⟩) L3.out).trans DS.out.2.1, (B9.out.cell (p := ⟨w2.heap.size, 2, none⟩) L3.out).trans DS.out.2.2⟩; obtain ⟨_, y0, y1, y2, z0, z1, z2⟩ := TB.out _ (X3.out.trans (B9.out.mono X3.out.size)); clear h2))
        go_wp2
        refine bodyPost_ret (v := .tuple #[.agg #[.int .i64 (k : Int), .int .i64 0, .int .i64 0], .bool (V == 0)]) (by simp [results, Tryz.results30, go_sem, y0, y1, y2]) rfl ?_
        have BF := ((((B3.out.trans (B9.out.mono B3.out.size)).setCell (p := ⟨w.heap.size + 1, 0, none⟩) (Nat.le_succ _) (.int .i64 (k : Int))).setCell (p := ⟨w.heap.size + 1, 1, none⟩) (Nat.le_succ _) (.int .i64 0)).setCell (p := ⟨w.heap.size + 1, 2, none⟩) (Nat.le_succ _) (.int .i64 0))
        exact ⟨⟨⟨(k : Int), 0, 0⟩, by rw [HI.out], HJ.out⟩, BF⟩
      · obtain ⟨u1, rfl⟩ : ∃ u, ws = [u] := List.length_eq_one_iff.1 q
        have SZ1 := Lib.hid (HZ.out u1 (by simp))
        have e1 : ((if (1 : Nat) = 0 then some 0 else opdW p k ([u1].getD 0 ⟨#[]⟩)).bind fun a => (if (1 : Nat) ≤ 1 then some 0 else numW ([u1].getD 1 ⟨#[]⟩)).bind fun b => if (In.mk k a b).okP then some (In.mk k a b) else none) = (numW u1).bind fun a => if (In.mk k a 0).okP then some (In.mk k a 0) else none := by simp [eo]
        rw [e1]
        clear e1 eo o1 o3 o18 o28 o0 k1 k3 k28 k18
        obtain ⟨OA, hOA⟩ : ∃ o, numW u1 = o := ⟨_, rfl⟩
        have KA := Lib.hid (fun W => KVN.out u1 SZ1.out W)
        have AN := Lib.hid (p := ∀ a, OA = some a → 0 ≤ a) (fun a e => numW_nn (hOA.trans e))
        rw [hOA] at KA ⊢
        clear hOA
        cases OA with
        | none =>
          show Calls _ _ _ _ (fun e w' => OiE w none e w')
          go_enter Tryz.func30, Tryz.ntmps30
          go_upto_region 28 with (first
            | (with_reducible show Calls _ _ _ _ _; rw [hW0])
            | (go_at_call 56; refine (KF.out W0).mono ?_; rintro e w2 ⟨rfl, h2⟩; have X2 := Lib.hid h2; have B2 := Lib.hid (A0.out.trans (h2.mono A0.out.size)); clear h2)
            | (go_at_call 57; refine (KO.out (w2.alloc (.cells #[.int .i64 (k : Int), .int .i64 0, .int .i64 0] 42))).mono ?_; rintro e w3 ⟨rfl, h2⟩; have Y3 := Lib.hid ((allocBP w2 (.cells #[.int .i64 (k : Int), .int .i64 0, .int .i64 0] 42)).trans (h2.mono (allocBP w2 (.cells #[.int .i64 (k : Int), .int .i64 0, .int .i64 0] 42)).size)); have X3 := Lib.hid (X2.out.trans (Y3.out.mono X2.out.size)); have B3 := Lib.hid (A0.out.trans (X3.out.mono A0.out.size)); obtain ⟨g0, g1, g2, f0, f1, f2⟩ := box3 h2; have L3 := Lib.hid (p := w2.heap.size < w3.heap.size) (by have := h2.size; simp at this; omega); have c1 := CW.out w3 B3.out 1 (by simp); simp only [List.getElem_cons_succ, List.getElem_cons_zero] at c1; obtain ⟨⟨p0, p1, p2⟩, _⟩ := TB.out w3 X3.out; clear h2)
            | (go_at_call 29; refine (KA.out w3).mono ?_; rintro e w4 ⟨⟨ia, rfl, hia⟩, hw⟩; have hw := hw.symm; subst hw; clear hia))
          have CB2 := Lib.hid (box_put1 (y := .int .i64 ia) ⟨g0, g1, g2⟩)
          have NE := Lib.hid (p := w2.heap.size ≠ w.heap.size + 1) (by have := X2.out.size; have := Z0.out; omega)
          have XS := Lib.hid (X3.out.setCell (p := ⟨w2.heap.size, 1, none⟩) X2.out.size (.int .i64 ia))
          have BS := Lib.hid (B3.out.setCell (p := ⟨w2.heap.size, 1, none⟩) B2.out.size (.int .i64 ia))
          have LS := Lib.hid (p := w2.heap.size < (w3.setCell ⟨w2.heap.size, 1, none⟩ (.int .i64 ia)).heap.size) (by have := L3.out; simp; omega)
          obtain ⟨wS, hwS⟩ : ∃ y, w3.setCell ⟨w2.heap.size, 1, none⟩ (.int .i64 ia) = y := ⟨_, rfl⟩
          rw [hwS] at CB2 XS BS LS
          rw [hwS]
          clear hwS g0 g1 g2 f0 f1 f2
          obtain ⟨d0, d1, d2⟩ := CB2.out
          obtain ⟨_, y0, y1, y2, z0, z1, z2⟩ := TB.out _ XS.out
          go_region
          all_goals
            go_wp2
            refine bodyPost_ret (v := .tuple #[.agg #[.int .i64 (k : Int), .int .i64 ia, .int .i64 0], .bool false]) (by simp [results, Tryz.results30, go_sem, y0, y1, y2]) rfl (OiE.none ?_)
            exact (((BS.out.drew.setCell (p := ⟨w.heap.size + 1, 0, none⟩) (Nat.le_succ _) (.int .i64 (k : Int))).setCell (p := ⟨w.heap.size + 1, 1, none⟩) (Nat.le_succ _) (.int .i64 ia)).setCell (p := ⟨w.heap.size + 1, 2, none⟩) (Nat.le_succ _) (.int .i64 0))
        | some va =>
          have ha0 := AN.out va rfl
          show Calls _ _ _ _ (fun e w' => OiE w (if (In.mk k va 0).okP then some (In.mk k va 0) else none) e w')
          obtain ⟨RES, hRES⟩ : ∃ R, (if (In.mk k va 0).okP then some (In.mk k va 0) else none) = R := ⟨_, rfl⟩
          obtain ⟨V, hV⟩ : ∃ V, okV ⟨(k : Int), va, 0⟩ = V := ⟨_, rfl⟩
          have HI := Lib.hid (p := RES.isSome = (V == 0)) (by
            rw [← hRES, ← hV]
            unfold okV
            split <;> simp)
          have HJ := Lib.hid (p := ∀ j, RES = some j → In.mk k va 0 = j) (fun j e => by
            rw [← hRES] at e
            split at e
            · injection e
            · cases e)
          rw [hRES]
          clear hRES
          go_enter Tryz.func30, Tryz.ntmps30
          go_upto_region 28 with (first
            | (with_reducible show Calls _ _ _ _ _; rw [hW0])
            | (go_at_call 56; refine (KF.out W0).mono ?_; rintro e w2 ⟨rfl, h2⟩; have X2 := Lib.hid h2; have B2 := Lib.hid (A0.out.trans (h2.mono A0.out.size)); clear h2)
            | (go_at_call 57; refine (KO.out (w2.alloc (.cells #[.int .i64 (k : Int), .int .i64 0, .int .i64 0] 42))).mono ?_; rintro e w3 ⟨rfl, h2⟩; have Y3 := Lib.hid ((allocBP w2 (.cells #[.int .i64 (k : Int), .int .i64 0, .int .i64 0] 42)).trans (h2.mono (allocBP w2 (.cells #[.int .i64 (k : Int), .int .i64 0, .int .i64 0] 42)).size)); have X3 := Lib.hid (X2.out.trans (Y3.out.mono X2.out.size)); have B3 := Lib.hid (A0.out.trans (X3.out.mono A0.out.size)); obtain ⟨g0, g1, g2, f0, f1, f2⟩ := box3 h2; have L3 := Lib.hid (p := w2.heap.size < w3.heap.size) (by have := h2.size; simp at this; omega); have c1 := CW.out w3 B3.out 1 (by simp); simp only [List.getElem_cons_succ, List.getElem_cons_zero] at c1; obtain ⟨⟨p0, p1, p2⟩, _⟩ := TB.out w3 X3.out; clear h2)
            | (go_at_call 29; refine (KA.out w3).mono ?_; rintro e w4 ⟨⟨ia, rfl, hia⟩, hw⟩; have hw := hw.symm; subst hw; obtain rfl := hia va rfl; clear hia))
          have CB2 := Lib.hid (box_put1 (y := .int .i64 ia) ⟨g0, g1, g2⟩)
          have NE := Lib.hid (p := w2.heap.size ≠ w.heap.size + 1) (by have := X2.out.size; have := Z0.out; omega)
          have XS := Lib.hid (X3.out.setCell (p := ⟨w2.heap.size, 1, none⟩) X2.out.size (.int .i64 ia))
          have BS := Lib.hid (B3.out.setCell (p := ⟨w2.heap.size, 1, none⟩) B2.out.size (.int .i64 ia))
          have LS := Lib.hid (p := w2.heap.size < (w3.setCell ⟨w2.heap.size, 1, none⟩ (.int .i64 ia)).heap.size) (by have := L3.out; simp; omega)
          obtain ⟨wS, hwS⟩ : ∃ y, w3.setCell ⟨w2.heap.size, 1, none⟩ (.int .i64 ia) = y := ⟨_, rfl⟩
          rw [hwS] at CB2 XS BS LS
          rw [hwS]
          clear hwS g0 g1 g2 f0 f1 f2
          obtain ⟨d0, d1, d2⟩ := CB2.out
          have D9 := Lib.hid (p := Below wS.heap.size wS wS.drew) (Below.refl _ wS).drew
          have KV1 := Lib.hid (KV.out (k : Int) ia 0 wS.drew)
          rw [hV] at KV1
          have DS := Lib.hid (And.intro d0 (And.intro d1 d2))
          go_region_held3 (fun w' => w'.cell? ⟨w2.heap.size, 0, none⟩ = some (.int .i64 (k : Int)) ∧ w'.cell? ⟨w2.heap.size, 1, none⟩ = some (.int .i64 ia) ∧ w'.cell? ⟨w2.heap.size, 2, none⟩ = some (.int .i64 0)) (first | exact ⟨d0, d1, d2⟩ | exact F5.out | exact box_far NE.out F5.out) (first
            | (go_at_call 60; refine KV1.out.mono ?_; rintro e w9 ⟨rfl, h2⟩; have B9 := Lib.hid (D9.out.trans (h2.mono D9.out.size)); have F5 := Lib.hid (p := w9.cell? ⟨w2.heap.size, 0, none⟩ = some (.int .i64 (k : Int)) ∧ w9.cell? ⟨w2.heap.size, 1, none⟩ = some (.int .i64 ia) ∧ w9.cell? ⟨w2.heap.size, 2, none⟩ = some (.int .i64 0)) ⟨(B9.out.cell (p := ⟨w2.heap.size, 0, none⟩) LS.out).trans DS.out.1, (B9.out.cell (p := ⟨w2.heap.size, 1, none⟩) LS.out).trans DS.out.2.1, (B9.out.cell (p := ⟨w2.heap.size, 2, none⟩) LS.out).trans DS.out.2.2⟩; obtain ⟨_, y0, y1, y2, z0, z1, z2⟩ := TB.out _ (XS.out.trans (B9.out.mono XS.out.size)); clear h2))
          go_wp2
          refine bodyPost_ret (v := .tuple #[.agg #[.int .i64 (k : Int), .int .i64 ia, .int .i64 0], .bool (V == 0)]) (by simp [results, Tryz.results30, go_sem, y0, y1, y2]) rfl ?_
          have BF := ((((BS.out.trans (B9.out.mono BS.out.size)).setCell (p := ⟨w.heap.size + 1, 0, none⟩) (Nat.le_succ _) (.int .i64 (k : Int))).setCell (p := ⟨w.heap.size + 1, 1, none⟩) (Nat.le_succ _) (.int .i64 ia)).setCell (p := ⟨w.heap.size + 1, 2, none⟩) (Nat.le_succ _) (.int .i64 0))
          exact ⟨⟨⟨(k : Int), ia, 0⟩, by rw [HI.out], HJ.out⟩, BF⟩
    · rw [if_neg q]
      have q1 : ((n : Int) != 1 + (ON : Int)) = true := by simp; omega
      go_enter Tryz.func30, Tryz.ntmps30
      go_wp2_with (first
        | (with_reducible show Calls _ _ _ _ _; rw [hW0])
        | (go_at_call 56; refine (KF.out W0).mono ?_; rintro e w2 ⟨rfl, h2⟩; have X2 := Lib.hid h2; have B2 := Lib.hid (A0.out.trans (h2.mono A0.out.size)); clear h2)
        | (go_at_call 57; refine (KO.out (w2.alloc (.cells #[.int .i64 (k : Int), .int .i64 0, .int .i64 0] 42))).mono ?_; rintro e w3 ⟨rfl, h2⟩; have Y3 := Lib.hid ((allocBP w2 (.cells #[.int .i64 (k : Int), .int .i64 0, .int .i64 0] 42)).trans (h2.mono (allocBP w2 (.cells #[.int .i64 (k : Int), .int .i64 0, .int .i64 0] 42)).size)); have X3 := Lib.hid (X2.out.trans (Y3.out.mono X2.out.size)); have B3 := Lib.hid (A0.out.trans (X3.out.mono A0.out.size)); obtain ⟨g0, g1, g2, f0, f1, f2⟩ := box3 h2; have L3 := Lib.hid (p := w2.heap.size < w3.heap.size) (by have := h2.size; simp at this; omega); obtain ⟨_, y0, y1, y2, z0, z1, z2⟩ := TB.out _ X3.out; clear h2))
      refine bodyPost_ret (v := .tuple #[.agg #[.int .i64 (k : Int), .int .i64 0, .int .i64 0], .bool false]) (by simp [results, Tryz.results30, go_sem, y0, y1, y2]) rfl (OiE.none ?_)
      exact ((B3.out.setCell (p := ⟨w.heap.size + 1, 0, none⟩) (Nat.le_succ _) _).setCell (p := ⟨w.heap.size + 1, 1, none⟩) (Nat.le_succ _) _).setCell (p := ⟨w.heap.size + 1, 2, none⟩) (Nat.le_succ _) _
  · have KF := Lib.hid (fun W => refFind_any w0 0 111 hF W)
    have e0 : insW p w0 ws = none := by unfold insW; rw [hpl]; rfl
    rw [e0]
    clear hpl hF e0
    go_enter Tryz.func30, Tryz.ntmps30
    go_wp2_with (first
      | (with_reducible show Calls _ _ _ _ _; rw [hW0])
      | (go_at_call 56; refine (KF.out W0).mono ?_; rintro e w2 ⟨rfl, h2⟩; have X2 := Lib.hid h2; have B2 := Lib.hid (A0.out.trans (h2.mono A0.out.size)); obtain ⟨_, y0, y1, y2, z0, z1, z2⟩ := TB.out _ X2.out; clear h2))
    refine bodyPost_ret (v := .tuple #[.agg #[.int .i64 0, .int .i64 0, .int .i64 0], .bool false]) (by simp [results, Tryz.results30, go_sem, y0, y1, y2]) rfl (OiE.none ?_)
    exact ((B2.out.setCell (p := ⟨w.heap.size + 1, 0, none⟩) (Nat.le_succ _) _).setCell (p := ⟨w.heap.size + 1, 1, none⟩) (Nat.le_succ _) _).setCell (p := ⟨w.heap.size + 1, 2, none⟩) (Nat.le_succ _) _
end Go.Proofs.YtccjeipkljdhdaaGreatDoor
