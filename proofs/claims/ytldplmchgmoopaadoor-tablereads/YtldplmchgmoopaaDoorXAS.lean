import Derived.Test.YtldplmchgmoopaaDoorXAQ
import Derived.Deep.Cut
import Derived.Deep.CutRange
import Derived.Deep.DeepCutAuto
import Derived.Test.YtldplmchgmoopaaDoorXAA
namespace Go.Proofs.YtldplmchgmoopaaDoor
open Go.RowKit
set_option linter.unusedVariables false
set_option linter.unusedSimpArgs false

theorem prV_len2 : ∀ l : List (ByteArray × Int), (prV l).length = l.length * 2
  | [] => rfl
  | a :: l => by
    have := prV_len2 l
    unfold prV at this ⊢
    rw [List.flatMap_cons, List.length_append, this]
    simp; omega
theorem prV_cons (p : ByteArray × Int) (l : List (ByteArray × Int)) : prV (p :: l) = .string p.1 :: .int .i64 p.2 :: prV l := rfl
theorem prV_set : ∀ (l : List (ByteArray × Int)) (i : Nat) (s : ByteArray) (v : Int), i < l.length → ((prV l).set (i * 2) (.string s)).set (i * 2 + 1) (.int .i64 v) = prV (l.set i (s, v))
  | [], i, s, v, h => by simp at h
  | p :: l, 0, s, v, h => by rw [prV_cons]; rfl
  | p :: l, i + 1, s, v, h => by
    have ih := prV_set l i s v (by simpa using h)
    rw [prV_cons, List.set_cons_succ, prV_cons, ← ih]
    rw [show (i + 1) * 2 = i * 2 + 1 + 1 by omega]
    simp only [List.set_cons_succ]
theorem prV_at {l : List (ByteArray × Int)} {i : Nat} (h : i < l.length) : (prV l)[i * 2]? = some (.string (l.getD i default).1) ∧ (prV l)[i * 2 + 1]? = some (.int .i64 (l.getD i default).2) := by
  induction l generalizing i with
  | nil => simp at h
  | cons p l ih =>
    cases i with
    | zero => exact ⟨rfl, rfl⟩
    | succ i =>
      have := ih (i := i) (by simpa using h)
      rw [prV_cons, show (i + 1) * 2 = i * 2 + 1 + 1 by omega, List.getElem?_cons_succ, List.getElem?_cons_succ, show i * 2 + 1 + 1 + 1 = (i * 2 + 1) + 1 + 1 by omega, List.getElem?_cons_succ, List.getElem?_cons_succ]
      simpa using this
/-- A pair of a row of one's own is written. -/
theorem own_writeP {W : World} {B n c i g : Nat} {ys : List (ByteArray × Int)} (h : W.ownsRow B 67 2 (.slice (some ⟨g, 0, none⟩) n c) n (prV ys)) (hi : i < n) (s : ByteArray) (v : Int) : ((W.setCell ⟨g, i * 2, none⟩ (.string s)).setCell ⟨g, i * 2 + 1, none⟩ (.int .i64 v)).ownsRow B 67 2 (.slice (some ⟨g, 0, none⟩) n c) n (prV (ys.set i (s, v))) := by
  have yl : ys.length = n := by have := h.1; rw [prV_len2] at this; omega
  refine ⟨by rw [prV_len2, List.length_set, yl], ?_⟩
  rcases h.2 with ⟨e, e0⟩ | ⟨g', cap, cur, e, h1, hg, h2, h3, h4, h5⟩
  · cases e
  · injection e with e1 e2 e3
    injection e1 with e1
    injection e1 with e1
    subst e1 e3
    refine .inr ⟨g, c, (cur.setIfInBounds (i * 2) (.string s)).setIfInBounds (i * 2 + 1) (.int .i64 v), rfl, h1, Joins.block_setCell (i := i * 2 + 1) (Joins.block_setCell (i := i * 2) hg _) _, h2, h3, by simpa using h4, ?_⟩
    rw [Array.toList_setIfInBounds, Array.toList_setIfInBounds, List.take_set, List.take_set, h5, prV_set _ _ _ _ (by omega)]
theorem Fr.drew2 (B bk : Nat) (w : World) : Fr B bk w w.drew := ⟨rfl, rfl, rfl, Nat.le_refl _, fun _ _ _ => rfl⟩
theorem gr_two2 (W : World) (z i j : Nat) (u v : Value) : W.grownBy ((W.setCell ⟨z, i, none⟩ u).setCell ⟨z, j, none⟩ v) (some z) := by
  refine ⟨rfl, rfl, rfl, by simp, fun k hk hr => ?_⟩
  have : ¬ z = k := fun e => hr (by rw [e])
  simp [World.setCell, Array.getElem?_modify, this]
def mkP (m : Int) : ByteArray × Int := (⟨#[]⟩, -1000 - m)
def othP : ByteArray × Int := (⟨#[]⟩, 99)
theorem infoPP : (Tryd.prog.info? 63).map (fun i => (i.zero, i.size, i.bytes)) = some (some (.slice none 0 0), 1, 24) := by kernel_rfl
/-- Pairs that were left, grown. -/
def PaiIt (sn : List (Nat × Obj)) (gv : Value) (m : Int) (n : Nat) : Prop := ∃ gg cap cur, gv = .slice (some ⟨gg, 0, none⟩) (n + 70) cap ∧ (gg, Obj.cells cur 67) ∈ sn ∧ cur.toList.take ((n + 70) * 2) = prV (List.replicate n (mkP m) ++ List.replicate 70 othP)
theorem PaiIt.more {sn sn' : List (Nat × Obj)} {gv : Value} {m : Int} {n : Nat} (h : PaiIt sn gv m n) (k : ∀ p ∈ sn, p ∈ sn') : PaiIt sn' gv m n := by
  obtain ⟨gg, cap, cur, h1, h2, h3⟩ := h
  exact ⟨gg, cap, cur, h1, k _ h2, h3⟩
/-- What pairs are left as. -/
def PrE (B bk : Nat) (g : Bg) (sn : List (Nat × Obj)) (mark : Int) (a : Option Addr) (n : Nat) (w w' : World) : Prop :=
  ∃ vs' gv add, Bk w' B bk vs' { g with pv := g.pv ++ [gv], tl := g.tl ++ [mark + 1], wd := g.wd ++ [n] } (add ++ sn) (mark + 1) false ∧ PaiIt add gv (mark + 1) n ∧ OldIt add 67 a (n * 2) (prV (List.replicate n (mkP (mark + 1)))) ∧ ((sn.map (·.1)).Nodup → ((add ++ sn).map (·.1)).Nodup) ∧ Fr B bk w w'
set_option maxRecDepth 100000 in
set_option maxHeartbeats 8000000 in
theorem pairs_early (B bk : Nat) (vs : List Value) (g : Bg) (sn : List (Nat × Obj)) (mark : Int) (a : Option Addr) (n c : Nat) (xs : List (ByteArray × Int)) (w : World) (h : Bk w B bk vs g sn mark false) (hB : B ≤ w.heap.size) (o : w.ownsRow B 67 2 (.slice a n c) n (prV xs)) (fr : ∀ z, (Value.slice a n c).ownBlock = some z → BkO.Free bk vs g.fs sn z)
    (hn : n ≤ 1000000000000) (hm : 0 ≤ mark ∧ mark ≤ 1000000000000000) (hg : g.pv.length ≤ 1000000000000 ∧ g.tl.length ≤ 1000000000000 ∧ g.wd.length ≤ 1000000000000) :
    Calls Tryd.prog 23 #[.pointer (some ⟨bk, 0, none⟩), .slice a n c] w fun e w' => e = .returned (.tuple #[]) ∧ PrE B bk g sn mark a n w w' := by
  obtain ⟨M, hM⟩ : ∃ M : Int, mark + 1 = M := ⟨_, rfl⟩
  unfold PrE
  rw [hM]
  have H1 := Lib.hid (h.mark M)
  have O1 := Lib.hid (p := (w.setCell ⟨bk, 11, none⟩ (.int .i64 M)).ownsRow B 67 2 (.slice a n c) n (prV xs)) (own_keep o (fun b e => (grT_set w bk 11 _).block b (by obtain ⟨cur, q⟩ := own_blk o e; exact blk_lt q) (by intro q; injection q with q; exact (fr b e).1 q)))
  have F1 := Lib.hid (p := Fr B bk w (w.setCell ⟨bk, 11, none⟩ (.int .i64 M))) (Fr.set _)
  have FR := Lib.hid (p := ∀ z, (Value.slice a n c).ownBlock = some z → BkO.Free bk (vs.set 11 (.int .i64 M)) g.fs sn z) (fun z e => free_mark (fr z e))
  obtain ⟨vs1, hvs1⟩ : ∃ v, vs.set 11 (.int .i64 M) = v := ⟨_, rfl⟩
  obtain ⟨w1, hw1⟩ : ∃ v, w.setCell ⟨bk, 11, none⟩ (.int .i64 M) = v := ⟨_, rfl⟩
  rw [hvs1] at H1 FR
  rw [hw1] at H1 O1 F1
  obtain ⟨c0, c1, c2⟩ := h.cells
  have kw : IntKind.i64.wrap (mark + 1) = M := by rw [← hM]; simp [IntKind.wrap, IntKind.bits, IntKind.signed]; omega
  have hMb : 1 ≤ M ∧ M ≤ 1000000000000001 := by omega
  have hB1 : B ≤ w1.heap.size := by have := F1.out.size; omega
  have kws : IntKind.i64.wrap (-1000 - M) = -1000 - M := by simp [IntKind.wrap, IntKind.bits, IntKind.signed]; omega
  clear h o fr hvs1 hM
  go_enter Tryd.func23, Tryd.ntmps23
  go_wp2
  go_loopw [4] (fun t ws => ∃ (j : Nat) (ys : List (ByteArray × Int)), j ≤ n ∧ t = .int .i64 (j : Int) ∧ RowKit.Hid (ys.take j = List.replicate j (mkP M) ∧ ws.ownsRow B 67 2 (.slice a n c) n (prV ys) ∧ Bk ws B bk vs1 g sn M false ∧ Fr B bk w1 ws)) (fun t _ => n - (intOf t).toNat)
  case atStart => exact ⟨0, xs, Nat.zero_le _, rfl, rfl, O1.out, H1.out, Fr.refl _ _ _⟩
  case round =>
    obtain ⟨j, ys, hj, rfl, hQ⟩ := hrel
    rename World => wj
    have YT := Lib.hid hQ.out.1
    have OJ := Lib.hid hQ.out.2.1
    have HJ := Lib.hid hQ.out.2.2.1
    have FJ := Lib.hid hQ.out.2.2.2
    clear hQ
    have yl : ys.length = n := by have := OJ.out.1; rw [prV_len2] at this; omega
    by_cases hjn : j < n
    · have kc : (j : Int) < (n : Int) := by omega
      have kwj : IntKind.i64.wrap ((j : Int) + 1) = (j : Int) + 1 := by simp [IntKind.wrap, IntKind.bits, IntKind.signed]; omega
      obtain ⟨z, rfl⟩ : ∃ z, a = some ⟨z, 0, none⟩ := by
        rcases OJ.out.2 with ⟨e, e0⟩ | ⟨z, _, _, e, _⟩
        · omega
        · injection e with e1 e2 e3; exact ⟨z, e1⟩
      obtain ⟨cur, hcur⟩ := own_blk OJ.out (b := z) rfl
      have zf0 := Joins.unfrozen_of_block hcur (j * 2)
      have zf1 := Joins.unfrozen_of_block hcur (j * 2 + 1)
      obtain ⟨pa, pb⟩ := prV_at (l := ys) (i := j) (by omega)
      have zc0 : wj.cell? ⟨z, j * 2, none⟩ = some (.string (ys.getD j default).1) := by rw [World.ownsRow.cellAt OJ.out (j * 2) (by omega)]; exact pa
      have zc1 : wj.cell? ⟨z, j * 2 + 1, none⟩ = some (.int .i64 (ys.getD j default).2) := by rw [World.ownsRow.cellAt OJ.out (j * 2 + 1) (by omega)]; exact pb
      have zB : B ≤ z := (OJ.out.lt z rfl).1
      have O2 := Lib.hid (own_writeP OJ.out hjn ⟨#[]⟩ (-1000 - M))
      have H2 := Lib.hid (HJ.out.other (gr_two2 wj z (j * 2) (j * 2 + 1) (.string ⟨#[]⟩) (.int .i64 (-1000 - M))) (fun x e => by injection e with e; subst e; exact FR.out z rfl))
      have F2 := Lib.hid (FJ.out.trans ((Fr.put (o := j * 2) zB (.string ⟨#[]⟩)).trans (Fr.put (o := j * 2 + 1) zB (.int .i64 (-1000 - M)))))
      have Y2 := Lib.hid (p := (ys.set j (⟨#[]⟩, -1000 - M)).take (j + 1) = List.replicate (j + 1) (mkP M)) (by
        rw [List.take_set, List.take_add_one, YT.out, List.getElem?_eq_getElem (by omega), List.replicate_succ', List.set_append_right _ _ (by simp)]
        simp [mkP])
      obtain ⟨b0, _, _⟩ := HJ.out.cells
      clear hcur pa pb
      generalize ys.getD j default = old at zc0 zc1
      obtain ⟨os, ov⟩ := old
      simp only at zc0 zc1
      go_wp2
      go_roundw
      case rel => exact ⟨j + 1, _, by omega, by go_num, Y2.out, O2.out, H2.out, F2.out⟩
      case measure => simp [intOf]; omega
    · have ej : n = j := by omega
      subst ej
      have kc : ¬ (n : Int) < (n : Int) := by omega
      have YA : ys = List.replicate n (mkP M) := by have := YT.out; rwa [List.take_of_length_le (by omega)] at this
      subst YA
      clear YT yl
      obtain ⟨L1, L2, L3⟩ := hg
      go_wp2
      go_loopw [5, 6] (fun v t ws => ∃ j : Nat, j ≤ 70 ∧ t = .int .i64 (j : Int) ∧ RowKit.Hid (ws.ownsRow B 67 2 v (n + j) (prV (List.replicate n (mkP M) ++ List.replicate j othP)) ∧ (∀ z, v.ownBlock = some z → BkO.Free bk vs1 g.fs sn z) ∧ Bk ws B bk vs1 g sn M false ∧ Fr B bk w1 ws ∧ Old ws 67 a v (n * 2) (prV (List.replicate n (mkP M))))) (fun _ t _ => 70 - (intOf t).toNat)
      case atStart => exact ⟨0, Nat.zero_le _, rfl, by simpa using OJ.out, FR.out, HJ.out, FJ.out, fun z e => .inl (by rw [e]; rfl)⟩
      case round =>
        obtain ⟨j, hj, rfl, hQ⟩ := hrel
        rename World => wk
        have OK := Lib.hid hQ.out.1
        have RK := Lib.hid hQ.out.2.1
        have HK := Lib.hid hQ.out.2.2.1
        have FK := Lib.hid hQ.out.2.2.2.1
        have OL := Lib.hid hQ.out.2.2.2.2
        clear hQ
        have hBk : B ≤ wk.heap.size := by have := FK.out.size; omega
        by_cases hj7 : j < 70
        · have kj : (j : Int) < 70 := by omega
          have kwj : IntKind.i64.wrap ((j : Int) + 1) = (j : Int) + 1 := by simp [IntKind.wrap, IntKind.bits, IntKind.signed]; omega
          have BA := Lib.hid (below_al wk (.cells #[.string ⟨#[]⟩, .int .i64 99] 67))
          have OA := Lib.hid (own_back OK.out BA.out)
          have HA := Lib.hid (HK.out.below BA.out)
          have FA := Lib.hid (FK.out.trans (Fr.below BA.out hBk))
          have RPL := Lib.hid (p := List.replicate n (mkP M) ++ List.replicate (j + 1) othP = (List.replicate n (mkP M) ++ List.replicate j othP) ++ [othP]) (by rw [List.append_assoc, ← List.replicate_succ'])
          go_wp2_with (at_builtin; refine wp_appK Tryd.underlying63 infoP rfl (by decide) _ B (Nat.le_trans hBk BA.out.size) ⟨wk.heap.size, 0, none⟩ 1 1 [.string ⟨#[]⟩, .int .i64 99] rfl (two_news wk (.string ⟨#[]⟩) (.int .i64 99) 67) (by simp [Value.oneCell']) rfl _ _ rfl _ _ _ rfl OA.out rfl (by unfold maxLen; omega) (by omega) ?_; intro v2 w2 O2 G2 E2 K2; have O3 := Lib.hid O2; have L3 := Lib.hid (p := Old w2 67 a v2 (n * 2) (prV (List.replicate n (mkP M)))) ((OL.out.below BA.out).step (xs := prV (List.replicate j othP)) (by rw [← prV_app]; exact OA.out) (by rw [prV_len2]; simp) G2 K2); have R3 := Lib.hid (p := ∀ z, v2.ownBlock = some z → BkO.Free bk vs1 g.fs sn z) (fun z e => by rcases E2 with q | q; exact RK.out z (q ▸ e); rw [q] at e; injection e with e; exact HA.out.o.new (Nat.le_of_eq e)); have H3 := Lib.hid (HA.out.other G2 RK.out); have F3 := Lib.hid (FA.out.trans (Fr.grown G2 (Nat.le_trans hBk BA.out.size) (fun z e => (OA.out.lt z e).1))); clear O2 G2 E2 K2)
          go_roundw
          case rel => exact ⟨j + 1, by omega, by go_num, by rw [RPL.out, prV_app]; exact O3.out, R3.out, H3.out, F3.out, L3.out⟩
          case measure => simp [intOf]; omega
        · have ej : j = 70 := by omega
          subst ej
          have kj : ¬ (70 : Int) < 70 := by omega
          obtain ⟨va, vc, hv⟩ := own_form2 OK.out
          subst hv
          obtain ⟨gg, cur, rfl, hcur, hck⟩ : ∃ gg cur, va = some ⟨gg, 0, none⟩ ∧ wk.heap[gg]? = some (.cells cur 67) ∧ cur.toList.take ((n + 70) * 2) = prV (List.replicate n (mkP M) ++ List.replicate 70 othP) := by
            rcases OK.out.2 with ⟨e, e0⟩ | ⟨gg, cap, cur, e, _, q1, _, _, _, q5⟩
            · omega
            · injection e with e1 e2 e3
              exact ⟨gg, cur, e1, q1, q5⟩
          obtain ⟨add, hL, mG, oI, nD⟩ := HK.out.leave2 (a := a) (v := .slice (some ⟨gg, 0, none⟩) (n + 70) vc) rfl hcur (RK.out gg rfl) (take_first (by rw [hck, prV_app]) (by rw [prV_len2]; simp) (by omega)) OL.out (fun z e => FR.out z (by rw [e]; rfl))
          have HL := Lib.hid hL
          have CK := Lib.hid (p := PaiIt add (.slice (some ⟨gg, 0, none⟩) (n + 70) vc) M n ∧ OldIt add 67 a (n * 2) (prV (List.replicate n (mkP M))) ∧ ((sn.map (·.1)).Nodup → ((add ++ sn).map (·.1)).Nodup)) ⟨⟨gg, vc, cur, rfl, mG, hck⟩, oI, nD⟩
          clear hL mG oI nD
          obtain ⟨sn2, hsn2⟩ : ∃ x, add ++ sn = x := ⟨_, rfl⟩
          have HS2 := Lib.hid hsn2
          rw [hsn2] at HL CK
          clear hsn2
          have S5 := Lib.hid (HL.out.grow (g' := { g with pv := g.pv ++ [.slice (some ⟨gg, 0, none⟩) (n + 70) vc] }) 8 63 g.pv.length g.pv (.slice (some ⟨gg, 0, none⟩) (n + 70) vc) (g.fs.take 8) (g.fs.drop 9) rfl (by simp [Bg.fs]) hBk)
          obtain ⟨V5, hV5⟩ : ∃ V, vs1.getD 8 default = V := ⟨_, rfl⟩
          obtain ⟨V6, hV6⟩ : ∃ V, vs1.getD 9 default = V := ⟨_, rfl⟩
          obtain ⟨V7, hV7⟩ : ∃ V, vs1.getD 10 default = V := ⟨_, rfl⟩
          rw [hV5] at S5
          have HV := Lib.hid (p := vs1.getD 9 default = V6 ∧ vs1.getD 10 default = V7) ⟨hV6, hV7⟩
          obtain ⟨c5, o5, _⟩ := S5.out
          clear hcur hck hV5 hV6 hV7 HJ FJ OJ
          go_upto_region 14 with (first
            | (at_builtin; refine wp_appB Tryd.underlying28 infoPP rfl (by decide) _ B (Nat.le_trans hBk (by simp)) ⟨wk.heap.size, 0, none⟩ 1 1 [.slice (some ⟨gg, 0, none⟩) (n + 70) vc] rfl (one_news wk _ _) (by simp [Value.oneCell']) rfl _ _ rfl _ _ _ rfl o5 rfl (by unfold maxLen; omega) (by omega) ?_; intro v2 w2 O2 G2 E2; obtain ⟨xa, xc, hx⟩ := own_form2 O2; subst hx; obtain ⟨⟨p0, p1⟩, hP, hF⟩ := S5.out.2.2 _ w2 O2 G2 E2; obtain ⟨wA, hwA⟩ : ∃ u, w2.setCell ⟨bk, 8, none⟩ (.slice xa (g.pv.length + 1) xc) = u := ⟨_, rfl⟩; rw [hwA] at hP hF; have P5 := Lib.hid hP; have F5 := Lib.hid hF; clear O2 G2 E2 hP hF))
          have PD := Lib.hid (P5.out.below (Below.refl _ _).drew)
          have hBC : B ≤ wA.drew.heap.size := Nat.le_trans hBk F5.out.size
          have S6 := Lib.hid (PD.out.grow (g' := { g with pv := g.pv ++ [.slice (some ⟨gg, 0, none⟩) (n + 70) vc], tl := g.tl ++ [M] }) 9 3 g.tl.length (g.tl.map (Value.int .i64)) (.int .i64 M) (({ g with pv := g.pv ++ [.slice (some ⟨gg, 0, none⟩) (n + 70) vc] } : Bg).fs.take 9) (({ g with pv := g.pv ++ [.slice (some ⟨gg, 0, none⟩) (n + 70) vc] } : Bg).fs.drop 10) rfl (by simp [Bg.fs]) hBC)
          rw [getD_ne (by decide), HV.out.1] at S6
          have o06 : wA.drew.ownsRow B 3 1 V6 g.tl.length (g.tl.map (Value.int .i64)) := by
            have := (PD.out.o.own ⟨9, 3, 1, g.tl.length, g.tl.map (Value.int .i64)⟩ (by simp [Bg.fs])).1
            simp only at this
            rwa [getD_ne (by decide), HV.out.1] at this
          obtain ⟨v5, w5, hr, O5, G5, E5⟩ := app_int M o06 (by omega) hBC
          obtain ⟨na, nc, hv5⟩ := own_form2 O5
          subst hv5
          obtain ⟨⟨q0, q1⟩, hP7, hF7⟩ := S6.out.2.2 _ w5 O5 G5 E5
          obtain ⟨wC, hwC⟩ : ∃ u, w5.setCell ⟨bk, 9, none⟩ (.slice na (g.tl.length + 1) nc) = u := ⟨_, rfl⟩
          rw [hwC] at hP7 hF7
          have P6 := Lib.hid hP7
          have F6 := Lib.hid hF7
          have c06 : wA.cell? ⟨bk, 9, none⟩ = some V6 := S6.out.1
          have bkl : bk < wA.heap.size := P5.out.o.lt.1
          have c06b : (wA.alloc (.cells #[.int .i64 M] 3)).cell? ⟨bk, 9, none⟩ = some V6 := ((below_al wA (.cells #[.int .i64 M] 3)).cell (p := ⟨bk, 9, none⟩) bkl).trans c06
          obtain ⟨m0, _, _⟩ := P5.out.cells
          have m0b : (wA.alloc (.cells #[.int .i64 M] 3)).cell? ⟨bk, 11, none⟩ = some (.int .i64 M) := ((below_al wA (.cells #[.int .i64 M] 3)).cell (p := ⟨bk, 11, none⟩) bkl).trans m0
          have hrb : ∀ ty, (Builtin.append_ #[24, 24] ty #[V6, .slice (some ⟨wA.heap.size, 0, none⟩) 1 1]).run Tryd.prog (wA.alloc (.cells #[.int .i64 M] 3)).drew = .ok (.slice na (g.tl.length + 1) nc) w5 := hr
          have S7 := Lib.hid (P6.out.grow (g' := { g with pv := g.pv ++ [.slice (some ⟨gg, 0, none⟩) (n + 70) vc], tl := g.tl ++ [M], wd := g.wd ++ [n] }) 10 3 g.wd.length (nats g.wd) (.int .i64 (n : Int)) (({ g with pv := g.pv ++ [.slice (some ⟨gg, 0, none⟩) (n + 70) vc], tl := g.tl ++ [M] } : Bg).fs.take 10) (({ g with pv := g.pv ++ [.slice (some ⟨gg, 0, none⟩) (n + 70) vc], tl := g.tl ++ [M] } : Bg).fs.drop 11) rfl (by simp [Bg.fs, nats]) (Nat.le_trans hBC F6.out.size))
          rw [getD_ne (by decide), getD_ne (by decide), HV.out.2] at S7
          obtain ⟨c7, o7, _⟩ := S7.out
          clear hP7 hF7 o06 O5 G5 E5 hr
          go_region_law (first | (refine step_app_run rfl _ _ 24 rfl _ _ _ w5 rfl rfl hrb ?_))
          all_goals
            go_wp2_with (at_builtin; refine wp_appB Tryd.underlying24 info3 rfl (by decide) _ B (Nat.le_trans (Nat.le_trans hBC F6.out.size) (by simp)) ⟨wC.heap.size, 0, none⟩ 1 1 [.int .i64 (n : Int)] rfl (one_news wC _ _) (by simp [Value.oneCell']) rfl _ _ rfl _ _ _ rfl o7 rfl (by unfold maxLen; omega) (by omega) ?_; intro v2 w4 O2 G2 E2; obtain ⟨za, zc, hx⟩ := own_form2 O2; subst hx; obtain ⟨⟨t0, t1⟩, hP, hF⟩ := S7.out.2.2 _ w4 O2 G2 E2; have P7 := Lib.hid hP; have F7 := Lib.hid hF; clear O2 G2 E2 hP hF)
            go_end0
            have e := HS2.out
            subst e
            refine ⟨rfl, _, _, add, P7.out, CK.out.1, CK.out.2.1, (fun q => by have := CK.out.2.2 q; simpa using this), ((((F1.out.trans FK.out).trans F5.out).trans (Fr.drew2 B bk wA)).trans F6.out).trans F7.out⟩
end Go.Proofs.YtldplmchgmoopaaDoor

namespace Go.Proofs.YtldplmchgmoopaaDoor
open Go.RowKit
set_option linter.unusedVariables false
set_option linter.unusedSimpArgs false

/-- A list of the book: its field, and how long it is. -/
theorem Bk.list {W : World} {B bk : Nat} {vs : List Value} {g : Bg} {sn : List (Nat × Obj)} {mark : Int} {late : Bool} (h : Bk W B bk vs g sn mark late) {f : BkF} (hf : f ∈ g.fs) : ∃ a c, W.cell? ⟨bk, f.k, none⟩ = some (.slice a f.n c) ∧ W.ownsRow B f.T f.s (.slice a f.n c) f.n f.xs := by
  have o := h.o.own f hf
  obtain ⟨a, c, e⟩ := own_form2 o.1
  have q := (h.o.cell f.k o.2.1).1
  have o1 := o.1
  rw [e] at q o1
  exact ⟨a, c, q, o1⟩
end Go.Proofs.YtldplmchgmoopaaDoor

namespace Go.Proofs.YtldplmchgmoopaaDoor
open Go.RowKit
set_option linter.unusedVariables false
set_option linter.unusedSimpArgs false

/-- A block that was left is taken up again: it is none of the book's then. -/
theorem BkO.take {W : World} {B bk z : Nat} {o : Obj} {vs : List Value} {fs : List BkF} {sn sn' : List (Nat × Obj)} (h : BkO W B bk vs fs sn) (hz : (z, o) ∈ sn) (hs : ∀ p ∈ sn', p ∈ sn) (hn : ∀ p ∈ sn', p.1 ≠ z) : BkO W B bk vs fs sn' ∧ BkO.Free bk vs fs sn' z ∧ W.heap[z]? = some o :=
  ⟨⟨h.hb, h.hl, h.own, h.ap, fun p hp => h.st p (hs p hp)⟩, ⟨(h.st _ hz).2.1, (h.st _ hz).2.2, hn⟩, (h.st _ hz).1⟩
/-- Pairs as they lie. -/
def PL (w : World) (a : Option Addr) (n : Nat) (ps : List (ByteArray × Int)) : Prop :=
  ps.length = n ∧ n ≤ 5864062014640 ∧ (n = 0 ∨ ∃ b o, a = some ⟨b, o, none⟩ ∧ b < w.heap.size ∧ ∀ i, i < n → w.cell? ⟨b, o + i * 2, none⟩ = some (.string (ps.getD i default).1) ∧ w.cell? ⟨b, o + i * 2 + 1, none⟩ = some (.int .i64 (ps.getD i default).2))
theorem PL.later {w w' : World} {a n ps} (h : PL w a n ps) (b : Below w.heap.size w w') : PL w' a n ps := by
  obtain ⟨h1, h2, h3⟩ := h
  refine ⟨h1, h2, ?_⟩
  rcases h3 with h3 | ⟨x, o, rfl, hx, hc⟩
  · exact .inl h3
  · exact .inr ⟨x, o, rfl, Nat.lt_of_lt_of_le hx b.size, fun i hi => ⟨(b.cell (p := ⟨x, o + i * 2, none⟩) hx).trans (hc i hi).1, (b.cell (p := ⟨x, o + i * 2 + 1, none⟩) hx).trans (hc i hi).2⟩⟩
end Go.Proofs.YtldplmchgmoopaaDoor

namespace Go.Proofs.YtldplmchgmoopaaDoor
open Go.RowKit
set_option linter.unusedVariables false
set_option linter.unusedSimpArgs false

theorem gen_all {α : Type} [Inhabited α] {l m : List α} {n : Nat} (h1 : l.length = n) (h2 : m.length = n) (h : ∀ i, i < n → l.getD i default = m.getD i default) : l = m := by
  refine List.ext_getElem (by omega) fun i a b => ?_
  have := h i (by omega)
  simpa [List.getD, a, b] using this
theorem gen_step {α : Type} [Inhabited α] {l m : List α} {k : Nat} (h : ∀ i, i < k → l.getD i default = m.getD i default) (e : l.getD k default = m.getD k default) : ∀ i, i < k + 1 → l.getD i default = m.getD i default := fun i hi => by
  rcases (show i < k ∨ i = k by omega) with g | g
  · exact h i g
  · rw [g]; exact e
theorem gen_no {O : Bool} {p : Prop} (h : O = true ↔ p) (k : ¬ p) : O = false := by
  cases O with
  | true => exact absurd (h.1 rfl) k
  | false => rfl

set_option maxHeartbeats 4000000 in
theorem sameNames_gen (a b : Option Addr) (n m c1 c2 : Nat) (ss tt : List ByteArray) (w : World) (h : NL w a n ss) (h' : NL w b m tt) (O : Bool) (ho : O = true ↔ ss = tt) :
    Calls Tryd.prog 18 #[.slice a n c1, .slice b m c2] w fun e w' => e = .returned (.bool O) ∧ ∃ q, w' = w.drewN q := by
  obtain ⟨hl, hn, _, h3⟩ := h
  obtain ⟨hl_, hm, _, h3_⟩ := h'
  by_cases hnm : n = m
  · subst hnm
    have HA := Lib.hid (p := 0 < n → ∃ x o y p, a = some ⟨x, o, none⟩ ∧ b = some ⟨y, p, none⟩ ∧ ∀ i, i < n → w.cell? ⟨x, o + i, none⟩ = some (.string (ss.getD i default)) ∧ w.cell? ⟨y, p + i, none⟩ = some (.string (tt.getD i default))) (fun h0 => by
      rcases h3 with h3 | ⟨x, o, e1, _, h3⟩
      · omega
      · rcases h3_ with h3_ | ⟨y, p, e2, _, h3_⟩
        · omega
        · exact ⟨x, o, y, p, e1, e2, fun i hi => ⟨h3 i hi, h3_ i hi⟩⟩)
    have HL := Lib.hid (p := (∀ i, i < n → ss.getD i default = tt.getD i default) → O = true) (fun z => ho.2 (gen_all hl hl_ z))
    have HN := Lib.hid (p := ∀ k, ¬ ss.getD k default = tt.getD k default → O = false) (fun k z => gen_no ho (fun e => z (by rw [e])))
    clear h3 h3_ hl hl_ ho
    go_enter Tryd.func18, Tryd.ntmps18
    go_wp2
    go_loopw [5] (fun t wr => ∃ k : Nat, k ≤ n ∧ t = .int .i64 k ∧ RowKit.Hid (∀ i, i < k → ss.getD i default = tt.getD i default) ∧ ∃ q, wr = w.drewN q) (fun t _ => n - (intOf t).toNat)
    case atStart => exact ⟨0, by omega, rfl, (fun i hi => absurd hi (by omega)), 0, rfl⟩
    case round =>
      obtain ⟨k, hk, rfl, hE, q, rfl⟩ := hrel
      by_cases hlt : k < n
      · obtain ⟨x, o, y, p, rfl, rfl, hc⟩ := HA.out (by omega)
        obtain ⟨c0, d0⟩ := hc k hlt
        have kc : (k : Int) < (n : Int) := by omega
        have NE := Lib.hid (HN.out k)
        have EQ := Lib.hid (gen_step hE.out)
        clear hc hE HN HA
        generalize ss.getD k default = f at *
        generalize tt.getD k default = f' at *
        by_cases hf : f = f'
        · subst hf
          have E2 := Lib.hid (EQ.out rfl)
          clear NE EQ
          go_wp2
          go_region
          all_goals
            go_wp2
            go_roundw
            case rel => exact ⟨k + 1, by omega, by go_num, E2.out, _, rfl⟩
            case measure => simp [intOf]; omega
        · have N2 := NE.out hf
          subst N2
          have t1 := toList_ne hf
          have t2 : (f.toList == f'.toList) = false := by simpa using t1
          clear hf
          clear NE EQ
          go_wp2
          go_region
          all_goals
            go_wp2
            go_ret
            exact ⟨rfl, _, rfl⟩
      · obtain rfl : k = n := by omega
        have e := HL.out hE.out
        subst e
        clear HL HN HA hE
        go_wp2
        go_ret
        exact ⟨rfl, _, rfl⟩
  · have kc : ¬ (n : Int) = (m : Int) := by omega
    have N2 := gen_no ho (fun e => hnm (by rw [← hl, ← hl_, e]))
    subst N2
    clear h3 h3_ hl hl_ ho
    go_enter Tryd.func18, Tryd.ntmps18
    go_wp2
    go_ret
    exact ⟨rfl, 0, rfl⟩

set_option maxHeartbeats 4000000 in
theorem sameRow_gen (a b : Option Addr) (n m c1 c2 : Nat) (ss tt : List Cl) (w : World) (h : RC w a n ss) (h' : RC w b m tt) (O : Bool) (ho : O = true ↔ ss = tt) :
    Calls Tryd.prog 35 #[.slice a n c1, .slice b m c2] w fun e w' => e = .returned (.bool O) ∧ ∃ q, w' = w.drewN q := by
  obtain ⟨hl, hn, _, h3⟩ := h
  obtain ⟨hl_, hm, _, h3_⟩ := h'
  by_cases hnm : n = m
  · subst hnm
    have HA := Lib.hid (p := 0 < n → ∃ x o y p, a = some ⟨x, o, none⟩ ∧ b = some ⟨y, p, none⟩ ∧ ∀ i, i < n → CC w x (o + i * 2) (ss.getD i default) ∧ CC w y (p + i * 2) (tt.getD i default)) (fun h0 => by
      rcases h3 with h3 | ⟨x, o, e1, _, h3⟩
      · omega
      · rcases h3_ with h3_ | ⟨y, p, e2, _, h3_⟩
        · omega
        · exact ⟨x, o, y, p, e1, e2, fun i hi => ⟨h3 i hi, h3_ i hi⟩⟩)
    have HL := Lib.hid (p := (∀ i, i < n → ss.getD i default = tt.getD i default) → O = true) (fun z => ho.2 (gen_all hl hl_ z))
    have HN := Lib.hid (p := ∀ k, ¬ ss.getD k default = tt.getD k default → O = false) (fun k z => gen_no ho (fun e => z (by rw [e])))
    clear h3 h3_ hl hl_ ho
    go_enter Tryd.func35, Tryd.ntmps35
    go_wp2
    go_loopw [5] (fun t wr => ∃ k : Nat, k ≤ n ∧ t = .int .i64 k ∧ RowKit.Hid (∀ i, i < k → ss.getD i default = tt.getD i default) ∧ ∃ q, wr = w.drewN q) (fun t _ => n - (intOf t).toNat)
    case atStart => exact ⟨0, by omega, rfl, (fun i hi => absurd hi (by omega)), 0, rfl⟩
    case round =>
      obtain ⟨k, hk, rfl, hE, q, rfl⟩ := hrel
      by_cases hlt : k < n
      · obtain ⟨x, o, y, p, rfl, rfl, hc⟩ := HA.out (by omega)
        obtain ⟨⟨c0, c1⟩, d0, d1⟩ := hc k hlt
        have kc : (k : Int) < (n : Int) := by omega
        have NE := Lib.hid (HN.out k)
        have EQ := Lib.hid (gen_step hE.out)
        clear hc hE HN HA
        generalize ss.getD k default = f at *
        generalize tt.getD k default = f' at *
        obtain ⟨fh, fv⟩ := f
        obtain ⟨gh, gv⟩ := f'
        simp only at c0 c1 d0 d1
        by_cases hf : fh = gh
        · subst hf
          by_cases hv : fv = gv
          · subst hv
            have E2 := Lib.hid (EQ.out rfl)
            clear NE EQ
            go_wp2
            go_region
            all_goals
              go_wp2
              go_roundw
              case rel => exact ⟨k + 1, by omega, by go_num, E2.out, _, rfl⟩
              case measure => simp [intOf]; omega
          · have N2 := NE.out (fun e => hv (congrArg Cl.v e))
            subst N2
            clear NE EQ
            go_wp2
            go_region
            all_goals
              go_wp2
              go_ret
              exact ⟨rfl, _, rfl⟩
        · have N2 := NE.out (fun e => hf (congrArg Cl.h e))
          subst N2
          clear NE EQ
          go_wp2
          go_region
          all_goals
            go_wp2
            go_ret
            exact ⟨rfl, _, rfl⟩
      · obtain rfl : k = n := by omega
        have e := HL.out hE.out
        subst e
        clear HL HN HA hE
        go_wp2
        go_ret
        exact ⟨rfl, _, rfl⟩
  · have kc : ¬ (n : Int) = (m : Int) := by omega
    have N2 := gen_no ho (fun e => hnm (by rw [← hl, ← hl_, e]))
    subst N2
    clear h3 h3_ hl hl_ ho
    go_enter Tryd.func35, Tryd.ntmps35
    go_wp2
    go_ret
    exact ⟨rfl, 0, rfl⟩

set_option maxHeartbeats 4000000 in
theorem samePairs_gen (a b : Option Addr) (n m c1 c2 : Nat) (ss tt : List (ByteArray × Int)) (w : World) (h : PL w a n ss) (h' : PL w b m tt) (O : Bool) (ho : O = true ↔ ss = tt) :
    Calls Tryd.prog 36 #[.slice a n c1, .slice b m c2] w fun e w' => e = .returned (.bool O) ∧ ∃ q, w' = w.drewN q := by
  obtain ⟨hl, hn, h3⟩ := h
  obtain ⟨hl_, hm, h3_⟩ := h'
  by_cases hnm : n = m
  · subst hnm
    have HA := Lib.hid (p := 0 < n → ∃ x o y p, a = some ⟨x, o, none⟩ ∧ b = some ⟨y, p, none⟩ ∧ ∀ i, i < n → (w.cell? ⟨x, o + i * 2, none⟩ = some (.string (ss.getD i default).1) ∧ w.cell? ⟨x, o + i * 2 + 1, none⟩ = some (.int .i64 (ss.getD i default).2)) ∧ w.cell? ⟨y, p + i * 2, none⟩ = some (.string (tt.getD i default).1) ∧ w.cell? ⟨y, p + i * 2 + 1, none⟩ = some (.int .i64 (tt.getD i default).2)) (fun h0 => by
      rcases h3 with h3 | ⟨x, o, e1, _, h3⟩
      · omega
      · rcases h3_ with h3_ | ⟨y, p, e2, _, h3_⟩
        · omega
        · exact ⟨x, o, y, p, e1, e2, fun i hi => ⟨h3 i hi, h3_ i hi⟩⟩)
    have HL := Lib.hid (p := (∀ i, i < n → ss.getD i default = tt.getD i default) → O = true) (fun z => ho.2 (gen_all hl hl_ z))
    have HN := Lib.hid (p := ∀ k, ¬ ss.getD k default = tt.getD k default → O = false) (fun k z => gen_no ho (fun e => z (by rw [e])))
    clear h3 h3_ hl hl_ ho
    go_enter Tryd.func36, Tryd.ntmps36
    go_wp2
    go_loopw [5] (fun t wr => ∃ k : Nat, k ≤ n ∧ t = .int .i64 k ∧ RowKit.Hid (∀ i, i < k → ss.getD i default = tt.getD i default) ∧ ∃ q, wr = w.drewN q) (fun t _ => n - (intOf t).toNat)
    case atStart => exact ⟨0, by omega, rfl, (fun i hi => absurd hi (by omega)), 0, rfl⟩
    case round =>
      obtain ⟨k, hk, rfl, hE, q, rfl⟩ := hrel
      by_cases hlt : k < n
      · obtain ⟨x, o, y, p, rfl, rfl, hc⟩ := HA.out (by omega)
        obtain ⟨⟨c0, c1⟩, d0, d1⟩ := hc k hlt
        have kc : (k : Int) < (n : Int) := by omega
        have NE := Lib.hid (HN.out k)
        have EQ := Lib.hid (gen_step hE.out)
        clear hc hE HN HA
        generalize ss.getD k default = f at *
        generalize tt.getD k default = f' at *
        obtain ⟨fh, fv⟩ := f
        obtain ⟨gh, gv⟩ := f'
        simp only at c0 c1 d0 d1
        by_cases hf : fh = gh
        · subst hf
          by_cases hv : fv = gv
          · subst hv
            have E2 := Lib.hid (EQ.out rfl)
            clear NE EQ
            go_wp2
            go_region
            all_goals
              go_wp2
              go_roundw
              case rel => exact ⟨k + 1, by omega, by go_num, E2.out, _, rfl⟩
              case measure => simp [intOf]; omega
          · have N2 := NE.out (fun e => hv (congrArg Prod.snd e))
            subst N2
            clear NE EQ
            go_wp2
            go_region
            all_goals
              go_wp2
              go_ret
              exact ⟨rfl, _, rfl⟩
        · have N2 := NE.out (fun e => hf (congrArg Prod.fst e))
          subst N2
          have t1 := toList_ne hf
          have t2 : (fh.toList == gh.toList) = false := by simpa using t1
          clear hf
          clear NE EQ
          go_wp2
          go_region
          all_goals
            go_wp2
            go_ret
            exact ⟨rfl, _, rfl⟩
      · obtain rfl : k = n := by omega
        have e := HL.out hE.out
        subst e
        clear HL HN HA hE
        go_wp2
        go_ret
        exact ⟨rfl, _, rfl⟩
  · have kc : ¬ (n : Int) = (m : Int) := by omega
    have N2 := gen_no ho (fun e => hnm (by rw [← hl, ← hl_, e]))
    subst N2
    clear h3 h3_ hl hl_ ho
    go_enter Tryd.func36, Tryd.ntmps36
    go_wp2
    go_ret
    exact ⟨rfl, 0, rfl⟩

set_option maxHeartbeats 4000000 in
theorem sameRows_gen (a b : Option Addr) (n m c1 c2 : Nat) (rs qs : List Rw) (w : World) (h : RL w a n rs) (h' : RL w b m qs) (O : Bool) (ho : O = true ↔ rs.map (·.cs) = qs.map (·.cs)) :
    Calls Tryd.prog 19 #[.slice a n c1, .slice b m c2] w fun e w' => e = .returned (.bool O) ∧ ∃ q, w' = w.drewN q := by
  obtain ⟨hl, hn, hr, h3⟩ := h
  obtain ⟨hl', hm, hr', h3'⟩ := h'
  by_cases hnm : n = m
  · subst hnm
    have HA := Lib.hid (p := 0 < n → ∃ x o y p, a = some ⟨x, o, none⟩ ∧ b = some ⟨y, p, none⟩ ∧ ∀ i, i < n → ∃ a1 a2 m1 m2 d1 d2, w.cell? ⟨x, o + i, none⟩ = some (.slice a1 m1 d1) ∧ w.cell? ⟨y, p + i, none⟩ = some (.slice a2 m2 d2) ∧ RC w a1 m1 ((rs.map (·.cs)).getD i default) ∧ RC w a2 m2 ((qs.map (·.cs)).getD i default)) (fun h0 => by
      rcases h3 with h3 | ⟨x, o, e1, _, h3⟩
      · omega
      · rcases h3' with h3' | ⟨y, p, e2, _, h3'⟩
        · omega
        · refine ⟨x, o, y, p, e1, e2, fun i hi => ?_⟩
          have i1 : i < rs.length := by omega
          have i2 : i < qs.length := by omega
          have g1 : rs.getD i default = rs[i] := by simp [List.getD, i1]
          have g2 : qs.getD i default = qs[i] := by simp [List.getD, i2]
          have k1 := h3 i hi
          have k2 := h3' i hi
          rw [g1] at k1
          rw [g2] at k2
          rw [show (rs.map (·.cs)).getD i default = rs[i].cs by simp [List.getD, i1], show (qs.map (·.cs)).getD i default = qs[i].cs by simp [List.getD, i2]]
          exact ⟨_, _, _, _, _, _, k1, k2, (hr _ (List.getElem_mem i1)).1, (hr' _ (List.getElem_mem i2)).1⟩)
    have HL := Lib.hid (p := (∀ i, i < n → (rs.map (·.cs)).getD i default = (qs.map (·.cs)).getD i default) → O = true) (fun z => ho.2 (gen_all (by simpa using hl) (by simpa using hl') z))
    have HN := Lib.hid (p := ∀ k, ¬ (rs.map (·.cs)).getD k default = (qs.map (·.cs)).getD k default → O = false) (fun k z => gen_no ho (fun e => z (by rw [e])))
    clear h3 h3' hl hl' hr hr' ho
    generalize rs.map (·.cs) = ss at *
    generalize qs.map (·.cs) = tt at *
    go_enter Tryd.func19, Tryd.ntmps19
    go_wp2
    go_loopw [5] (fun t wr => ∃ k : Nat, k ≤ n ∧ t = .int .i64 k ∧ RowKit.Hid (∀ i, i < k → ss.getD i default = tt.getD i default) ∧ ∃ q, wr = w.drewN q) (fun t _ => n - (intOf t).toNat)
    case atStart => exact ⟨0, by omega, rfl, (fun i hi => absurd hi (by omega)), 0, rfl⟩
    case round =>
      obtain ⟨k, hk, rfl, hE, q, hq⟩ := hrel
      have HQ := Lib.hid hq
      rename World => wr
      by_cases hlt : k < n
      · obtain ⟨x, o, y, p, rfl, rfl, hc⟩ := HA.out (by omega)
        obtain ⟨a1, a2, m1, m2, d1, d2, c0, c1, r1, r2⟩ := hc k hlt
        rw [← World.cell?_drewN (n := q), ← hq] at c0 c1
        have r1 := r1.drewN q
        have r2 := r2.drewN q
        rw [← hq] at r1 r2
        have NE := Lib.hid (HN.out k)
        have EQ := Lib.hid (gen_step hE.out)
        clear hc hq hE HN HA
        generalize ss.getD k default = cs at *
        generalize tt.getD k default = ds at *
        have R1 := Lib.hid r1
        have R2 := Lib.hid r2
        have kc : (k : Int) < (n : Int) := by omega
        clear r1 r2
        by_cases hcd : cs = ds
        · have KS := Lib.hid (fun C D W (h : RC W a1 m1 cs) (h' : RC W a2 m2 ds) => sameRow_gen a1 a2 m1 m2 C D cs ds W h h' true ⟨fun _ => hcd, fun _ => rfl⟩)
          have E2 := Lib.hid (EQ.out hcd)
          clear NE EQ hcd
          go_wp2
          go_quiet (first | (go_at_call 35; exact Calls.quiet_of (KS.out _ _ _ (R1.out.drewN _) (R2.out.drewN _))))
          go_wp2
          go_roundw
          case rel => exact ⟨k + 1, by omega, by go_num, E2.out, _, by rw [HQ.out]; exact World.drewN_drewN _ _ _⟩
          case measure => simp [intOf]; omega
        · have KS := Lib.hid (fun C D W (h : RC W a1 m1 cs) (h' : RC W a2 m2 ds) => sameRow_gen a1 a2 m1 m2 C D cs ds W h h' false ⟨(fun z => by cases z), fun z => absurd z hcd⟩)
          have N2 := NE.out hcd
          subst N2
          clear NE EQ hcd
          go_wp2
          go_quiet (first | (go_at_call 35; exact Calls.quiet_of (KS.out _ _ _ (R1.out.drewN _) (R2.out.drewN _))))
          go_wp2
          go_ret
          exact ⟨rfl, _, by rw [HQ.out]; exact World.drewN_drewN _ _ _⟩
      · obtain rfl : k = n := by omega
        have e := HL.out hE.out
        subst e
        clear hq HL HN HA hE
        go_wp2
        go_ret
        exact ⟨rfl, _, HQ.out⟩
  · have kc : ¬ (n : Int) = (m : Int) := by omega
    have N2 := gen_no ho (fun e => hnm (by rw [← hl, ← hl']; simpa using congrArg List.length e))
    subst N2
    clear h3 h3' hl hl' hr hr' ho
    go_enter Tryd.func19, Tryd.ntmps19
    go_wp2
    go_ret
    exact ⟨rfl, 0, rfl⟩
end Go.Proofs.YtldplmchgmoopaaDoor

namespace Go.Proofs.YtldplmchgmoopaaDoor
open Go.RowKit
set_option linter.unusedVariables false
set_option linter.unusedSimpArgs false

theorem PL.drewN {w : World} {a n cs} (h : PL w a n cs) (q : Nat) : PL (w.drewN q) a n cs := h
/-- The lists that were kept as they came, and their copies, as they read; L: they are alike. -/
structure RawV (w : World) (g : Bg) (L : Prop) : Prop where
  lr : g.wr.length = g.rr.length
  ln : g.wn.length = g.rn.length
  lp : g.wp.length = g.rp.length
  r : ∀ k, k < g.rr.length → ∃ a n c b m d rs qs, g.rr.getD k default = .slice a n c ∧ g.wr.getD k default = .slice b m d ∧ RL w a n rs ∧ RL w b m qs ∧ (L → rs.map (·.cs) = qs.map (·.cs))
  n : ∀ k, k < g.rn.length → ∃ a n c b m d rs qs, g.rn.getD k default = .slice a n c ∧ g.wn.getD k default = .slice b m d ∧ NL w a n rs ∧ NL w b m qs ∧ (L → rs = qs)
  p : ∀ k, k < g.rp.length → ∃ a n c b m d rs qs, g.rp.getD k default = .slice a n c ∧ g.wp.getD k default = .slice b m d ∧ PL w a n rs ∧ PL w b m qs ∧ (L → rs = qs)
theorem Bk.at_list {W : World} {B bk : Nat} {vs : List Value} {g : Bg} {sn : List (Nat × Obj)} {mark : Int} {late : Bool} (h : Bk W B bk vs g sn mark late) {k n : Nat} {T : TypeId} {xs : List Value} (hf : (⟨k, T, 1, n, xs⟩ : BkF) ∈ g.fs) (hn : xs.length = n) : ∃ a c, W.cell? ⟨bk, k, none⟩ = some (.slice a n c) ∧ (n = 0 ∨ ∃ z, a = some ⟨z, 0, none⟩ ∧ ∀ i, i < n → W.cell? ⟨z, i, none⟩ = some (xs.getD i default)) := by
  obtain ⟨a, c, q, o⟩ := h.list hf
  refine ⟨a, c, q, ?_⟩
  simp only at o
  rcases Nat.eq_zero_or_pos n with z | z
  · exact .inl z
  · rcases o.2 with ⟨e, e0⟩ | ⟨g, cap, cur, e, _, q1, _, _, _, q5⟩
    · omega
    · injection e with e1 e2 e3
      subst e1
      exact .inr ⟨g, rfl, fun i hi => by
        rw [World.ownsRow.cellAt o i (by omega), List.getElem?_eq_getElem (by omega)]
        simp [List.getD, show i < xs.length by omega]⟩
set_option maxRecDepth 100000 in
set_option maxHeartbeats 8000000 in
theorem raw_any (B bk : Nat) (vs : List Value) (g : Bg) (sn : List (Nat × Obj)) (mark : Int) (late : Bool) (L : Prop) (w : World) (h : Bk w B bk vs g sn mark late) (V : RawV w g L) (hb : g.rr.length ≤ 1000000000000 ∧ g.rn.length ≤ 1000000000000 ∧ g.rp.length ≤ 1000000000000) :
    Calls Tryd.prog 22 #[.pointer (some ⟨bk, 0, none⟩)] w fun e w' => (∃ o, e = .returned (.bool o) ∧ (L → o = true)) ∧ ∃ q, w' = w.drewN q := by
  obtain ⟨a1, b1, c1, A1⟩ := h.at_list (k := 13) (T := 23) (xs := g.rr) (n := g.rr.length) (by simp [Bg.fs]) rfl
  obtain ⟨a2, b2, c2, A2⟩ := h.at_list (k := 14) (T := 23) (xs := g.wr) (n := g.wr.length) (by simp [Bg.fs]) rfl
  obtain ⟨a3, b3, c3, A3⟩ := h.at_list (k := 15) (T := 27) (xs := g.rn) (n := g.rn.length) (by simp [Bg.fs]) rfl
  obtain ⟨a4, b4, c4, A4⟩ := h.at_list (k := 16) (T := 27) (xs := g.wn) (n := g.wn.length) (by simp [Bg.fs]) rfl
  obtain ⟨a5, b5, c5, A5⟩ := h.at_list (k := 17) (T := 63) (xs := g.rp) (n := g.rp.length) (by simp [Bg.fs]) rfl
  obtain ⟨a6, b6, c6, A6⟩ := h.at_list (k := 18) (T := 63) (xs := g.wp) (n := g.wp.length) (by simp [Bg.fs]) rfl
  obtain ⟨V1, V2, V3, V4, V5, V6⟩ := V
  rw [V1] at c2 A2
  rw [V2] at c4 A4
  rw [V3] at c6 A6
  obtain ⟨N1, hN1⟩ : ∃ n, g.rr.length = n := ⟨_, rfl⟩
  obtain ⟨N2, hN2⟩ : ∃ n, g.rn.length = n := ⟨_, rfl⟩
  obtain ⟨N3, hN3⟩ : ∃ n, g.rp.length = n := ⟨_, rfl⟩
  rw [hN1] at c1 A1 c2 A2 V4
  rw [hN2] at c3 A3 c4 A4 V5
  rw [hN3] at c5 A5 c6 A6 V6
  have HR := Lib.hid (p := ∀ k, k < N1 → ∃ x y a n c b m d rs qs, a1 = some ⟨x, 0, none⟩ ∧ a2 = some ⟨y, 0, none⟩ ∧ w.cell? ⟨x, k, none⟩ = some (.slice a n c) ∧ w.cell? ⟨y, k, none⟩ = some (.slice b m d) ∧ RL w a n rs ∧ RL w b m qs ∧ (L → rs.map (·.cs) = qs.map (·.cs))) (fun k hk => by
    obtain ⟨a, n, c, b, m, d, rs, qs, e1, e2, r⟩ := V4 k hk
    rcases A1 with z | ⟨x, ex, X⟩
    · omega
    · rcases A2 with z | ⟨y, ey, Y⟩
      · omega
      · exact ⟨x, y, a, n, c, b, m, d, rs, qs, ex, ey, e1 ▸ X k hk, e2 ▸ Y k hk, r⟩)
  have HN := Lib.hid (p := ∀ k, k < N2 → ∃ x y a n c b m d rs qs, a3 = some ⟨x, 0, none⟩ ∧ a4 = some ⟨y, 0, none⟩ ∧ w.cell? ⟨x, k, none⟩ = some (.slice a n c) ∧ w.cell? ⟨y, k, none⟩ = some (.slice b m d) ∧ NL w a n rs ∧ NL w b m qs ∧ (L → rs = qs)) (fun k hk => by
    obtain ⟨a, n, c, b, m, d, rs, qs, e1, e2, r⟩ := V5 k hk
    rcases A3 with z | ⟨x, ex, X⟩
    · omega
    · rcases A4 with z | ⟨y, ey, Y⟩
      · omega
      · exact ⟨x, y, a, n, c, b, m, d, rs, qs, ex, ey, e1 ▸ X k hk, e2 ▸ Y k hk, r⟩)
  have HP := Lib.hid (p := ∀ k, k < N3 → ∃ x y a n c b m d rs qs, a5 = some ⟨x, 0, none⟩ ∧ a6 = some ⟨y, 0, none⟩ ∧ w.cell? ⟨x, k, none⟩ = some (.slice a n c) ∧ w.cell? ⟨y, k, none⟩ = some (.slice b m d) ∧ PL w a n rs ∧ PL w b m qs ∧ (L → rs = qs)) (fun k hk => by
    obtain ⟨a, n, c, b, m, d, rs, qs, e1, e2, r⟩ := V6 k hk
    rcases A5 with z | ⟨x, ex, X⟩
    · omega
    · rcases A6 with z | ⟨y, ey, Y⟩
      · omega
      · exact ⟨x, y, a, n, c, b, m, d, rs, qs, ex, ey, e1 ▸ X k hk, e2 ▸ Y k hk, r⟩)
  obtain ⟨l1, l2, l3⟩ := hb
  rw [hN1] at l1
  rw [hN2] at l2
  rw [hN3] at l3
  clear A1 A2 A3 A4 A5 A6 V1 V2 V3 V4 V5 V6 hN1 hN2 hN3 h
  go_enter Tryd.func22, Tryd.ntmps22
  go_wp2
  go_loopw [3] (fun t ws => ∃ k : Nat, k ≤ N1 ∧ t = .int .i64 k ∧ ∃ q, ws = w.drewN q) (fun t _ => N1 - (intOf t).toNat)
  case atStart => exact ⟨0, Nat.zero_le _, rfl, 0, rfl⟩
  case round =>
    obtain ⟨k, hk, rfl, q, hq⟩ := hrel
    have HQ := Lib.hid hq
    rename World => wr
    have cc1 : wr.cell? ⟨bk, 13, none⟩ = some (.slice a1 N1 b1) := by rw [hq, World.cell?_drewN]; exact c1
    have cc2 : wr.cell? ⟨bk, 14, none⟩ = some (.slice a2 N1 b2) := by rw [hq, World.cell?_drewN]; exact c2
    by_cases hlt : k < N1
    · obtain ⟨x, y, a, n, c, b, m, d, rs, qs, rfl, rfl, d1, d2, r1, r2, hL⟩ := HR.out k hlt
      rw [← World.cell?_drewN (n := q), ← hq] at d1 d2
      have r1 := r1.drewN q
      have r2 := r2.drewN q
      rw [← hq] at r1 r2
      have R1 := Lib.hid r1
      have R2 := Lib.hid r2
      have HL := Lib.hid hL
      have kc : (k : Int) < (N1 : Int) := by omega
      have kw : IntKind.i64.wrap ((k : Int) + 1) = (k : Int) + 1 := by simp [IntKind.wrap, IntKind.bits, IntKind.signed]; omega
      clear hq r1 r2 hL
      by_cases he : rs.map (·.cs) = qs.map (·.cs)
      · have KS := Lib.hid (fun C D W (h : RL W a n rs) (h' : RL W b m qs) => sameRows_gen a b n m C D rs qs W h h' true ⟨fun _ => he, fun _ => rfl⟩)
        clear he
        go_wp2
        go_quiet (first | (go_at_call 19; exact Calls.quiet_of (KS.out _ _ _ (R1.out.drewN _) (R2.out.drewN _))))
        go_wp2
        go_roundw
        case rel => exact ⟨k + 1, by omega, by go_num, _, by rw [HQ.out]; exact World.drewN_drewN _ _ _⟩
        case measure => simp [intOf]; omega
      · have KS := Lib.hid (fun C D W (h : RL W a n rs) (h' : RL W b m qs) => sameRows_gen a b n m C D rs qs W h h' false ⟨(fun z => by cases z), fun z => absurd z he⟩)
        have NL' := Lib.hid (p := ¬ L) (fun z => he (HL.out z))
        clear he
        go_wp2
        go_quiet (first | (go_at_call 19; exact Calls.quiet_of (KS.out _ _ _ (R1.out.drewN _) (R2.out.drewN _))))
        go_wp2
        go_ret
        exact ⟨⟨_, rfl, fun z => absurd z NL'.out⟩, _, by rw [HQ.out]; exact World.drewN_drewN _ _ _⟩
    · obtain rfl : k = N1 := by omega
      clear hq
      go_wp2
      go_loopw [5] (fun t ws => ∃ k : Nat, k ≤ N2 ∧ t = .int .i64 k ∧ ∃ q, ws = w.drewN q) (fun t _ => N2 - (intOf t).toNat)
      case atStart => exact ⟨0, Nat.zero_le _, rfl, _, HQ.out⟩
      case round =>
        obtain ⟨k, hk, rfl, q, hq⟩ := hrel
        have HQ := Lib.hid hq
        rename World => wr
        have cc1 : wr.cell? ⟨bk, 15, none⟩ = some (.slice a3 N2 b3) := by rw [hq, World.cell?_drewN]; exact c3
        have cc2 : wr.cell? ⟨bk, 16, none⟩ = some (.slice a4 N2 b4) := by rw [hq, World.cell?_drewN]; exact c4
        by_cases hlt : k < N2
        · obtain ⟨x, y, a, n, c, b, m, d, rs, qs, rfl, rfl, d1, d2, r1, r2, hL⟩ := HN.out k hlt
          rw [← World.cell?_drewN (n := q), ← hq] at d1 d2
          have r1 := r1.drewN q
          have r2 := r2.drewN q
          rw [← hq] at r1 r2
          have R1 := Lib.hid r1
          have R2 := Lib.hid r2
          have HL := Lib.hid hL
          have kc : (k : Int) < (N2 : Int) := by omega
          have kw : IntKind.i64.wrap ((k : Int) + 1) = (k : Int) + 1 := by simp [IntKind.wrap, IntKind.bits, IntKind.signed]; omega
          clear hq r1 r2 hL
          by_cases he : rs = qs
          · have KS := Lib.hid (fun C D W (h : NL W a n rs) (h' : NL W b m qs) => sameNames_gen a b n m C D rs qs W h h' true ⟨fun _ => he, fun _ => rfl⟩)
            clear he
            go_wp2
            go_quiet (first | (go_at_call 18; exact Calls.quiet_of (KS.out _ _ _ (R1.out.drewN _) (R2.out.drewN _))))
            go_wp2
            go_roundw
            case rel => exact ⟨k + 1, by omega, by go_num, _, by rw [HQ.out]; exact World.drewN_drewN _ _ _⟩
            case measure => simp [intOf]; omega
          · have KS := Lib.hid (fun C D W (h : NL W a n rs) (h' : NL W b m qs) => sameNames_gen a b n m C D rs qs W h h' false ⟨(fun z => by cases z), fun z => absurd z he⟩)
            have NL' := Lib.hid (p := ¬ L) (fun z => he (HL.out z))
            clear he
            go_wp2
            go_quiet (first | (go_at_call 18; exact Calls.quiet_of (KS.out _ _ _ (R1.out.drewN _) (R2.out.drewN _))))
            go_wp2
            go_ret
            exact ⟨⟨_, rfl, fun z => absurd z NL'.out⟩, _, by rw [HQ.out]; exact World.drewN_drewN _ _ _⟩
        · obtain rfl : k = N2 := by omega
          clear hq
          go_wp2
          go_loopw [7] (fun t ws => ∃ k : Nat, k ≤ N3 ∧ t = .int .i64 k ∧ ∃ q, ws = w.drewN q) (fun t _ => N3 - (intOf t).toNat)
          case atStart => exact ⟨0, Nat.zero_le _, rfl, _, HQ.out⟩
          case round =>
            obtain ⟨k, hk, rfl, q, hq⟩ := hrel
            have HQ := Lib.hid hq
            rename World => wr
            have cc1 : wr.cell? ⟨bk, 17, none⟩ = some (.slice a5 N3 b5) := by rw [hq, World.cell?_drewN]; exact c5
            have cc2 : wr.cell? ⟨bk, 18, none⟩ = some (.slice a6 N3 b6) := by rw [hq, World.cell?_drewN]; exact c6
            by_cases hlt : k < N3
            · obtain ⟨x, y, a, n, c, b, m, d, rs, qs, rfl, rfl, d1, d2, r1, r2, hL⟩ := HP.out k hlt
              rw [← World.cell?_drewN (n := q), ← hq] at d1 d2
              have r1 := r1.drewN q
              have r2 := r2.drewN q
              rw [← hq] at r1 r2
              have R1 := Lib.hid r1
              have R2 := Lib.hid r2
              have HL := Lib.hid hL
              have kc : (k : Int) < (N3 : Int) := by omega
              have kw : IntKind.i64.wrap ((k : Int) + 1) = (k : Int) + 1 := by simp [IntKind.wrap, IntKind.bits, IntKind.signed]; omega
              clear hq r1 r2 hL
              by_cases he : rs = qs
              · have KS := Lib.hid (fun C D W (h : PL W a n rs) (h' : PL W b m qs) => samePairs_gen a b n m C D rs qs W h h' true ⟨fun _ => he, fun _ => rfl⟩)
                clear he
                go_wp2
                go_quiet (first | (go_at_call 36; exact Calls.quiet_of (KS.out _ _ _ (R1.out.drewN _) (R2.out.drewN _))))
                go_wp2
                go_roundw
                case rel => exact ⟨k + 1, by omega, by go_num, _, by rw [HQ.out]; exact World.drewN_drewN _ _ _⟩
                case measure => simp [intOf]; omega
              · have KS := Lib.hid (fun C D W (h : PL W a n rs) (h' : PL W b m qs) => samePairs_gen a b n m C D rs qs W h h' false ⟨(fun z => by cases z), fun z => absurd z he⟩)
                have NL' := Lib.hid (p := ¬ L) (fun z => he (HL.out z))
                clear he
                go_wp2
                go_quiet (first | (go_at_call 36; exact Calls.quiet_of (KS.out _ _ _ (R1.out.drewN _) (R2.out.drewN _))))
                go_wp2
                go_ret
                exact ⟨⟨_, rfl, fun z => absurd z NL'.out⟩, _, by rw [HQ.out]; exact World.drewN_drewN _ _ _⟩
            · obtain rfl : k = N3 := by omega
              clear hq
              go_wp2
              go_ret
              exact ⟨⟨_, rfl, fun _ => rfl⟩, _, HQ.out⟩
end Go.Proofs.YtldplmchgmoopaaDoor
