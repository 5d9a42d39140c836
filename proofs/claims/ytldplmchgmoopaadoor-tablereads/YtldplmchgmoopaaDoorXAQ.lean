import Derived.Test.YtldplmchgmoopaaDoorXAP
namespace Go.Proofs.YtldplmchgmoopaaDoor
open Go.RowKit
set_option linter.unusedVariables false
set_option linter.unusedSimpArgs false

/-- Below a place nothing turns but one block. -/
structure Fr (B bk : Nat) (w w' : World) : Prop where
  os : w'.os = w.os
  tape : w'.tape = w.tape
  out : w'.output = w.output
  size : w.heap.size ≤ w'.heap.size
  blk : ∀ b, b < B → b ≠ bk → w'.heap[b]? = w.heap[b]?
theorem Fr.refl (B bk : Nat) (w : World) : Fr B bk w w := ⟨rfl, rfl, rfl, Nat.le_refl _, fun _ _ _ => rfl⟩
theorem Fr.trans {B bk : Nat} {a b c : World} (h : Fr B bk a b) (k : Fr B bk b c) : Fr B bk a c := ⟨k.os.trans h.os, k.tape.trans h.tape, k.out.trans h.out, Nat.le_trans h.size k.size, fun x h1 h2 => (k.blk x h1 h2).trans (h.blk x h1 h2)⟩
theorem Fr.below {B bk : Nat} {a b : World} (h : Below a.heap.size a b) (hB : B ≤ a.heap.size) : Fr B bk a b := ⟨h.os, h.tape, h.output, h.size, fun x h1 _ => h.block x (by omega)⟩
theorem Fr.grown {B bk : Nat} {a b : World} {r : Option Nat} (h : a.grownBy b r) (hB : B ≤ a.heap.size) (hr : ∀ z, r = some z → B ≤ z) : Fr B bk a b := ⟨h.os, h.tape, h.output, h.size, fun x h1 _ => h.block x (by omega) (fun e => by have := hr x e.symm; omega)⟩
theorem Fr.set {B bk o : Nat} {a : World} (v : Value) : Fr B bk a (a.setCell ⟨bk, o, none⟩ v) := by
  have g := grT_set a bk o v
  exact ⟨g.os, g.tape, g.output, g.size, fun x h1 h2 => by
    have q : ¬ bk = x := fun e => h2 e.symm
    simp [World.setCell, Array.getElem?_modify, q]⟩
theorem Fr.put {B bk z o : Nat} {a : World} (hz : B ≤ z) (v : Value) : Fr B bk a (a.setCell ⟨z, o, none⟩ v) := by
  have g := grT_set a z o v
  exact ⟨g.os, g.tape, g.output, g.size, fun x h1 h2 => by
    have q : ¬ z = x := fun e => by omega
    simp [World.setCell, Array.getElem?_modify, q]⟩
/-- The field of a list that has just grown. -/
theorem BkO.fld {W W' : World} {B bk : Nat} {vs : List Value} {fs : List BkF} {sn : List (Nat × Obj)} (h : BkO W B bk vs fs sn) {f : BkF} (hf : f ∈ fs) (g : W.grownBy W' (vs.getD f.k default).ownBlock) (k : Nat) (hk : k < 19) : W'.cell? ⟨bk, k, none⟩ = some (vs.getD k default) ∧ W'.frozen? ⟨bk, k, none⟩ = false := by
  have nb0 : (vs.getD f.k default).ownBlock ≠ some bk := fun z => ty_apart (h.own f hf).1 h.hb (fun z => (h.own f hf).2.2 z.symm) z
  have hb1 : W'.heap[bk]? = some (.cells vs.toArray 30) := (g.block _ h.lt.1 (fun z => nb0 z.symm)).trans h.hb
  refine ⟨?_, Joins.unfrozen_of_block hb1 _⟩
  rw [Joins.cell_of_block hb1, List.getElem?_toArray]
  have : k < vs.length := by rw [h.hl]; exact hk
  simp [List.getD, this]
theorem getD_ne {l : List Value} {i j : Nat} {v : Value} (h : i ≠ j) : (l.set i v).getD j default = l.getD j default := by
  simp only [List.getD]; rw [List.getElem?_set_ne h]
/-- One list of the book grows by one: what is known ahead of the append, and behind the store. -/
theorem Bk.grow {W : World} {B bk : Nat} {vs : List Value} {g g' : Bg} {sn : List (Nat × Obj)} {mark : Int} {late : Bool} (h : Bk W B bk vs g sn mark late) (k : Nat) (T : TypeId) (n : Nat) (xs : List Value) (x : Value) (fa fb : List BkF) (e : g.fs = fa ++ ⟨k, T, 1, n, xs⟩ :: fb) (e' : g'.fs = fa ++ ⟨k, T, 1, n + 1, xs ++ [x]⟩ :: fb) (hB : B ≤ W.heap.size) :
    W.cell? ⟨bk, k, none⟩ = some (vs.getD k default) ∧ (W.alloc (.cells #[x] T)).ownsRow B T 1 (vs.getD k default) n xs ∧ ∀ v' w', w'.ownsRow B T 1 v' (n + 1) (xs ++ [x]) → (W.alloc (.cells #[x] T)).grownBy w' (vs.getD k default).ownBlock → (v'.ownBlock = (vs.getD k default).ownBlock ∨ v'.ownBlock = some (W.alloc (.cells #[x] T)).heap.size) →
      (w'.cell? ⟨bk, k, none⟩ = some (vs.getD k default) ∧ w'.frozen? ⟨bk, k, none⟩ = false) ∧ Bk (w'.setCell ⟨bk, k, none⟩ v') B bk (vs.set k v') g' sn mark late ∧ Fr B bk W (w'.setCell ⟨bk, k, none⟩ v') := by
  have mem : (⟨k, T, 1, n, xs⟩ : BkF) ∈ g.fs := by rw [e]; exact List.mem_append.2 (.inr (List.mem_cons_self ..))
  have ba := below_al W (.cells #[x] T)
  have ha := h.below ba
  have k19 := (h.o.own _ mem).2.1
  refine ⟨(h.o.cell k k19).1, (ha.o.own _ mem).1, fun v' w' o g2 eb => ⟨ha.o.fld mem g2 k k19, ha.appd e e' o g2 eb, ?_⟩⟩
  exact ((Fr.below ba hB).trans (Fr.grown g2 (Nat.le_trans hB ba.size) (fun z q => ((ha.o.own _ mem).1.lt z q).1))).trans (Fr.set v')
/-- 'Other'. -/
def othS : ByteArray := ⟨#[79, 116, 104, 101, 114]⟩
theorem infoSS : (Tryd.prog.info? 27).map (fun i => (i.zero, i.size, i.bytes)) = some (some (.slice none 0 0), 1, 24) := by kernel_rfl
/-- Names that were left, grown. -/
def NamIt (sn : List (Nat × Obj)) (gv : Value) (s : ByteArray) (n : Nat) : Prop := ∃ gg cap cur, gv = .slice (some ⟨gg, 0, none⟩) (n + 70) cap ∧ (gg, Obj.cells cur 9) ∈ sn ∧ cur.toList.take (n + 70) = List.replicate n (.string s) ++ List.replicate 70 (.string othS)
theorem NamIt.more {sn sn' : List (Nat × Obj)} {gv : Value} {s : ByteArray} {n : Nat} (h : NamIt sn gv s n) (k : ∀ p ∈ sn, p ∈ sn') : NamIt sn' gv s n := by
  obtain ⟨gg, cap, cur, h1, h2, h3⟩ := h
  exact ⟨gg, cap, cur, h1, k _ h2, h3⟩
/-- What names are left as. -/
def NmE (B bk : Nat) (g : Bg) (sn : List (Nat × Obj)) (mark : Int) (a : Option Addr) (n : Nat) (w w' : World) : Prop :=
  ∃ vs' gv add, Bk w' B bk vs' { g with nv := g.nv ++ [gv], sy := g.sy ++ [mine (mark + 1).toNat], lg := g.lg ++ [n] } (add ++ sn) (mark + 1) false ∧ NamIt add gv (mine (mark + 1).toNat) n ∧ OldIt add 9 a n (List.replicate n (.string (mine (mark + 1).toNat))) ∧ ((sn.map (·.1)).Nodup → ((add ++ sn).map (·.1)).Nodup) ∧ Fr B bk w w'
theorem take_first {l us xs : List Value} {k m : Nat} (h : l.take m = us ++ xs) (hk : us.length = k) (hm : k ≤ m) : l.take k = us := by
  have : l.take k = (l.take m).take k := by rw [List.take_take, Nat.min_eq_left hm]
  rw [this, h, ← hk]
  exact List.take_left
set_option maxRecDepth 100000 in
set_option maxHeartbeats 8000000 in
theorem names_early (B bk : Nat) (vs : List Value) (g : Bg) (sn : List (Nat × Obj)) (mark : Int) (a : Option Addr) (n c : Nat) (xs : List Value) (w : World) (h : Bk w B bk vs g sn mark false) (hB : B ≤ w.heap.size) (o : w.ownsRow B 9 1 (.slice a n c) n xs) (fr : ∀ z, (Value.slice a n c).ownBlock = some z → BkO.Free bk vs g.fs sn z)
    (hn : n ≤ 1000000) (hm : 0 ≤ mark ∧ mark ≤ 1000000000000000) (hg : g.nv.length ≤ 1000000000000 ∧ g.sy.length ≤ 1000000000000 ∧ g.lg.length ≤ 1000000000000) :
    Calls Tryd.prog 21 #[.pointer (some ⟨bk, 0, none⟩), .slice a n c] w fun e w' => e = .returned (.tuple #[]) ∧ NmE B bk g sn mark a n w w' := by
  obtain ⟨M, hM⟩ : ∃ M : Nat, mark + 1 = (M : Int) := ⟨(mark + 1).toNat, by omega⟩
  have H1 := Lib.hid (h.mark (M : Int))
  have O1 := Lib.hid (p := (w.setCell ⟨bk, 11, none⟩ (.int .i64 (M : Int))).ownsRow B 9 1 (.slice a n c) n xs) (own_keep o (fun b e => (grT_set w bk 11 _).block b (by obtain ⟨cur, q⟩ := own_blk o e; exact blk_lt q) (by intro q; injection q with q; exact (fr b e).1 q)))
  have F1 := Lib.hid (p := Fr B bk w (w.setCell ⟨bk, 11, none⟩ (.int .i64 (M : Int)))) (Fr.set _)
  have FR := Lib.hid (p := ∀ z, (Value.slice a n c).ownBlock = some z → BkO.Free bk (vs.set 11 (.int .i64 (M : Int))) g.fs sn z) (fun z e => by
    obtain ⟨f1, f2, f3⟩ := fr z e
    refine ⟨f1, fun f hf => ?_, f3⟩
    rw [show (vs.set 11 (.int .i64 (M : Int))).getD f.k default = vs.getD f.k default by simp only [List.getD]; rw [List.getElem?_set_ne (g.keys f hf).1.symm]]
    exact f2 f hf)
  obtain ⟨vs1, hvs1⟩ : ∃ v, vs.set 11 (.int .i64 (M : Int)) = v := ⟨_, rfl⟩
  obtain ⟨w1, hw1⟩ : ∃ v, w.setCell ⟨bk, 11, none⟩ (.int .i64 (M : Int)) = v := ⟨_, rfl⟩
  rw [hvs1] at H1 FR
  rw [hw1] at H1 O1 F1
  have HMM := Lib.hid hM
  obtain ⟨c0, c1, c2⟩ := h.cells
  obtain ⟨d0, d1, _⟩ := H1.out.cells
  have kw : IntKind.i64.wrap (mark + 1) = mark + 1 := by simp [IntKind.wrap, IntKind.bits, IntKind.signed]; omega
  have hMb : M ≤ 1000000000000001 := by omega
  have hB1 : B ≤ w1.heap.size := by have := F1.out.size; omega
  clear h o fr hvs1
  go_enter Tryd.func21, Tryd.ntmps21
  go_wp2
  have hcat := catM
  go_loopw [4, 5] (fun s t ws => ∃ i : Nat, i ≤ M ∧ s = .string (mine i) ∧ t = .int .i64 (i : Int) ∧ ws = w1) (fun _ t _ => M - (intOf t).toNat)
  case atStart => exact ⟨0, Nat.zero_le _, rfl, rfl, rfl⟩
  case round =>
    obtain ⟨i, hi, rfl, rfl, rfl⟩ := hrel
    rename World => w1
    by_cases hlt : i < M
    · have kc : (i : Int) < (M : Int) := by omega
      have kwi : IntKind.i64.wrap ((i : Int) + 1) = (i : Int) + 1 := by simp [IntKind.wrap, IntKind.bits, IntKind.signed]; omega
      have hcat1 := hcat i (by omega)
      clear hcat
      go_wp2
      go_roundw
      case rel => exact ⟨i + 1, by omega, rfl, by go_num, trivial⟩
      case measure => simp [intOf]; omega
    · have ei : i = M := by omega
      subst ei
      have kc : ¬ (i : Int) < (i : Int) := by omega
      obtain ⟨S, hS⟩ : ∃ S, mine i = S := ⟨_, rfl⟩
      have HS := Lib.hid hS
      rw [hS]
      clear hcat hS
      go_wp2
      go_loopw [6] (fun t ws => ∃ (j : Nat) (ys : List Value), j ≤ n ∧ t = .int .i64 (j : Int) ∧ RowKit.Hid (ys.take j = List.replicate j (.string S)) ∧ RowKit.Hid (ws.ownsRow B 9 1 (.slice a n c) n ys ∧ Bk ws B bk vs1 g sn (i : Int) false ∧ Fr B bk w1 ws)) (fun t _ => n - (intOf t).toNat)
      case atStart => exact ⟨0, xs, Nat.zero_le _, rfl, rfl, O1.out, H1.out, Fr.refl _ _ _⟩
      case round =>
        obtain ⟨j, ys, hj, rfl, hy, hQ⟩ := hrel
        rename World => wj
        have YT := Lib.hid hy.out
        have OJ := Lib.hid hQ.out.1
        have HJ := Lib.hid hQ.out.2.1
        have FJ := Lib.hid hQ.out.2.2
        clear hy hQ
        by_cases hjn : j < n
        · have kc : (j : Int) < (n : Int) := by omega
          have kwj : IntKind.i64.wrap ((j : Int) + 1) = (j : Int) + 1 := by simp [IntKind.wrap, IntKind.bits, IntKind.signed]; omega
          obtain ⟨z, rfl⟩ : ∃ z, a = some ⟨z, 0, none⟩ := by
            rcases OJ.out.2 with ⟨e, e0⟩ | ⟨z, _, _, e, _⟩
            · omega
            · injection e with e1 e2 e3; exact ⟨z, e1⟩
          obtain ⟨cur, hcur⟩ := own_blk OJ.out (b := z) rfl
          have zf := Joins.unfrozen_of_block hcur j
          have yl : ys.length = n := by have := OJ.out.1; omega
          have zc : wj.cell? ⟨z, j, none⟩ = some (ys.getD j default) := by
            rw [World.ownsRow.cellAt OJ.out j (by omega), List.getElem?_eq_getElem (by omega)]
            simp [List.getD, show j < ys.length by omega]
          have zB : B ≤ z := (OJ.out.lt z rfl).1
          have O2 := Lib.hid (own_write OJ.out hjn (.string S))
          have H2 := Lib.hid (HJ.out.other (grT_set wj z j (.string S)) (fun x e => by injection e with e; subst e; exact FR.out z rfl))
          have F2 := Lib.hid (FJ.out.trans (Fr.put (o := j) zB (.string S)))
          have Y2 := Lib.hid (p := (ys.set j (.string S)).take (j + 1) = List.replicate (j + 1) (.string S)) (by
            rw [List.take_set, List.take_add_one, YT.out, List.getElem?_eq_getElem (by omega), List.replicate_succ', List.set_append_right _ _ (by simp)]
            simp)
          clear hcur
          generalize ys.getD j default = old at zc
          go_wp2
          go_roundw
          case rel => exact ⟨j + 1, _, by omega, by go_num, Y2.out, O2.out, H2.out, F2.out⟩
          case measure => simp [intOf]; omega
        · have ej : n = j := by omega
          subst ej
          have kc : ¬ (n : Int) < (n : Int) := by omega
          have YA := Lib.hid (p := ys = List.replicate n (.string S)) (by have := YT.out; rwa [List.take_of_length_le (by have := OJ.out.1; omega)] at this)
          rw [YA.out] at OJ
          clear YT YA
          go_wp2
          obtain ⟨L1, L2, L3⟩ := hg
          go_loopw [7, 8] (fun v t ws => ∃ j : Nat, j ≤ 70 ∧ t = .int .i64 (j : Int) ∧ RowKit.Hid (ws.ownsRow B 9 1 v (n + j) (List.replicate n (.string S) ++ List.replicate j (.string othS)) ∧ (∀ z, v.ownBlock = some z → BkO.Free bk vs1 g.fs sn z) ∧ Bk ws B bk vs1 g sn (i : Int) false ∧ Fr B bk w1 ws ∧ Old ws 9 a v n (List.replicate n (.string S)))) (fun _ t _ => 70 - (intOf t).toNat)
          case atStart => exact ⟨0, Nat.zero_le _, rfl, by simpa using OJ.out, FR.out, HJ.out, FJ.out, fun z e => .inl (by rw [e]; rfl)⟩
          case round =>
            obtain ⟨j, hj, rfl, hQ⟩ := hrel
            rename World => wk
            have OK := Lib.hid hQ.out.1
            have RK := Lib.hid hQ.out.2.1
            have HK := Lib.hid hQ.out.2.2.1
            have FK := Lib.hid hQ.out.2.2.2.1
            have OL := Lib.hid hQ.out.2.2.2.2
            clear hQ
            have hBk : B ≤ wk.heap.size := by have := FK.out.size; omega
            by_cases hj7 : j < 70
            · have kc : (j : Int) < 70 := by omega
              have kwj : IntKind.i64.wrap ((j : Int) + 1) = (j : Int) + 1 := by simp [IntKind.wrap, IntKind.bits, IntKind.signed]; omega
              have BA := Lib.hid (below_al wk (.cells #[.string othS] 9))
              have OA := Lib.hid (own_back OK.out BA.out)
              have HA := Lib.hid (HK.out.below BA.out)
              have FA := Lib.hid (FK.out.trans (Fr.below BA.out hBk))
              go_wp2_with (at_builtin; refine wp_appK Tryd.underlying27 infoS rfl (by decide) _ B (Nat.le_trans hBk BA.out.size) ⟨wk.heap.size, 0, none⟩ 1 1 [.string othS] rfl (one_news wk (.string othS) 9) (by simp [Value.oneCell']) rfl _ _ rfl _ _ _ rfl OA.out rfl (by unfold maxLen; omega) (by omega) ?_; intro v2 w2 O2 G2 E2 K2; have O3 := Lib.hid O2; have L3 := Lib.hid (p := Old w2 9 a v2 n (List.replicate n (.string S))) ((OL.out.below BA.out).step OA.out (by simp) G2 K2); have R3 := Lib.hid (p := ∀ z, v2.ownBlock = some z → BkO.Free bk vs1 g.fs sn z) (fun z e => by rcases E2 with q | q; exact RK.out z (q ▸ e); rw [q] at e; injection e with e; exact HA.out.o.new (Nat.le_of_eq e)); have H3 := Lib.hid (HA.out.other G2 RK.out); have F3 := Lib.hid (FA.out.trans (Fr.grown G2 (Nat.le_trans hBk BA.out.size) (fun z e => (OA.out.lt z e).1))); clear O2 G2 E2 K2)
              go_roundw
              case rel => exact ⟨j + 1, by omega, by go_num, by have := O3.out; rw [List.append_assoc, ← List.replicate_succ'] at this; exact this, R3.out, H3.out, F3.out, L3.out⟩
              case measure => simp [intOf]; omega
            · have ej : j = 70 := by omega
              subst ej
              obtain ⟨va, vc, rfl⟩ := own_form2 OK.out
              have kc : ¬ (70 : Int) < 70 := by omega
              obtain ⟨gg, cur, rfl, hcur, hck⟩ : ∃ gg cur, va = some ⟨gg, 0, none⟩ ∧ wk.heap[gg]? = some (.cells cur 9) ∧ cur.toList.take (n + 70) = List.replicate n (.string S) ++ List.replicate 70 (.string othS) := by
                rcases OK.out.2 with ⟨e, e0⟩ | ⟨gg, cap, cur, e, _, q1, _, _, _, q5⟩
                · omega
                · injection e with e1 e2 e3
                  exact ⟨gg, cur, e1, q1, by simpa using q5⟩
              obtain ⟨add, hL, mG, oI, nD⟩ := HK.out.leave2 (a := a) (v := .slice (some ⟨gg, 0, none⟩) (n + 70) vc) rfl hcur (RK.out gg rfl) (take_first hck (by simp) (by omega)) OL.out (fun z e => FR.out z (by rw [e]; rfl))
              have HL := Lib.hid hL
              have CK := Lib.hid (p := NamIt add (.slice (some ⟨gg, 0, none⟩) (n + 70) vc) S n ∧ OldIt add 9 a n (List.replicate n (.string S)) ∧ ((sn.map (·.1)).Nodup → ((add ++ sn).map (·.1)).Nodup)) ⟨⟨gg, vc, cur, rfl, mG, hck⟩, oI, nD⟩
              clear hL mG oI nD
              obtain ⟨sn2, hsn2⟩ : ∃ x, add ++ sn = x := ⟨_, rfl⟩
              have HS2 := Lib.hid hsn2
              rw [hsn2] at HL CK
              clear hsn2
              have S5 := Lib.hid (HL.out.grow (g' := { g with nv := g.nv ++ [.slice (some ⟨gg, 0, none⟩) (n + 70) vc] }) 5 27 g.nv.length g.nv (.slice (some ⟨gg, 0, none⟩) (n + 70) vc) (g.fs.take 5) (g.fs.drop 6) rfl (by simp [Bg.fs]) hBk)
              obtain ⟨V5, hV5⟩ : ∃ V, vs1.getD 5 default = V := ⟨_, rfl⟩
              obtain ⟨V6, hV6⟩ : ∃ V, vs1.getD 6 default = V := ⟨_, rfl⟩
              obtain ⟨V7, hV7⟩ : ∃ V, vs1.getD 7 default = V := ⟨_, rfl⟩
              rw [hV5] at S5
              have HV := Lib.hid (p := vs1.getD 6 default = V6 ∧ vs1.getD 7 default = V7) ⟨hV6, hV7⟩
              obtain ⟨c5, o5, _⟩ := S5.out
              have N5 := Lib.hid True.intro
              have N6 := Lib.hid True.intro
              clear hcur hck hV5 hV6 hV7 HJ FJ OJ
              go_wp2_with (first
                | (at_builtin; have qq := N5; refine wp_appB Tryd.underlying26 infoSS rfl (by decide) _ B (Nat.le_trans hBk (by simp)) ⟨wk.heap.size, 0, none⟩ 1 1 [.slice (some ⟨gg, 0, none⟩) (n + 70) vc] rfl (one_news wk _ _) (by simp [Value.oneCell']) rfl _ _ rfl _ _ _ rfl o5 rfl (by unfold maxLen; omega) (by omega) ?_; intro v2 w2 O2 G2 E2; obtain ⟨xa, xc, hx⟩ := own_form2 O2; subst hx; obtain ⟨⟨p0, p1⟩, hP, hF⟩ := S5.out.2.2 _ w2 O2 G2 E2; obtain ⟨wA, hwA⟩ : ∃ u, w2.setCell ⟨bk, 5, none⟩ (.slice xa (g.nv.length + 1) xc) = u := ⟨_, rfl⟩; rw [hwA] at hP hF; have P5 := Lib.hid hP; have F5 := Lib.hid hF; have S6 := Lib.hid (P5.out.grow (g' := { g with nv := g.nv ++ [.slice (some ⟨gg, 0, none⟩) (n + 70) vc], sy := g.sy ++ [S] }) 6 9 g.sy.length (g.sy.map Value.string) (.string S) (({ g with nv := g.nv ++ [.slice (some ⟨gg, 0, none⟩) (n + 70) vc] } : Bg).fs.take 6) (({ g with nv := g.nv ++ [.slice (some ⟨gg, 0, none⟩) (n + 70) vc] } : Bg).fs.drop 7) rfl (by simp [Bg.fs]) (Nat.le_trans hBk F5.out.size)); rw [getD_ne (by decide), HV.out.1] at S6; obtain ⟨c6, o6, _⟩ := S6.out; clear O2 G2 E2 hP hF N5 qq)
                | (at_builtin; have qq := N6; refine wp_appB Tryd.underlying27 infoS rfl (by decide) _ B (Nat.le_trans (Nat.le_trans hBk F5.out.size) (by simp)) ⟨wA.heap.size, 0, none⟩ 1 1 [.string S] rfl (one_news wA _ _) (by simp [Value.oneCell']) rfl _ _ rfl _ _ _ rfl o6 rfl (by unfold maxLen; omega) (by omega) ?_; intro v2 w3 O2 G2 E2; obtain ⟨ya, yc, hx⟩ := own_form2 O2; subst hx; obtain ⟨⟨q0, q1⟩, hP, hF⟩ := S6.out.2.2 _ w3 O2 G2 E2; obtain ⟨wC, hwC⟩ : ∃ u, w3.setCell ⟨bk, 6, none⟩ (.slice ya (g.sy.length + 1) yc) = u := ⟨_, rfl⟩; rw [hwC] at hP hF; have P6 := Lib.hid hP; have F6 := Lib.hid hF; have S7 := Lib.hid (P6.out.grow (g' := { g with nv := g.nv ++ [.slice (some ⟨gg, 0, none⟩) (n + 70) vc], sy := g.sy ++ [S], lg := g.lg ++ [n] }) 7 3 g.lg.length (nats g.lg) (.int .i64 (n : Int)) (({ g with nv := g.nv ++ [.slice (some ⟨gg, 0, none⟩) (n + 70) vc], sy := g.sy ++ [S] } : Bg).fs.take 7) (({ g with nv := g.nv ++ [.slice (some ⟨gg, 0, none⟩) (n + 70) vc], sy := g.sy ++ [S] } : Bg).fs.drop 8) rfl (by simp [Bg.fs, nats]) (Nat.le_trans (Nat.le_trans hBk F5.out.size) F6.out.size)); rw [getD_ne (by decide), getD_ne (by decide), HV.out.2] at S7; obtain ⟨c7, o7, _⟩ := S7.out; clear O2 G2 E2 hP hF N6 qq)
                | (at_builtin; refine wp_appB Tryd.underlying24 info3 rfl (by decide) _ B (Nat.le_trans (Nat.le_trans (Nat.le_trans hBk F5.out.size) F6.out.size) (by simp)) ⟨wC.heap.size, 0, none⟩ 1 1 [.int .i64 (n : Int)] rfl (one_news wC _ _) (by simp [Value.oneCell']) rfl _ _ rfl _ _ _ rfl o7 rfl (by unfold maxLen; omega) (by omega) ?_; intro v2 w4 O2 G2 E2; obtain ⟨za, zc, hx⟩ := own_form2 O2; subst hx; obtain ⟨⟨t0, t1⟩, hP, hF⟩ := S7.out.2.2 _ w4 O2 G2 E2; have P7 := Lib.hid hP; have F7 := Lib.hid hF; clear O2 G2 E2 hP hF))
              have EM := Lib.hid (p := (mark + 1).toNat = i) (by rw [HMM.out]; simp)
              have FF := Lib.hid ((((F1.out.trans FK.out).trans F5.out).trans F6.out).trans F7.out)
              go_end0
              refine ⟨rfl, ?_⟩
              have q := P7.out
              have q2 := CK.out
              rw [← HS.out] at q q2
              unfold NmE
              rw [EM.out, HMM.out]
              have e := HS2.out
              subst e
              exact ⟨_, _, add, q, q2.1, q2.2.1, q2.2.2, FF.out⟩
end Go.Proofs.YtldplmchgmoopaaDoor

namespace Go.Proofs.YtldplmchgmoopaaDoor
open Go.RowKit
set_option linter.unusedVariables false
set_option linter.unusedSimpArgs false

theorem nd_iff (qs : List Rw) : (qs.Pairwise fun p q => p.a ≠ q.a) ↔ (qs.map (·.a)).Pairwise (· ≠ ·) := by rw [List.pairwise_map]
theorem map_same {β : Type} (f : Rw → β) (qs : List Rw) (i : Nat) (q : Rw) (h : ∀ hi : i < qs.length, f q = f qs[i]) : (qs.set i q).map f = qs.map f := by
  rw [List.map_set]
  apply List.ext_getElem?
  intro j
  rw [List.getElem?_set]
  split
  · rename_i e
    subst e
    split
    · rename_i hi
      have hi' : i < qs.length := by simpa using hi
      rw [List.getElem?_map, List.getElem?_eq_getElem hi', h hi']
      rfl
    · rename_i hi
      rw [List.getElem?_eq_none (by simpa using hi)]
  · rfl
/-- A cell of a row is written. -/
theorem RwO.write {W : World} {B i j z : Nat} {v : Value} {qs : List Rw} (h : RwO W B v qs) (hi : i < qs.length) (hz : (qs.getD i default).a = some ⟨z, 0, none⟩) (hj : j < (qs.getD i default).cs.length) (c : Cl) :
    RwO ((W.setCell ⟨z, j * 2, none⟩ (.bool c.h)).setCell ⟨z, j * 2 + 1, none⟩ (.int .i64 c.v)) B v (qs.set i ⟨(qs.getD i default).a, (qs.getD i default).n, (qs.getD i default).cap, (qs.getD i default).cs.set j c⟩) := by
  have e : qs.getD i default = qs[i] := by simp [List.getD, hi]
  have mem : qs.getD i default ∈ qs := by rw [e]; exact List.getElem_mem hi
  obtain ⟨z', e1, e2, e3, e4, hb⟩ := h.ok _ mem
  rw [hz] at e1
  injection e1 with e1
  injection e1 with e1
  subst e1
  have hb2 := Joins.block_setCell (i := j * 2 + 1) (Joins.block_setCell (i := j * 2) hb (.bool c.h)) (.int .i64 c.v)
  rw [List.setIfInBounds_toArray, List.setIfInBounds_toArray, clv_set _ j _ hj] at hb2
  have st : ∀ y, y ≠ z → ((W.setCell ⟨z, j * 2, none⟩ (.bool c.h)).setCell ⟨z, j * 2 + 1, none⟩ (.int .i64 c.v)).heap[y]? = W.heap[y]? := fun y hy => by
    have q' : ¬ z = y := fun e => hy e.symm
    simp [World.setCell, Array.getElem?_modify, q']
  refine ⟨?_, fun q hq => ?_, ?_⟩
  · rw [List.length_set, map_same qv qs i _ (fun _ => by rw [e]; rfl)]
    exact own_keep h.own (fun b q => st b (fun z' => by subst z'; exact ty_apart h.own hb (by decide) q))
  · obtain ⟨k, hk, rfl⟩ := List.getElem_of_mem hq
    have hk' : k < qs.length := by simpa using hk
    by_cases q : k = i
    · subst q
      rw [List.getElem_set_self]
      exact ⟨z, hz, e2, by simpa using e3, by simpa using e4, hb2⟩
    · rw [List.getElem_set_ne (fun x => q x.symm)]
      obtain ⟨y, y1, y2, y3, y4, y5⟩ := h.ok _ (List.getElem_mem hk')
      refine ⟨y, y1, y2, y3, y4, (st y ?_).trans y5⟩
      intro x
      subst x
      have nd := h.nd
      rw [List.pairwise_iff_getElem] at nd
      rw [e] at hz
      rcases Nat.lt_or_gt_of_ne q with r | r
      · exact nd k i hk' hi r (y1.trans hz.symm)
      · exact nd i k hi hk' r (hz.trans y1.symm)
  · rw [nd_iff, map_same (·.a) qs i _ (fun _ => by rw [e])]
    exact (nd_iff qs).1 h.nd
theorem RwO.cell {W : World} {B n c i : Nat} {g : Nat} {qs : List Rw} (h : RwO W B (.slice (some ⟨g, 0, none⟩) n c) qs) (hi : i < qs.length) : W.cell? ⟨g, i, none⟩ = some (.slice (qs.getD i default).a (qs.getD i default).n (qs.getD i default).cap) := by
  have ho := h.own
  have e1 := own_len ho
  subst e1
  rw [World.ownsRow.cellAt ho i (by omega), List.getElem?_map, List.getElem?_eq_getElem hi]
  simp [List.getD, hi, qv]
/-- The blocks of a list of rows are none of the book's. -/
def FrR (bk : Nat) (vs : List Value) (fs : List BkF) (sn : List (Nat × Obj)) (v : Value) (qs : List Rw) : Prop :=
  (∀ z, v.ownBlock = some z → BkO.Free bk vs fs sn z) ∧ ∀ q ∈ qs, ∀ z, q.a = some ⟨z, 0, none⟩ → BkO.Free bk vs fs sn z
theorem free_mark {bk z : Nat} {vs : List Value} {g : Bg} {sn : List (Nat × Obj)} {v : Value} (h : BkO.Free bk vs g.fs sn z) : BkO.Free bk (vs.set 11 v) g.fs sn z :=
  ⟨h.1, fun f hf => by rw [getD_ne (g.keys f hf).1.symm]; exact h.2.1 f hf, h.2.2⟩
theorem frR_mark {bk : Nat} {vs : List Value} {g : Bg} {sn : List (Nat × Obj)} {v u : Value} {qs : List Rw} (h : FrR bk vs g.fs sn v qs) : FrR bk (vs.set 11 u) g.fs sn v qs :=
  ⟨fun z e => free_mark (h.1 z e), fun q hq z e => free_mark (h.2 q hq z e)⟩
theorem frR_set {bk : Nat} {vs : List Value} {fs : List BkF} {sn : List (Nat × Obj)} {v : Value} {qs : List Rw} {i : Nat} {q : Rw} (h : FrR bk vs fs sn v qs) (hq : ∀ hi : i < qs.length, q.a = qs[i].a) : FrR bk vs fs sn v (qs.set i q) := by
  refine ⟨h.1, fun p hp z e => ?_⟩
  obtain ⟨k, hk, rfl⟩ := List.getElem_of_mem hp
  have hk' : k < qs.length := by simpa using hk
  by_cases x : k = i
  · subst x
    rw [List.getElem_set_self, hq hk'] at e
    exact h.2 _ (List.getElem_mem hk') z e
  · rw [List.getElem_set_ne (fun y => x y.symm)] at e
    exact h.2 _ (List.getElem_mem hk') z e
/-- The global 'other'. -/
def Ot (w : World) : Prop := w.cell? ⟨0, 0, none⟩ = some (.bool true) ∧ w.cell? ⟨0, 1, none⟩ = some (.int .i64 99)
theorem Ot.fr {B bk : Nat} {w w' : World} (h : Ot w) (f : Fr B bk w w') (hB : 0 < B) (hb : 0 ≠ bk) : Ot w' := by
  have e := f.blk _ hB hb
  obtain ⟨h1, h2⟩ := h
  unfold World.cell? at h1 h2
  constructor
  · unfold World.cell?; rw [e]; exact h1
  · unfold World.cell?; rw [e]; exact h2
end Go.Proofs.YtldplmchgmoopaaDoor

namespace Go.Proofs.YtldplmchgmoopaaDoor
open Go.RowKit
set_option linter.unusedVariables false
set_option linter.unusedSimpArgs false

/-- Rows from a place on. -/
structure RwP (W : World) (B : Nat) (v : Value) (qs : List Rw) (i : Nat) : Prop where
  own : W.ownsRow B 50 1 v qs.length (qs.map qv)
  ok : ∀ k, i ≤ k → k < qs.length → qOk W B (qs.getD k default)
  nd : qs.Pairwise fun p q => p.a ≠ q.a
theorem RwO.part {W : World} {B : Nat} {v : Value} {qs : List Rw} (h : RwO W B v qs) : RwP W B v qs 0 :=
  ⟨h.own, fun k _ hk => h.ok _ (by rw [show qs.getD k default = qs[k] by simp [List.getD, hk]]; exact List.getElem_mem hk), h.nd⟩
theorem RwP.next {W : World} {B i : Nat} {v : Value} {qs : List Rw} (h : RwP W B v qs i) : RwP W B v qs (i + 1) := ⟨h.own, fun k h1 h2 => h.ok k (by omega) h2, h.nd⟩
/-- Where none of its blocks turns it stays. -/
theorem RwP.keep {W W' : World} {B i : Nat} {v : Value} {qs : List Rw} (h : RwP W B v qs i) (h1 : ∀ z, v.ownBlock = some z → W'.heap[z]? = W.heap[z]?) (h2 : ∀ k, i ≤ k → k < qs.length → ∀ z, (qs.getD k default).a = some ⟨z, 0, none⟩ → W'.heap[z]? = W.heap[z]?) : RwP W' B v qs i :=
  ⟨own_keep h.own h1, fun k q1 q2 => by
    obtain ⟨z, e1, e2, e3, e4, e5⟩ := h.ok k q1 q2
    exact ⟨z, e1, e2, e3, e4, (h2 k q1 q2 z e1).trans e5⟩, h.nd⟩
theorem RwP.below {W W' : World} {B i : Nat} {v : Value} {qs : List Rw} (h : RwP W B v qs i) (b : Below W.heap.size W W') : RwP W' B v qs i :=
  h.keep (fun z e => by obtain ⟨cur, q⟩ := own_blk h.own e; exact b.block z (blk_lt q)) (fun k h1 h2 z e => by
    obtain ⟨y, e1, _, _, _, e5⟩ := h.ok k h1 h2
    rw [e] at e1; injection e1 with e1; injection e1 with e1; subst e1
    exact b.block z (blk_lt e5))
theorem RwP.cell {W : World} {B n c i k : Nat} {g : Nat} {qs : List Rw} (h : RwP W B (.slice (some ⟨g, 0, none⟩) n c) qs i) (hk : k < qs.length) : W.cell? ⟨g, k, none⟩ = some (.slice (qs.getD k default).a (qs.getD k default).n (qs.getD k default).cap) := by
  have ho := h.own
  have e1 := own_len ho
  subst e1
  rw [World.ownsRow.cellAt ho k (by omega), List.getElem?_map, List.getElem?_eq_getElem hk]
  simp [List.getD, hk, qv]
theorem q_own {W : World} {B : Nat} {q : Rw} (h : qOk W B q) (hl : q.cs.length ≤ 2000000) : W.ownsRow B 65 2 (qv q) q.cs.length (clv q.cs) := by
  obtain ⟨z, e1, e2, e3, e4, e5⟩ := h
  refine ⟨by rw [clv_len], .inr ⟨z, q.cap, (clv q.cs).toArray, by unfold qv; rw [e1, e3], e2, e5, by omega, by unfold maxLen; omega, by rw [List.size_toArray, clv_len, e4], by rw [List.take_of_length_le (by simp [clv_len])]⟩⟩
/-- Rows and what is theirs are none of the book's, from a place on. -/
def FrP (bk : Nat) (vs : List Value) (fs : List BkF) (sn : List (Nat × Obj)) (v : Value) (qs : List Rw) (i : Nat) : Prop :=
  (∀ z, v.ownBlock = some z → BkO.Free bk vs fs sn z) ∧ ∀ k, i ≤ k → k < qs.length → ∀ z, (qs.getD k default).a = some ⟨z, 0, none⟩ → BkO.Free bk vs fs sn z
theorem FrR.part {bk : Nat} {vs : List Value} {fs : List BkF} {sn : List (Nat × Obj)} {v : Value} {qs : List Rw} (h : FrR bk vs fs sn v qs) : FrP bk vs fs sn v qs 0 :=
  ⟨h.1, fun k _ hk z e => h.2 _ (by rw [show qs.getD k default = qs[k] by simp [List.getD, hk]]; exact List.getElem_mem hk) z e⟩
theorem FrP.imp {bk : Nat} {vs vs' : List Value} {fs fs' : List BkF} {sn sn' : List (Nat × Obj)} {v : Value} {qs : List Rw} {i j : Nat} (h : FrP bk vs fs sn v qs i) (hij : i ≤ j) (k : ∀ z, (v.ownBlock = some z ∨ ∃ k, j ≤ k ∧ k < qs.length ∧ (qs.getD k default).a = some ⟨z, 0, none⟩) → BkO.Free bk vs fs sn z → BkO.Free bk vs' fs' sn' z) : FrP bk vs' fs' sn' v qs j :=
  ⟨fun z e => k z (.inl e) (h.1 z e), fun x h1 h2 z e => k z (.inr ⟨x, h1, h2, e⟩) (h.2 x (by omega) h2 z e)⟩
/-- The blocks of rows lie in the world. -/
theorem RwP.lt {W : World} {B i : Nat} {v : Value} {qs : List Rw} (h : RwP W B v qs i) (z : Nat) (hz : v.ownBlock = some z ∨ ∃ k, i ≤ k ∧ k < qs.length ∧ (qs.getD k default).a = some ⟨z, 0, none⟩) : z < W.heap.size ∧ B ≤ z := by
  rcases hz with e | ⟨k, h1, h2, e⟩
  · obtain ⟨cur, q⟩ := own_blk h.own e
    exact ⟨blk_lt q, (h.own.lt z e).1⟩
  · obtain ⟨y, e1, e2, _, _, e5⟩ := h.ok k h1 h2
    rw [e] at e1; injection e1 with e1; injection e1 with e1; subst e1
    exact ⟨blk_lt e5, e2⟩
/-- One list grows: the blocks that are free stay so, and as they are. -/
theorem Bk.grow2 {W : World} {B bk : Nat} {vs : List Value} {g g' : Bg} {sn : List (Nat × Obj)} {mark : Int} {late : Bool} (h : Bk W B bk vs g sn mark late) (k : Nat) (T : TypeId) (n : Nat) (xs : List Value) (x : Value) (fa fb : List BkF) (e : g.fs = fa ++ ⟨k, T, 1, n, xs⟩ :: fb) (e' : g'.fs = fa ++ ⟨k, T, 1, n + 1, xs ++ [x]⟩ :: fb)
    {v' : Value} {w' : World} (g2 : (W.alloc (.cells #[x] T)).grownBy w' (vs.getD k default).ownBlock) (eb : v'.ownBlock = (vs.getD k default).ownBlock ∨ v'.ownBlock = some (W.alloc (.cells #[x] T)).heap.size) (z : Nat) (hz : z < W.heap.size) (hf : BkO.Free bk vs g.fs sn z) :
    (w'.setCell ⟨bk, k, none⟩ v').heap[z]? = W.heap[z]? ∧ BkO.Free bk (vs.set k v') g'.fs sn z := by
  have mem : (⟨k, T, 1, n, xs⟩ : BkF) ∈ g.fs := by rw [e]; exact List.mem_append.2 (.inr (List.mem_cons_self ..))
  have nf := hf.2.1 _ mem
  simp only at nf
  have h0 := h.o
  have k19 := (h0.own _ mem).2.1
  refine ⟨?_, ?_⟩
  · rw [show (w'.setCell ⟨bk, k, none⟩ v').heap[z]? = w'.heap[z]? by
      have q : ¬ bk = z := fun e => hf.1 e.symm
      simp [World.setCell, Array.getElem?_modify, q]]
    rw [g2.block z (by simp; omega) (fun q => nf q.symm)]
    exact Below.heap_alloc _ _ _ hz
  · refine free_app (f := ⟨k, T, 1, n, xs⟩) (f' := ⟨k, T, 1, n + 1, xs ++ [x]⟩) e e' rfl h0.hl k19 (fun y hy => ?_) hf (fun q => ?_)
    · have ap := h0.ap
      rw [e] at ap
      have ap1 := List.pairwise_append.1 ap
      rcases List.mem_append.1 hy with r | r
      · exact (ap1.2.2 y r _ (List.mem_cons_self ..)).1
      · exact ((List.pairwise_cons.1 ap1.2.1).1 y r).1.symm
    · rcases eb with r | r
      · exact nf (r.symm.trans q)
      · rw [q] at r; injection r with r; simp at r; omega
theorem Bk.grow3 {W : World} {B bk : Nat} {vs : List Value} {g g' : Bg} {sn : List (Nat × Obj)} {mark : Int} {late : Bool} (h : Bk W B bk vs g sn mark late) (k : Nat) (T : TypeId) (n : Nat) (xs : List Value) (x : Value) (fa fb : List BkF) (e : g.fs = fa ++ ⟨k, T, 1, n, xs⟩ :: fb) (e' : g'.fs = fa ++ ⟨k, T, 1, n + 1, xs ++ [x]⟩ :: fb)
    {v' : Value} {w' : World} (g2 : (W.alloc (.cells #[x] T)).grownBy w' (vs.getD k default).ownBlock) (eb : v'.ownBlock = (vs.getD k default).ownBlock ∨ v'.ownBlock = some (W.alloc (.cells #[x] T)).heap.size) {v : Value} {qs : List Rw} {i : Nat} (p : RwP W B v qs i) (f : FrP bk vs g.fs sn v qs i) :
    RwP (w'.setCell ⟨bk, k, none⟩ v') B v qs i ∧ FrP bk (vs.set k v') g'.fs sn v qs i :=
  ⟨p.keep (fun z q => (h.grow2 k T n xs x fa fb e e' g2 eb z (p.lt z (.inl q)).1 (f.1 z q)).1) (fun j h1 h2 z q => (h.grow2 k T n xs x fa fb e e' g2 eb z (p.lt z (.inr ⟨j, h1, h2, q⟩)).1 (f.2 j h1 h2 z q)).1),
   f.imp (Nat.le_refl _) (fun z hz hf => (h.grow2 k T n xs x fa fb e e' g2 eb z (p.lt z hz).1 hf).2)⟩
/-- A block is left: what waits is another's. -/
theorem FrP.leave {bk gg : Nat} {o : Obj} {vs : List Value} {fs : List BkF} {sn : List (Nat × Obj)} {v : Value} {qs : List Rw} {i j : Nat} (h : FrP bk vs fs sn v qs i) (hij : i ≤ j) (k : ∀ z, (v.ownBlock = some z ∨ ∃ k, j ≤ k ∧ k < qs.length ∧ (qs.getD k default).a = some ⟨z, 0, none⟩) → gg ≠ z) : FrP bk vs fs ((gg, o) :: sn) v qs j :=
  h.imp hij (fun z hz hf => ⟨hf.1, hf.2.1, fun p hp => by
    rcases List.mem_cons.1 hp with q | q
    · subst q; exact k z hz
    · exact hf.2.2 p q⟩)
/-- One int is appended to a list of one's own. -/
theorem app_int {w : World} {B m : Nat} {v : Value} {xs : List Value} (u : Int) (h : w.ownsRow B 3 1 v m xs) (hm : m ≤ 2000000000000) (hB : B ≤ w.heap.size) :
    ∃ v5 w5, (∀ ty, (Builtin.append_ #[24, 24] ty #[v, .slice (some ⟨w.heap.size, 0, none⟩) 1 1]).run Tryd.prog (w.alloc (.cells #[.int .i64 u] 3)) = .ok v5 w5) ∧ w5.ownsRow B 3 1 v5 (m + 1) (xs ++ [.int .i64 u]) ∧ (w.alloc (.cells #[.int .i64 u] 3)).grownBy w5 v.ownBlock ∧ (v5.ownBlock = v.ownBlock ∨ v5.ownBlock = some (w.alloc (.cells #[.int .i64 u] 3)).heap.size) := by
  obtain ⟨i0, hi0, hz0, hz1, hz2⟩ := info_parts info3
  obtain ⟨v5, w5, hr, O5, G5, _, E5⟩ := run_append_own_at (P := Tryd.prog) (w.alloc (.cells #[.int .i64 u] 3)) B 24 24 3 i0 _ 1 8 Tryd.underlying24 hi0 hz0 hz1 hz2 rfl (by decide) v m xs (h.alloc _) ⟨w.heap.size, 0, none⟩ 1 1 [.int .i64 u] rfl (one_news w _ _ _ rfl) (by simp [Value.oneCell']) (by unfold maxLen; omega) (by omega) (Nat.le_trans hB (by simp))
  exact ⟨v5, w5, fun ty => hr, O5, G5, E5⟩
end Go.Proofs.YtldplmchgmoopaaDoor
