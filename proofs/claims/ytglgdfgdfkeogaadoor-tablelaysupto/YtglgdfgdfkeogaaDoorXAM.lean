import Derived.Test.YtglgdfgdfkeogaaDoorXAL
namespace Go.Proofs.YtglgdfgdfkeogaaDoor
open Go.RowKit
set_option linter.unusedVariables false
set_option linter.unusedSimpArgs false

/-- What Overlay answers. -/
def ovE (ss : List ByteArray) (ra : List (List Cl)) (tt : List ByteArray) (rb : List (List Cl)) : Int :=
  if validE ss ra = 0 then (if validE tt rb = 0 then (if 64 < (ovN ss tt).length then 6 else 0) else validE tt rb) else validE ss ra
def OvP (E : Int) (B : Nat) (W : World) (u : Tb) (R : PR) : Prop := (E = 0 → PsT B W u R) ∧ (E ≠ 0 → u = nilT)
def OvE (ss : List ByteArray) (ra : List (List Cl)) (tt : List ByteArray) (rb : List (List Cl)) (w : World) (e : Ending) (w' : World) : Prop :=
  ∃ u : Tb, e = .returned (.tuple #[u.val, .int .i64 (ovE ss ra tt rb)]) ∧ OvP (ovE ss ra tt rb) w.heap.size w' u ⟨0, 0, ovN ss tt, ovR ss ra tt rb⟩ ∧ Below w.heap.size w w'
/-- Names that grow, and columns that are written. -/
structure NmS (w1 ws : World) (v : Value) (gc : Nat) (vs : List Int) (ns : List ByteArray) : Prop where
  own : ws.ownsRow w1.heap.size 9 1 v ns.length (ns.map Value.string)
  col : ws.heap[gc]? = some (.cells (vs.map (Value.int .i64)).toArray 3)
  bel : Below w1.heap.size w1 ws
  gl : w1.heap.size ≤ gc
theorem NmS.set {w1 ws : World} {v : Value} {gc : Nat} {vs : List Int} {ns : List ByteArray} (h : NmS w1 ws v gc vs ns) (i : Nat) (m : Int) : NmS w1 (ws.setCell ⟨gc, i, none⟩ (.int .i64 m)) v gc (vs.set i m) ns :=
  ⟨h.own.kept (grT_set ws gc i _) (.inr (ty_apart h.own h.col (by decide))), by rw [Joins.block_setCell (i := i) h.col, List.setIfInBounds_toArray, List.map_set], h.bel.setCell (p := ⟨gc, i, none⟩) h.gl _, h.gl⟩
theorem NmS.below {w1 ws W : World} {v : Value} {gc : Nat} {vs : List Int} {ns : List ByteArray} (h : NmS w1 ws v gc vs ns) (b : Below ws.heap.size ws W) : NmS w1 W v gc vs ns :=
  ⟨own_back h.own b, (b.block gc (blk_lt h.col)).trans h.col, h.bel.trans (b.mono h.bel.size), h.gl⟩
theorem NmS.push {w1 ws W : World} {v v' : Value} {gc : Nat} {vs : List Int} {ns : List ByteArray} {s : ByteArray} (h : NmS w1 ws v gc vs ns) (o : W.ownsRow w1.heap.size 9 1 v' (ns.length + 1) (ns.map Value.string ++ [.string s])) (g : ws.grownBy W v.ownBlock) : NmS w1 W v' gc vs (ns ++ [s]) := by
  refine ⟨by simpa using o, (g.block gc (blk_lt h.col) (fun e => ty_apart h.own h.col (by decide) e.symm)).trans h.col, h.bel.grown g h.bel.size (fun k e => (h.own.lt k e).1), h.gl⟩
set_option maxHeartbeats 2000000 in
theorem rowOn_out (an ar : Option Addr) (ln cn lr cr d : Nat) (w : World) (hlt : lr ≤ d) :
    Calls Tryd.prog 46 #[.agg #[.slice an ln cn, .slice ar lr cr], .int .i64 (d : Int)] w fun e w' => e = .returned (.slice none 0 0) ∧ Below w.heap.size w w' := by
  have B0 := Lib.hid (below_al w (.cells #[.slice an ln cn, .slice ar lr cr] 25))
  obtain ⟨c0, c1, _, _⟩ := box_all2 (World.alloc_heap_new w (.cells #[.slice an ln cn, .slice ar lr cr] 25))
  have dc : (lr : Int) ≤ (d : Int) := by omega
  have dc2 : ¬ (d : Int) < (lr : Int) := by omega
  go_enter Tryd.func46, Tryd.ntmps46
  go_wp2
  go_ret
  exact ⟨rfl, B0.out⟩
/-- The row of any day, wherever it is asked for. -/
theorem rowOn_both {w : World} {an ar : Option Addr} {ln cn lr cr : Nat} {trs : List Rw} {rs : List (List Cl)} (k : RL w ar lr trs) (hrs : trs.map (·.cs) = rs) (d : Nat) :
    ∃ ra n rc, RC w ra n (rs.getD d []) ∧ ∀ W, Below w.heap.size w W → Calls Tryd.prog 46 #[.agg #[.slice an ln cn, .slice ar lr cr], .int .i64 (d : Int)] W fun e w' => e = .returned (.slice ra n rc) ∧ Below W.heap.size W w' := by
  by_cases hd : d < lr
  · have hd' : d < trs.length := by rw [k.1]; exact hd
    have em : trs.getD d default = trs[d] := by simp [List.getD, hd']
    have mem : trs.getD d default ∈ trs := by rw [em]; exact List.getElem_mem hd'
    have e2 : (trs.getD d default).cs = rs.getD d [] := by rw [em, ← hrs]; simp [List.getD, hd']
    refine ⟨_, _, _, by rw [← e2]; exact (k.2.2.1 _ mem).1, fun W b => rowOn_at an ar ln cn lr cr d trs W (k.later b) hd⟩
  · refine ⟨none, 0, 0, ?_, fun W b => rowOn_out an ar ln cn lr cr d W (by omega)⟩
    rw [row_at (by rw [← hrs, List.length_map, k.1]; omega)]
    exact ⟨rfl, by omega, (fun c hc => by cases hc), .inl rfl⟩
theorem ovR_get {ss tt : List ByteArray} {ra rb : List (List Cl)} {d : Nat} (h : d < max ra.length rb.length) : (ovR ss ra tt rb)[d]? = some (ovRow ss tt (ra.getD d []) (rb.getD d [])) := by
  unfold ovR; simp [h]
theorem wid_of {R : List Cl} {n N : Nat} (h : R.length = n) : R.take N ++ List.replicate (N - n) zCl = widR R N := by subst h; rfl
theorem lay_set {W : World} {B rb m z n c x i gc : Nat} {qs : List Rw} {r : List Cl} {cv k : Int} {wn : World} (h : MkL W B rb m qs z n r) (hc : c < r.length) (d : Nat) (hd : qs.length = d) (h1 : W.cell? ⟨x, 0, none⟩ = some (.bool true)) (h2 : W.cell? ⟨x, 1, none⟩ = some (.int .i64 cv)) (hx : z ≠ x) (h3 : wn.cell? ⟨gc, i, none⟩ = some (.int .i64 k)) (hg : gc < wn.heap.size) (hz : wn.heap.size ≤ z) (hB : Below wn.heap.size wn W) :
    (((W.setCell ⟨z, c * 2, none⟩ (.bool true)).setCell ⟨z, c * 2 + 1, none⟩ (.int .i64 cv)).cell? ⟨rb, d, none⟩ = some (.slice (some ⟨z, 0, none⟩) n n) ∧ ((W.setCell ⟨z, c * 2, none⟩ (.bool true)).setCell ⟨z, c * 2 + 1, none⟩ (.int .i64 cv)).cell? ⟨gc, i, none⟩ = some (.int .i64 k) ∧ ((W.setCell ⟨z, c * 2, none⟩ (.bool true)).setCell ⟨z, c * 2 + 1, none⟩ (.int .i64 cv)).cell? ⟨x, 0, none⟩ = some (.bool true) ∧ ((W.setCell ⟨z, c * 2, none⟩ (.bool true)).setCell ⟨z, c * 2 + 1, none⟩ (.int .i64 cv)).cell? ⟨x, 1, none⟩ = some (.int .i64 cv)) ∧
    Below wn.heap.size wn ((W.setCell ⟨z, c * 2, none⟩ (.bool true)).setCell ⟨z, c * 2 + 1, none⟩ (.int .i64 cv)) := by
  have bb := (hB.setCell (p := ⟨z, c * 2, none⟩) hz (.bool true)).setCell (p := ⟨z, c * 2 + 1, none⟩) hz (.int .i64 cv)
  refine ⟨⟨(h.set c hc ⟨true, cv⟩).last d hd, (bb.cell (p := ⟨gc, i, none⟩) hg).trans h3, ?_, ?_⟩, bb⟩
  · rw [World.cell?_setCell_other _ _ _ _ (by simp [hx]), World.cell?_setCell_other _ _ _ _ (by simp [hx])]; exact h1
  · rw [World.cell?_setCell_other _ _ _ _ (by simp [hx]), World.cell?_setCell_other _ _ _ _ (by simp [hx])]; exact h2
set_option maxRecDepth 100000 in
set_option maxHeartbeats 8000000 in
theorem overlay_any (t u : Tb) (ss tt : List ByteArray) (ra rb : List (List Cl)) (w : World) (h : TbIs w t ss ra) (k : TbIs w u tt rb) :
    Calls Tryd.prog 26 #[t.val, u.val] w fun e w' => OvE ss ra tt rb w e w' := by
  unfold OvE
  obtain ⟨E, hE⟩ : ∃ E, ovE ss ra tt rb = E := ⟨_, rfl⟩
  rw [hE]
  obtain ⟨Va, hVa⟩ : ∃ V, validE ss ra = V := ⟨_, rfl⟩
  obtain ⟨Vb, hVb⟩ : ∃ V, validE tt rb = V := ⟨_, rfl⟩
  have KVa := Lib.hid (fun (W : World) (b : Below w.heap.size w W) => validI_any t ss ra W (h.later b))
  have KVb := Lib.hid (fun (W : World) (b : Below w.heap.size w W) => validI_any u tt rb W (k.later b))
  rw [hVa] at KVa
  rw [hVb] at KVb
  have HE := Lib.hid (p := E = if Va = 0 then (if Vb = 0 then (if 64 < (ovN ss tt).length then 6 else 0) else Vb) else Va) (by rw [← hE, ← hVa, ← hVb]; rfl)
  have GA := Lib.hid (p := Va = 0 → Gd ss ra) (fun e => gd_valid (hVa.trans e) (fun r hr c hc => by
    rw [← h.rs] at hr
    obtain ⟨q, hq, rfl⟩ := List.mem_map.1 hr
    exact (h.rl.2.2.1 q hq).1.2.2.1 c hc))
  have GB := Lib.hid (p := Vb = 0 → Gd tt rb) (fun e => gd_valid (hVb.trans e) (fun r hr c hc => by
    rw [← k.rs] at hr
    obtain ⟨q, hq, rfl⟩ := List.mem_map.1 hr
    exact (k.rl.2.2.1 q hq).1.2.2.1 c hc))
  have hlr := (tb_lens h).2
  have hln := (tb_lens h).1
  have hlr2 := (tb_lens k).2
  have hln2 := (tb_lens k).1
  obtain ⟨an, ln, cn, tss, ar, lr, cr, trs⟩ := t
  obtain ⟨bn, ln2, dn, uss, br, lr2, dr, urs⟩ := u
  have e3 : uss = tt := k.ns
  have e4 : tss = ss := h.ns
  subst e3 e4
  have TH := Lib.hid h
  have TK := Lib.hid k
  have LR := Lib.hid (p := lr = ra.length ∧ lr2 = rb.length) ⟨hlr, hlr2⟩
  have LN := Lib.hid (p := ln = tss.length ∧ ln2 = uss.length) ⟨hln, hln2⟩
  have KN := Lib.hid (fun (W : World) (b : Below w.heap.size w W) => cloneN_any an ln cn tss W (h.nl.later b) h.nn)
  have KCo := Lib.hid (fun (W : World) (b : Below w.heap.size w W) => columnsOf_own bn an ln2 dn ln cn uss tss W (k.nl.later b) (h.nl.later b))
  have KRa := Lib.hid (fun (d : Nat) => rowOn_both (an := an) (ln := ln) (cn := cn) (cr := cr) h.rl h.rs d)
  have KRb := Lib.hid (fun (d : Nat) => rowOn_both (an := bn) (ln := ln2) (cn := dn) (cr := dr) k.rl k.rs d)
  have NC := Lib.hid (p := ∀ i, i < ln2 → ∃ x o, bn = some ⟨x, o, none⟩ ∧ x < w.heap.size ∧ w.cell? ⟨x, o + i, none⟩ = some (.string (uss.getD i default))) (fun i hi => by
    rcases k.nl.2.2.2 with z | ⟨x, o, z1, z2, z3⟩
    · simp only at z; omega
    · exact ⟨x, o, z1, z2, z3 i hi⟩)
  have hn63 : ln2 ≤ 8796093021952 ∧ lr ≤ 5864062014635 ∧ lr2 ≤ 5864062014635 := ⟨k.nl.2.1, h.rl.2.1, k.rl.2.1⟩
  obtain ⟨w1, hw1⟩ : ∃ w1, ((w.alloc (.cells #[.slice an ln cn, .slice ar lr cr] 25)).alloc (.cells #[.slice bn ln2 dn, .slice br lr2 dr] 25)).alloc (.cells #[.slice none 0 0, .slice none 0 0] 25) = w1 := ⟨_, rfl⟩
  have B0 := Lib.hid (p := Below w.heap.size w w1) (by rw [← hw1]; exact (((Below.refl _ w).alloc (Nat.le_refl _) _).alloc (by simp) _).alloc (by simp; omega) _)
  have CE := Lib.hid (p := ∀ W, Below w1.heap.size w1 W → W.heap[w.heap.size]? = some (.cells #[.slice an ln cn, .slice ar lr cr] 25) ∧ W.heap[w.heap.size + 1]? = some (.cells #[.slice bn ln2 dn, .slice br lr2 dr] 25) ∧ W.heap[w.heap.size + 1 + 1]? = some (.cells #[.slice none 0 0, .slice none 0 0] 25)) (fun W b => by rw [← hw1] at b; exact three_cells b)
  have S1 := Lib.hid (p := w1.heap.size = w.heap.size + 3) (by rw [← hw1]; simp)
  obtain ⟨wb, hwb⟩ : ∃ wb, w1.alloc (.cells #[.slice an ln cn, .slice ar lr cr, .slice bn ln2 dn, .slice br lr2 dr] 25) = wb := ⟨_, rfl⟩
  have BB := Lib.hid (p := Below w1.heap.size w1 wb) (by rw [← hwb]; exact (Below.refl _ _).alloc (Nat.le_refl _) _)
  have CL := Lib.hid (p := ∀ W, Below wb.heap.size wb W → W.cell? ⟨w1.heap.size, 0, none⟩ = some (.slice an ln cn) ∧ W.cell? ⟨w1.heap.size, 1, none⟩ = some (.slice ar lr cr) ∧ W.cell? ⟨w1.heap.size, 2, none⟩ = some (.slice bn ln2 dn) ∧ W.cell? ⟨w1.heap.size, 3, none⟩ = some (.slice br lr2 dr)) (fun W b => by
    have hb : W.heap[w1.heap.size]? = some (.cells #[.slice an ln cn, .slice ar lr cr, .slice bn ln2 dn, .slice br lr2 dr] 25) := (b.block _ (by rw [← hwb]; simp)).trans (by rw [← hwb]; exact World.alloc_heap_new w1 _)
    refine ⟨?_, ?_, ?_, ?_⟩ <;> rw [Joins.cell_of_block hb] <;> rfl)
  have FAIL := Lib.hid (p := ∀ (W : World), E ≠ 0 → Below w.heap.size w W → ∃ u : Tb, Ending.returned (.tuple #[.agg #[.slice none 0 0, .slice none 0 0], .int .i64 E]) = .returned (.tuple #[u.val, .int .i64 E]) ∧ OvP E w.heap.size W u ⟨0, 0, ovN tss uss, ovR tss ra uss rb⟩ ∧ Below w.heap.size w W) (fun W q b => ⟨nilT, rfl, ⟨fun e => absurd e q, fun _ => rfl⟩, b⟩)
  obtain ⟨x0, x1, x2⟩ := CE.out _ (Below.refl _ _)
  obtain ⟨a0, a1, _, _⟩ := box_all2 x0
  obtain ⟨c0, c1, _, _⟩ := box_all2 x1
  clear h k hlr hln hlr2 hln2 x0 x1 x2 hE hVa hVb
  show Calls Tryd.prog 26 #[.agg #[.slice an ln cn, .slice ar lr cr], .agg #[.slice bn ln2 dn, .slice br lr2 dr]] w _
  go_enter Tryd.func26, Tryd.ntmps26
  go_wp2
  go_loopw [21] (fun t ws => (t = .int .i64 0 ∨ (t = .int .i64 1 ∧ RowKit.Hid (Va = 0)) ∨ (t = .int .i64 2 ∧ RowKit.Hid (Va = 0 ∧ Vb = 0))) ∧ Below wb.heap.size wb ws) (fun t _ => 2 - (intOf t).toNat)
  case atStart => exact ⟨.inl rfl, Below.refl _ _⟩
  case round =>
    rename World => ws
    obtain ⟨ht, hB⟩ := hrel
    have BW := Lib.hid hB
    have D1 := Lib.hid (BB.out.trans (hB.mono BB.out.size))
    have EW := Lib.hid (B0.out.trans (D1.out.mono B0.out.size))
    obtain ⟨l0, l1, l2, l3⟩ := CL.out _ hB
    clear hB
    rcases ht with rfl | ⟨rfl, hv⟩ | ⟨rfl, hv⟩
    · by_cases q : Va = 0
      · subst q
        go_wp2_with (go_at_call 37; refine (KVa.out _ (EW.out.trans ((below_al ws _).mono EW.out.size))).mono ?_; rintro e w2 ⟨rfl, hB⟩; have D2 := Lib.hid ((BW.out.trans ((below_al ws _).mono BW.out.size)).trans (hB.mono (BW.out.trans ((below_al ws _).mono BW.out.size)).size)); clear hB)
        go_roundw
        case rel => exact ⟨.inr (.inl ⟨rfl, trivial⟩), D2.out⟩
        case measure => simp [intOf]
      · have v0 : (Va == 0) = false := by rw [beq_eq_false_iff_ne]; exact q
        have e0 : E = Va := by rw [HE.out, if_neg q]
        subst e0
        go_wp2_with (go_at_call 37; refine (KVa.out _ (EW.out.trans ((below_al ws _).mono EW.out.size))).mono ?_; rintro e w2 ⟨rfl, hB⟩; have F2 := Lib.hid ((D1.out.trans ((below_al ws _).mono D1.out.size)).trans (hB.mono (D1.out.trans ((below_al ws _).mono D1.out.size)).size)); have HB1 := Lib.hid (CE.out _ F2.out).2.2; obtain ⟨y0, y1, y2, y3⟩ := box_all2 HB1.out; clear hB)
        obtain ⟨r0, r1, _, _⟩ := box_all2 (box_set2 (u := .slice none 0 0) (v := .slice none 0 0) HB1.out)
        refine bodyPost_ret (v := .tuple #[.agg #[.slice none 0 0, .slice none 0 0], .int .i64 E]) (by simp [results, Tryd.results26, go_sem, r0, r1]) rfl ?_
        exact FAIL.out _ q (((B0.out.trans (F2.out.mono B0.out.size)).setCell (p := ⟨w.heap.size + 1 + 1, 0, none⟩) (by show _ ≤ w.heap.size + 1 + 1; omega) _).setCell (p := ⟨w.heap.size + 1 + 1, 1, none⟩) (by show _ ≤ w.heap.size + 1 + 1; omega) _)
    · have q0 := hv.out
      clear hv
      subst q0
      by_cases q : Vb = 0
      · subst q
        go_wp2_with (go_at_call 37; refine (KVb.out _ (EW.out.trans ((below_al ws _).mono EW.out.size))).mono ?_; rintro e w2 ⟨rfl, hB⟩; have D2 := Lib.hid ((BW.out.trans ((below_al ws _).mono BW.out.size)).trans (hB.mono (BW.out.trans ((below_al ws _).mono BW.out.size)).size)); clear hB)
        go_roundw
        case rel => exact ⟨.inr (.inr ⟨rfl, trivial, trivial⟩), D2.out⟩
        case measure => simp [intOf]
      · have v0 : (Vb == 0) = false := by rw [beq_eq_false_iff_ne]; exact q
        have e0 : E = Vb := by rw [HE.out, if_pos rfl, if_neg q]
        subst e0
        go_wp2_with (go_at_call 37; refine (KVb.out _ (EW.out.trans ((below_al ws _).mono EW.out.size))).mono ?_; rintro e w2 ⟨rfl, hB⟩; have F2 := Lib.hid ((D1.out.trans ((below_al ws _).mono D1.out.size)).trans (hB.mono (D1.out.trans ((below_al ws _).mono D1.out.size)).size)); have HB1 := Lib.hid (CE.out _ F2.out).2.2; obtain ⟨y0, y1, y2, y3⟩ := box_all2 HB1.out; clear hB)
        obtain ⟨r0, r1, _, _⟩ := box_all2 (box_set2 (u := .slice none 0 0) (v := .slice none 0 0) HB1.out)
        refine bodyPost_ret (v := .tuple #[.agg #[.slice none 0 0, .slice none 0 0], .int .i64 E]) (by simp [results, Tryd.results26, go_sem, r0, r1]) rfl ?_
        exact FAIL.out _ q (((B0.out.trans (F2.out.mono B0.out.size)).setCell (p := ⟨w.heap.size + 1 + 1, 0, none⟩) (by show _ ≤ w.heap.size + 1 + 1; omega) _).setCell (p := ⟨w.heap.size + 1 + 1, 1, none⟩) (by show _ ≤ w.heap.size + 1 + 1; omega) _)
    · obtain ⟨q0, q1⟩ := hv.out
      clear hv
      subst q0 q1
      have gA := Lib.hid (GA.out rfl)
      have gB := Lib.hid (GB.out rfl)
      have E64 := Lib.hid (p := E = if 64 < (ovN tss uss).length then 6 else 0) (by rw [HE.out, if_pos rfl, if_pos rfl])
      clear HE GA GB KVa KVb
      have n64 : ln ≤ 64 ∧ ln2 ≤ 64 := by have := gA.out.n64; have := gB.out.n64; have := LN.out; omega
      have r4 : lr ≤ 4096 ∧ lr2 ≤ 4096 := by have := gA.out.r4; have := gB.out.r4; have := LR.out; omega
      obtain ⟨x0, x1, x2⟩ := CE.out _ D1.out
      obtain ⟨y0, y1, _, _⟩ := box_all2 x0
      obtain ⟨y2, y3, _, _⟩ := box_all2 x1
      clear x0 x1 x2 l0 l1 l2 l3 a0 a1 c0 c1
      go_wp2_with (first
        | (go_at_call 39; refine (KN.out _ EW.out).mono ?_; rintro e w4 ⟨b4, m4, d4, rfl, hO, hB⟩; have O4 := Lib.hid (own_mono hO D1.out.size); have F4 := Lib.hid (D1.out.trans (hB.mono D1.out.size)); have E4 := Lib.hid (EW.out.trans (hB.mono EW.out.size)); obtain ⟨x0, x1, x2⟩ := CE.out _ F4.out; obtain ⟨z0, z1, _, _⟩ := box_all2 x0; obtain ⟨z2, z3, _, _⟩ := box_all2 x1; clear hO hB x0 x1 x2)
        | (go_at_call 35; refine (KCo.out _ E4.out).mono ?_; rintro e w5 ⟨gc, vs, rfl, hcb, hvl, hvs, hg, hB⟩; have G5 := Lib.hid (Nat.le_trans F4.out.size hg); have C5 := Lib.hid hcb; have VL := Lib.hid hvl; have VS := Lib.hid hvs; have O5 := Lib.hid (own_back O4.out hB); have F5 := Lib.hid (F4.out.trans (hB.mono F4.out.size)); have E5 := Lib.hid (E4.out.trans (hB.mono E4.out.size)); obtain ⟨x0, x1, x2⟩ := CE.out _ F5.out; obtain ⟨v0, v1, _, _⟩ := box_all2 x0; obtain ⟨v2, v3, _, _⟩ := box_all2 x1; clear hcb hvl hvs hg hB x0 x1 x2))
      have NS0 := Lib.hid (p := NmS w1 w5 (.slice b4 m4 d4) gc vs (ovN tss (uss.take 0))) ⟨by
        have e : ovN tss (uss.take 0) = tss := by unfold ovN; simp
        have := O5.out
        rw [LN.out.1] at this
        rw [e]; exact this, C5.out, F5.out, G5.out⟩
      clear v0 v1 v2 v3 z0 z1 z2 z3 y0 y1 y2 y3
      go_loopw [9, 43] (fun v t ws => ∃ (i : Nat) (vs : List Int), i ≤ ln2 ∧ t = .int .i64 (i : Int) ∧ RowKit.Hid (vs.length = ln2 ∧ (∀ j, j < i → vs.getD j 0 = ovC tss uss j) ∧ (∀ j, i ≤ j → j < ln2 → vs.getD j 0 = colF tss (uss.getD j default) 0)) ∧ NmS w1 ws v gc vs (ovN tss (uss.take i))) (fun _ t _ => ln2 - (intOf t).toNat)
      case atStart => exact ⟨0, vs, Nat.zero_le _, rfl, ⟨VL.out, fun j hj => absurd hj (by omega), fun j _ hj => VS.out j hj⟩, NS0.out⟩
      case round =>
        rename World => wn
        obtain ⟨i, vs, hi, rfl, hV, hN⟩ := hrel
        have VV := Lib.hid hV.out
        have NN := Lib.hid hN
        have EN := Lib.hid (B0.out.trans (hN.bel.mono B0.out.size))
        clear hV hN
        by_cases hlt : i < ln2
        · obtain ⟨x, o, rfl, hx, hc⟩ := NC.out i hlt
          have kc : (i : Int) < (ln2 : Int) := by omega
          have cn0 := (EN.out.cell (p := ⟨x, o + i, none⟩) hx).trans hc
          have hil : i < vs.length := by rw [VV.out.1]; exact hlt
          have hiu : i < uss.length := by rw [← LN.out.2]; exact hlt
          obtain ⟨ci, cf⟩ := ints_cell NN.out.col hil
          rw [VV.out.2.2 i (Nat.le_refl _) hlt] at ci
          have kw : IntKind.i64.wrap ((i : Int) + 1) = (i : Int) + 1 := by simp [IntKind.wrap, IntKind.bits, IntKind.signed]; omega
          clear hc
          by_cases hcol : colF tss (uss.getD i default) 0 = -1
          · have STEP := Lib.hid (ovN_new hiu (show colF tss (uss.getD i default) 0 < 0 by omega))
            have CN := Lib.hid (ovC_new (ss := tss) gB.out.nd hiu (show colF tss (uss.getD i default) 0 < 0 by omega))
            rw [hcol] at ci
            have NL1 := Lib.hid (p := (ovN tss (uss.take i)).length ≤ 128) (by have := ovN_len tss (uss.take i); have := LN.out; rw [List.length_take] at *; omega)
            obtain ⟨na, nc, rfl⟩ := rowL_form NN.out.own
            generalize uss.getD i default = f at *
            have M1 := Lib.hid (NN.out.set i ((ovN tss (uss.take i)).length : Int))
            generalize hW1 : wn.setCell ⟨gc, i, none⟩ (.int .i64 ((ovN tss (uss.take i)).length : Int)) = wn1 at M1
            have M2 := Lib.hid (M1.out.below (below_al wn1 (.cells #[.string f] 9)))
            have V2 := Lib.hid (p := (vs.set i ((ovN tss (uss.take i)).length : Int)).length = ln2 ∧ (∀ j, j < i + 1 → (vs.set i ((ovN tss (uss.take i)).length : Int)).getD j 0 = ovC tss uss j) ∧ (∀ j, i + 1 ≤ j → j < ln2 → (vs.set i ((ovN tss (uss.take i)).length : Int)).getD j 0 = colF tss (uss.getD j default) 0)) ⟨by rw [List.length_set]; exact VV.out.1, fun j hj => by
              by_cases q : j = i
              · subst q
                rw [CN.out]; simp [List.getD, hil]
              · rw [← VV.out.2.1 j (by omega)]; simp only [List.getD]; rw [List.getElem?_set_ne (fun e => q e.symm)], fun j h1 h2 => by
              rw [← VV.out.2.2 j (by omega) h2]; simp only [List.getD]; rw [List.getElem?_set_ne (by omega)]⟩
            go_wp2_with (at_builtin; refine wp_appG Tryd.underlying22 infoS rfl (by decide) _ w1.heap.size (Nat.le_trans M1.out.bel.size (by simp)) (some ⟨wn1.heap.size, 0, none⟩) 1 1 [.string f] rfl (one_news wn1 (.string f) 9) (fun e => by cases e) (by simp [Value.oneCell']) rfl _ _ rfl _ _ _ rfl M2.out.own rfl (by have := NL1.out; unfold maxLen; omega) (by have := NL1.out; omega) ?_; intro v2 w2 O2 G2; have M3 := Lib.hid (M2.out.push O2 G2); clear O2 G2)
            go_roundw
            case rel => exact ⟨i + 1, _, by omega, by go_num, V2.out, by rw [STEP.out]; exact M3.out⟩
            case measure => simp [intOf]; omega
          · have cge : 0 ≤ colF tss (uss.getD i default) 0 := by have := (col_lo tss (uss.getD i default)).1; omega
            have STEP := Lib.hid (ovN_old hiu (show ¬ colF tss (uss.getD i default) 0 < 0 by omega))
            have CN := Lib.hid (ovC_old (tt := uss) cge)
            have V2 := Lib.hid (p := vs.length = ln2 ∧ (∀ j, j < i + 1 → vs.getD j 0 = ovC tss uss j) ∧ (∀ j, i + 1 ≤ j → j < ln2 → vs.getD j 0 = colF tss (uss.getD j default) 0)) ⟨VV.out.1, fun j hj => by
              by_cases q : j = i
              · subst q
                rw [CN.out]; exact VV.out.2.2 j (Nat.le_refl _) hlt
              · exact VV.out.2.1 j (by omega), fun j h1 h2 => VV.out.2.2 j (by omega) h2⟩
            generalize colF tss (uss.getD i default) 0 = C at *
            go_wp2
            go_roundw
            case rel => exact ⟨i + 1, _, by omega, by go_num, V2.out, by rw [STEP.out]; exact NN.out⟩
            case measure => simp [intOf]; omega
        · have ei : ln2 = i := by omega
          subst ei
          have kc : ¬ (ln2 : Int) < (ln2 : Int) := by omega
          have TK2 := Lib.hid (p := uss.take ln2 = uss) (List.take_of_length_le (by rw [LN.out.2]; omega))
          rw [TK2.out] at NN
          obtain ⟨na, nc, rfl⟩ := rowL_form NN.out.own
          obtain ⟨x0, x1, x2⟩ := CE.out _ NN.out.bel
          obtain ⟨y0, y1, _, _⟩ := box_all2 x0
          obtain ⟨y2, y3, _, _⟩ := box_all2 x1
          have HB1 := Lib.hid x2
          clear x0 x1 x2
          obtain ⟨NN0, hNN0⟩ : ∃ m, (ovN tss uss).length = m := ⟨_, rfl⟩
          rw [hNN0] at E64 NN
          try rw [hNN0]
          by_cases h6 : 64 < NN0
          · have h6i : (64 : Int) < (NN0 : Int) := by omega
            have e6 : E = 6 := by rw [E64.out, if_pos h6]
            subst e6
            obtain ⟨y4, y5, y6, y7⟩ := box_all2 HB1.out
            go_wp2
            obtain ⟨r0, r1, _, _⟩ := box_all2 (box_set2 (u := .slice none 0 0) (v := .slice none 0 0) HB1.out)
            refine bodyPost_ret (v := .tuple #[.agg #[.slice none 0 0, .slice none 0 0], .int .i64 6]) (by simp [results, Tryd.results26, go_sem, r0, r1]) rfl ?_
            exact FAIL.out _ (by decide) ((EN.out.setCell (p := ⟨w.heap.size + 1 + 1, 0, none⟩) (by show _ ≤ w.heap.size + 1 + 1; omega) _).setCell (p := ⟨w.heap.size + 1 + 1, 1, none⟩) (by show _ ≤ w.heap.size + 1 + 1; omega) _)
          · have h6i : ¬ (64 : Int) < (NN0 : Int) := by omega
            have e6 : E = 0 := by rw [E64.out, if_neg h6]
            subst e6
            obtain ⟨m, hm⟩ : ∃ m : Nat, max (lr : Int) (lr2 : Int) = (m : Int) := ⟨max lr lr2, by omega⟩
            have hmm : m = max lr lr2 := by omega
            have MX := Lib.hid hmm
            have m4 : m ≤ 4096 := by omega
            have hmk := make_rowsN m (by omega)
            obtain ⟨rw_, hrw⟩ : ∃ rw_, wn.heap.size = rw_ := ⟨_, rfl⟩
            have M0 := Lib.hid (mkR_new wn w.heap.size m EN.out.size)
            rw [hrw, List.toArray_replicate] at M0
            have R5 := Lib.hid (p := wn.heap.size ≤ rw_) (by omega)
            have A0 := Lib.hid (below_al wn (.cells (Array.replicate m (.slice none 0 0)) 49))
            clear hmm FAIL E64
            go_wp2
            have HN0 := Lib.hid hNN0
            clear hrw hNN0
            go_loopw [77] (fun t ws => ∃ (d : Nat) (qs : List Rw), d ≤ m ∧ t = .int .i64 (d : Int) ∧ RowKit.Hid (qs.length = d) ∧ RowKit.Hid (qs.map (·.cs) = (ovR tss ra uss rb).take d) ∧ MkR ws w.heap.size rw_ m qs ∧ Below wn.heap.size wn ws) (fun t _ => m - (intOf t).toNat)
            case atStart => exact ⟨0, [], Nat.zero_le _, rfl, rfl, by show _ = _; simp, M0.out, A0.out⟩
            case round =>
              rename World => wt
              obtain ⟨d, qs, hd, rfl, hql, hqm, hM, hA⟩ := hrel
              have MM := Lib.hid hM
              have AA := Lib.hid hA
              have QL := Lib.hid hql.out
              have QM := Lib.hid hqm.out
              have ET := Lib.hid (EN.out.trans (hA.mono EN.out.size))
              have FT := Lib.hid (NN.out.bel.trans (hA.mono NN.out.bel.size))
              obtain ⟨x0, x1, x2⟩ := CE.out _ FT.out
              obtain ⟨t0, t1, _, _⟩ := box_all2 x0
              have HB2 := Lib.hid x2
              obtain ⟨t4, t5, t6, t7⟩ := box_all2 x2
              clear hM hA hql hqm x0 x1 x2
              by_cases hdl : d < m
              · obtain ⟨qa, qn, qc, RCa, KA⟩ := KRa.out d
                obtain ⟨qb, qm, qd, RCb, KB⟩ := KRb.out d
                have dc : (d : Int) < (m : Int) := by omega
                have kw : IntKind.i64.wrap ((d : Int) + 1) = (d : Int) + 1 := by simp [IntKind.wrap, IntKind.bits, IntKind.signed]; omega
                obtain ⟨Ra, hRa⟩ : ∃ R, ra.getD d [] = R := ⟨_, rfl⟩
                obtain ⟨Rb, hRb⟩ : ∃ R, rb.getD d [] = R := ⟨_, rfl⟩
                have RBL := Lib.hid (p := Rb.length ≤ uss.length) (by rw [← hRb]; exact (row_len gB.out d).1)
                have NXT := Lib.hid (p := ∀ a : Option Addr, (qs ++ [(⟨a, NN0, NN0, ovLay (ovF tss uss) Rb (widR Ra NN0) qm⟩ : Rw)]).map (·.cs) = (ovR tss ra uss rb).take (d + 1)) (fun a => by
                  rw [List.map_append, QM.out, List.take_add_one, ovR_get (by have := MX.out; have := LR.out; omega)]
                  refine congrArg ((ovR tss ra uss rb).take d ++ ·) ?_
                  unfold ovRow
                  simp only [List.map_cons, List.map_nil, Option.toList_some]
                  rw [hRa, hRb, HN0.out, ← hRb, RCb.1])
                rw [hRa] at RCa
                rw [hRb] at RCb
                have RA := Lib.hid RCa
                have RQ := Lib.hid RCb
                have HA := Lib.hid KA
                have HQ := Lib.hid KB
                have WID := Lib.hid (wid_of (N := NN0) RCa.1)
                have PM := Lib.hid True.intro
                clear RCa RCb KA KB hRa hRb
                go_wp2_with (first
                  | (go_at_call 46; have qq := PM; refine (HA.out _ ET.out).mono ?_; rintro e w6 ⟨rfl, hB⟩; have E6 := Lib.hid (ET.out.trans (hB.mono ET.out.size)); have A6 := Lib.hid (AA.out.trans (hB.mono AA.out.size)); have M6 := Lib.hid (MM.out.below hB); clear hB PM qq)
                  | (go_at_call 38; refine (newRow_any qa NN0 qn qc Ra _ (RA.out.later E6.out) (by omega)).mono ?_; rintro e w7 ⟨rfl, hw7⟩; rw [WID.out] at hw7; have V7 := Lib.hid (p := Below w6.heap.size w6 w7) (by rw [hw7]; exact below_al _ _); have M7 := Lib.hid (M6.out.below V7.out); have Z7 := Lib.hid (p := w7.heap[w6.heap.size]? = some (.cells (clv (widR Ra NN0)).toArray 53)) (by rw [hw7]; exact World.alloc_heap_new _ _); have P7 := Lib.hid (MkL.new M6.out QL.out hdl V7.out Z7.out E6.out.size widR_len (Nat.le_refl _)); obtain ⟨k0, k1⟩ := M7.out.cell d QL.out hdl; have A7 := Lib.hid ((A6.out.trans (V7.out.mono A6.out.size)).setCell (p := ⟨rw_, d, none⟩) R5.out (.slice (some ⟨w6.heap.size, 0, none⟩) NN0 NN0)); have E7 := Lib.hid (EN.out.trans (A7.out.mono EN.out.size)); obtain ⟨x0, x1, x2⟩ := CE.out _ (NN.out.bel.trans (A7.out.mono NN.out.bel.size)); obtain ⟨s0, s1, _, _⟩ := box_all2 x1; clear hw7 x0 x1 x2)
                  | (go_at_call 46; have qq := P7; refine (HQ.out _ E7.out).mono ?_; rintro e w8 ⟨rfl, hB⟩; have P8 := Lib.hid (P7.out.below hB); have A8 := Lib.hid (A7.out.trans (hB.mono A7.out.size)); clear hB qq))
                have Z3 := Lib.hid (p := wn.heap.size ≤ w6.heap.size) A6.out.size
                obtain ⟨z, hz⟩ : ∃ z, w6.heap.size = z := ⟨_, rfl⟩
                rw [hz] at P8 Z3
                clear hz s0 s1 k0 k1 t0 t1 t4 t5 t6 t7
                go_loopw [93] (fun t wu => ∃ i : Nat, i ≤ qm ∧ t = .int .i64 (i : Int) ∧ MkL wu w.heap.size rw_ m qs z NN0 (ovLay (ovF tss uss) Rb (widR Ra NN0) i) ∧ Below wn.heap.size wn wu) (fun t _ => qm - (intOf t).toNat)
                case atStart => exact ⟨0, Nat.zero_le _, rfl, P8.out, A8.out⟩
                case round =>
                  rename World => wu
                  obtain ⟨i, hi, rfl, hP, hA⟩ := hrel
                  have PP := Lib.hid hP
                  have AU := Lib.hid hA
                  have EU := Lib.hid (EN.out.trans (hA.mono EN.out.size))
                  clear hP hA
                  by_cases hil : i < qm
                  · obtain ⟨bx, bo, rfl, hbx, hcc⟩ : ∃ bx bo, qb = some ⟨bx, bo, none⟩ ∧ bx < w.heap.size ∧ CC w bx (bo + i * 2) (Rb.getD i default) := by
                      rcases RQ.out.2.2.2 with q | ⟨b, o, q1, q2, q3⟩
                      · omega
                      · exact ⟨b, o, q1, q2, q3 i hil⟩
                    have hc2 := hcc.later EU.out hbx
                    have kc : (i : Int) < (qm : Int) := by omega
                    have q5 := RQ.out.2.1
                    have kwi : IntKind.i64.wrap ((i : Int) + 1) = (i : Int) + 1 := by simp [IntKind.wrap, IntKind.bits, IntKind.signed]; omega
                    have hiu : i < uss.length := Nat.lt_of_lt_of_le (by rw [RQ.out.1]; exact hil) RBL.out
                    obtain ⟨c, hc, hcn⟩ := ovC_lt tss hiu
                    have kc2 : (i : Int) < (ln2 : Int) := by rw [LN.out.2]; omega
                    have kc3 : (c : Int) < (NN0 : Int) := by rw [HN0.out] at hcn; omega
                    have HFC := Lib.hid (p := ovF tss uss i = c) (by unfold ovF; rw [hc, Int.toNat_natCast])
                    have CIL := Lib.hid (p := wn.cell? ⟨gc, i, none⟩ = some (.int .i64 (c : Int))) (by
                      have := (ints_cell NN.out.col (i := i) (by rw [VV.out.1, LN.out.2]; exact hiu)).1
                      rw [VV.out.2.1 i (by rw [LN.out.2]; exact hiu), hc] at this
                      exact this)
                    have CR := Lib.hid (p := c < (ovLay (ovF tss uss) Rb (widR Ra NN0) i).length) (by rw [ovLay_len, widR_len, ← HN0.out]; exact hcn)
                    have GCL := Lib.hid (blk_lt NN.out.col)
                    have LAYN := Lib.hid (p := (Rb.getD i default).h = false → ovLay (ovF tss uss) Rb (widR Ra NN0) (i + 1) = ovLay (ovF tss uss) Rb (widR Ra NN0) i) (fun e => by rw [ovLay, if_neg (by rw [e]; simp)])
                    have LAYY := Lib.hid (p := (Rb.getD i default).h = true → ovLay (ovF tss uss) Rb (widR Ra NN0) (i + 1) = (ovLay (ovF tss uss) Rb (widR Ra NN0) i).set c (Rb.getD i default)) (fun e => by rw [ovLay, if_pos e, HFC.out])
                    clear hcc hc hcn
                    generalize Rb.getD i default = cl at *
                    obtain ⟨ch, cv⟩ := cl
                    obtain ⟨d0, d1⟩ := hc2
                    have d1' : wu.cell? ⟨bx, bo + i * 2 + 1, none⟩ = some (.int .i64 cv) := d1
                    have PA := Lib.hid (PP.out.below (below_al wu (.cells #[.bool ch, .int .i64 cv] 53)))
                    have AA2 := Lib.hid (AU.out.alloc AU.out.size (.cells #[.bool ch, .int .i64 cv] 53))
                    cases ch with
                    | false =>
                      go_wp2
                      go_roundw
                      case rel => exact ⟨i + 1, by omega, by go_num, by rw [LAYN.out rfl]; exact PA.out, AA2.out⟩
                      case measure => simp [intOf]; omega
                    | true =>
                      have zx : z ≠ wu.heap.size := by have := blk_lt PP.out.hz.1; omega
                      have SB := Lib.hid (p := ∀ W : World, W.heap = (wu.alloc (.cells #[.bool true, .int .i64 cv] 53)).heap → W.cell? ⟨rw_, d, none⟩ = some (.slice (some ⟨z, 0, none⟩) NN0 NN0) ∧ W.cell? ⟨gc, i, none⟩ = some (.int .i64 (c : Int)) ∧ W.cell? ⟨wu.heap.size, 0, none⟩ = some (.bool true) ∧ W.cell? ⟨wu.heap.size, 1, none⟩ = some (.int .i64 cv)) (fun W hW => by
                        have q1 := (PA.out.same hW).last d QL.out
                        have q2 := (AA2.out.cell (p := ⟨gc, i, none⟩) GCL.out).trans CIL.out
                        obtain ⟨q3, q4, _, _⟩ := box_all2 (World.alloc_heap_new wu (.cells #[.bool true, .int .i64 cv] 53))
                        unfold World.cell? at q2 q3 q4 ⊢
                        unfold World.cell? at q1
                        rw [hW] at q1 ⊢
                        exact ⟨q1, q2, q3, q4⟩)
                      obtain ⟨⟨zc0, zc1⟩, zf0, zf1⟩ := PA.out.rowz c CR.out
                      obtain ⟨sb0, sb1, sb2, sb3⟩ := SB.out _ rfl
                      have FS := Lib.hid (PA.out.set c CR.out ⟨true, cv⟩)
                      have FC := Lib.hid (lay_set PA.out CR.out d QL.out sb2 sb3 zx CIL.out GCL.out Z3.out AA2.out)
                      clear zx
                      go_wp2
                      go_region_held3 (fun w' => w'.cell? ⟨rw_, d, none⟩ = some (.slice (some ⟨z, 0, none⟩) NN0 NN0) ∧ w'.cell? ⟨gc, i, none⟩ = some (.int .i64 (c : Int)) ∧ w'.cell? ⟨wu.heap.size, 0, none⟩ = some (.bool true) ∧ w'.cell? ⟨wu.heap.size, 1, none⟩ = some (.int .i64 cv)) (first | exact SB.out _ rfl | exact FC.out.1) (fail)
                      go_wp2
                      refine ⟨⟨i + 1, by omega, by go_num, by rw [LAYY.out (by trivial)]; exact FS.out.same rfl, FC.out.2.drew⟩, ?_⟩
                      simp [intOf]; omega
                  · have ei : qm = i := by omega
                    subst ei
                    have kc : ¬ (qm : Int) < (qm : Int) := by omega
                    go_wp2
                    go_roundw
                    case rel => exact ⟨d + 1, _, by omega, by go_num, by show _ = d + 1; rw [List.length_append, QL.out]; rfl, NXT.out _, PP.out.mr, AU.out⟩
                    case measure => simp [intOf]; omega
              · have ed : m = d := by omega
                subst ed
                have kd : ¬ (m : Int) < (m : Int) := by omega
                go_wp2
                obtain ⟨r0, r1, _, _⟩ := box_all2 (box_set2 (u := .slice na NN0 nc) (v := .slice (some ⟨rw_, 0, none⟩) m m) HB2.out)
                refine bodyPost_ret (v := .tuple #[.agg #[.slice na NN0 nc, .slice (some ⟨rw_, 0, none⟩) m m], .int .i64 0]) (by simp [results, Tryd.results26, go_sem, r0, r1]) rfl ?_
                have g1 := grT_set wt (w.heap.size + 1 + 1) 0 (.slice na NN0 nc)
                have g2 := grT_set (wt.setCell ⟨w.heap.size + 1 + 1, 0, none⟩ (.slice na NN0 nc)) (w.heap.size + 1 + 1) 1 (.slice (some ⟨rw_, 0, none⟩) m m)
                have bb := Joins.block_setCell (i := 0) HB2.out (.slice na NN0 nc)
                have RO4 := MM.out.own QL.out (by unfold maxLen; omega)
                have RO5 := (RO4.turn HB2.out (by decide) (by decide) g1).turn bb (by decide) (by decide) g2
                have NO4 : wt.ownsRow w.heap.size 9 1 (.slice na NN0 nc) (ovN tss uss).length ((ovN tss uss).map Value.string) := by
                  have := own_mono (own_back NN.out.own AA.out) B0.out.size
                  exact this
                have NO5 := tbox_own (tbox_own NO4 HB2.out (by decide) g1) bb (by decide) g2
                have ERS : qs.map (·.cs) = ovR tss ra uss rb := by
                  rw [QM.out, List.take_of_length_le (by unfold ovR; simp; have := MX.out; have := LR.out; omega)]
                have PT := psT_of (ns := ovN tss uss) NO5 RO5 (by rw [ERS]; exact ov_gd gA.out gB.out (by rw [HN0.out]; omega)) 0 0
                refine ⟨⟨na, NN0, nc, ovN tss uss, some ⟨rw_, 0, none⟩, m, m, qs⟩, rfl, ?_, (ET.out.setCell (p := ⟨w.heap.size + 1 + 1, 0, none⟩) (by show _ ≤ w.heap.size + 1 + 1; omega) _).setCell (p := ⟨w.heap.size + 1 + 1, 1, none⟩) (by show _ ≤ w.heap.size + 1 + 1; omega) _⟩
                rw [ERS] at PT
                exact ⟨fun _ => PT, fun q => absurd rfl q⟩
end Go.Proofs.YtglgdfgdfkeogaaDoor

namespace Go.Proofs.YtglgdfgdfkeogaaDoor
open Go.RowKit
set_option linter.unusedVariables false
set_option linter.unusedSimpArgs false

/-- Pairs as they lie. -/
def prV (l : List (ByteArray × Int)) : List Value := l.flatMap fun p => [.string p.1, .int .i64 p.2]
theorem prV_app (l m : List (ByteArray × Int)) : prV (l ++ m) = prV l ++ prV m := by unfold prV; rw [List.flatMap_append]
/-- What is missing on a day; up to a day. -/
def missD (ss : List ByteArray) (rs : List (List Cl)) (ns : List ByteArray) (d : Nat) : List (ByteArray × Int) := (ns.filter fun s => !(rawT ss rs s d).h).map fun s => (s, (d : Int))
def missP (ss : List ByteArray) (rs : List (List Cl)) (ns : List ByteArray) (k : Nat) : List (ByteArray × Int) := (List.range k).flatMap (missD ss rs ns)
theorem missP_succ (ss : List ByteArray) (rs : List (List Cl)) (ns : List ByteArray) (k : Nat) : missP ss rs ns (k + 1) = missP ss rs ns k ++ missD ss rs ns k := by
  unfold missP; rw [List.range_succ, List.flatMap_append]; simp
theorem missD_le (ss : List ByteArray) (rs : List (List Cl)) (ns : List ByteArray) (d : Nat) : (missD ss rs ns d).length ≤ ns.length := by
  unfold missD; rw [List.length_map]; exact List.length_filter_le _ _
theorem missP_le (ss : List ByteArray) (rs : List (List Cl)) (ns : List ByteArray) : ∀ k, (missP ss rs ns k).length ≤ k * ns.length
  | 0 => by simp [missP]
  | k + 1 => by
    rw [missP_succ, List.length_append]
    have := missP_le ss rs ns k
    have := missD_le ss rs ns k
    rw [Nat.add_mul]; omega
theorem missD_next {ss : List ByteArray} {rs : List (List Cl)} {ns : List ByteArray} {d i : Nat} (hi : i < ns.length) : missD ss rs (ns.take (i + 1)) d = missD ss rs (ns.take i) d ++ (if (rawT ss rs (ns.getD i default) d).h then [] else [(ns.getD i default, (d : Int))]) := by
  have e : ns.take (i + 1) = ns.take i ++ [ns.getD i default] := by
    rw [List.take_add_one, List.getElem?_eq_getElem hi]; simp [List.getD, hi]
  unfold missD
  rw [e, List.filter_append, List.map_append]
  refine congrArg (_ ++ ·) ?_
  cases q : (rawT ss rs (ns.getD i default) d).h with
  | true => rw [List.filter_cons_of_neg (by rw [q]; simp)]; simp
  | false => rw [List.filter_cons_of_pos (by rw [q]; simp)]; simp
/-- What Missing answers. -/
def missE (ss : List ByteArray) (rs : List (List Cl)) (ns : List ByteArray) (last : Int) : Int := if last < 0 ∨ 3660 < last then 1 else bindE ss rs ns
structure PrS (w3 ws : World) (v : Value) (l : List (ByteArray × Int)) : Prop where
  own : ws.ownsRow w3.heap.size 65 2 v l.length (prV l)
  bel : Below w3.heap.size w3 ws
theorem PrS.below {w3 ws W : World} {v : Value} {l : List (ByteArray × Int)} (h : PrS w3 ws v l) (b : Below ws.heap.size ws W) : PrS w3 W v l := ⟨own_back h.own b, h.bel.trans (b.mono h.bel.size)⟩
theorem PrS.push {w3 ws W : World} {v v' : Value} {l : List (ByteArray × Int)} {s : ByteArray} {d : Int} (h : PrS w3 ws v l) (o : W.ownsRow w3.heap.size 65 2 v' (l.length + 1) (prV l ++ [.string s, .int .i64 d])) (g : ws.grownBy W v.ownBlock) : PrS w3 W v' (l ++ [(s, d)]) :=
  ⟨by rw [prV_app, List.length_append]; exact o, h.bel.grown g h.bel.size (fun k e => (h.own.lt k e).1)⟩
def MsE (ss : List ByteArray) (rs : List (List Cl)) (ns : List ByteArray) (last : Int) (w : World) (e : Ending) (w' : World) : Prop :=
  ∃ v, e = .returned (.tuple #[v, .int .i64 (missE ss rs ns last)]) ∧ w'.ownsRow w.heap.size 65 2 v (if missE ss rs ns last = 0 then missP ss rs ns (last + 1).toNat else []).length (prV (if missE ss rs ns last = 0 then missP ss rs ns (last + 1).toNat else [])) ∧ Below w.heap.size w w'
theorem infoP : (Tryd.prog.info? 65).map (fun i => (i.zero, i.size, i.bytes)) = some (some (.agg #[.string ⟨#[]⟩, .int .i64 0]), 2, 24) := by kernel_rfl
theorem two_news (W : World) (u v : Value) (E : TypeId) : ∀ y, some (⟨W.heap.size, 0, none⟩ : Addr) = some y → ∀ j z, [u, v][j]? = some z → (W.alloc (.cells #[u, v] E)).cell? (y.add j) = some z := by
  intro y e j z hz
  injection e with e
  subst e
  obtain ⟨q0, q1, _, _⟩ := box_all2 (World.alloc_heap_new W (.cells #[u, v] E))
  match j, hz with
  | 0, hz => simp at hz; subst hz; rw [Go.Addr.add_lit]; exact q0
  | 1, hz => simp at hz; subst hz; rw [Go.Addr.add_lit]; exact q1
  | j + 2, hz => simp at hz
theorem fld_has (h : Bool) (v : Int) (w : World) : (Instr.field 53 (.agg #[.bool h, .int .i64 v]) 0).run Tryd.prog w = .ok (.bool h) w := by kernel_rfl
set_option maxRecDepth 100000 in
set_option maxHeartbeats 8000000 in
theorem missing_any (t : Tb) (ss : List ByteArray) (rs : List (List Cl)) (a : Option Addr) (n c : Nat) (ns : List ByteArray) (last : Int) (w : World) (h : TbIs w t ss rs) (k : NL w a n ns) (hn : n ≤ 1000000000) :
    Calls Tryd.prog 28 #[t.val, .slice a n c, .int .i64 last] w fun e w' => MsE ss rs ns last w e w' := by
  obtain ⟨E, hE⟩ : ∃ E, missE ss rs ns last = E := ⟨_, rfl⟩
  unfold MsE
  rw [hE]
  obtain ⟨RR, hRR⟩ : ∃ RR, (if E = 0 then missP ss rs ns (last + 1).toNat else []) = RR := ⟨_, rfl⟩
  rw [hRR]
  have HRR := Lib.hid hRR
  have KV := Lib.hid (fun (W : World) (b : Below w.heap.size w W) => validWith_any t ss rs a n c ns W (h.later b) (k.later b))
  obtain ⟨Eb, hEb⟩ : ∃ E, bindE ss rs ns = E := ⟨_, rfl⟩
  rw [hEb] at KV
  unfold missE at hE
  rw [hEb] at hE
  clear hRR hEb
  obtain ⟨an, ln, cn, tss, ar, lr, cr, trs⟩ := t
  have e4 : tss = ss := h.ns
  subst e4
  have B0 := Lib.hid (below_al w (.cells #[.slice an ln cn, .slice ar lr cr] 25))
  have HB0 := Lib.hid (World.alloc_heap_new w (.cells #[.slice an ln cn, .slice ar lr cr] 25))
  obtain ⟨w1, hw1⟩ : ∃ w1, w.alloc (.cells #[.slice an ln cn, .slice ar lr cr] 25) = w1 := ⟨_, rfl⟩
  rw [hw1] at B0 HB0
  obtain ⟨c0, c1, _, _⟩ := box_all2 HB0.out
  have CE := Lib.hid (p := ∀ W, Below w1.heap.size w1 W → W.cell? ⟨w.heap.size, 0, none⟩ = some (.slice an ln cn) ∧ W.cell? ⟨w.heap.size, 1, none⟩ = some (.slice ar lr cr)) (fun W b => by
    obtain ⟨q0, q1, _, _⟩ := box_all2 ((b.block _ (blk_lt HB0.out)).trans HB0.out)
    exact ⟨q0, q1⟩)
  have Q := Lib.hid (p := ∀ w', E ≠ 0 → Below w.heap.size w w' → ∃ v, Ending.returned (.tuple #[.slice none 0 0, .int .i64 E]) = .returned (.tuple #[v, .int .i64 E]) ∧ w'.ownsRow w.heap.size 65 2 v RR.length (prV RR) ∧ Below w.heap.size w w') (fun w' q b => ⟨.slice none 0 0, rfl, by rw [← HRR.out, if_neg q]; exact World.ownsRow_nil _ _ _ _, b⟩)
  show Calls Tryd.prog 28 #[.agg #[.slice an ln cn, .slice ar lr cr], .slice a n c, .int .i64 last] w _
  by_cases hlo : last < 0
  · rw [if_pos (.inl hlo)] at hE
    subst hE
    clear h k
    go_enter Tryd.func28, Tryd.ntmps28
    go_wp2
    go_ret2
    exact Q.out _ (by decide) B0.out
  · by_cases hhi : 3660 < last
    · rw [if_pos (.inr hhi)] at hE
      subst hE
      clear h k
      go_enter Tryd.func28, Tryd.ntmps28
      go_wp2
      go_ret2
      exact Q.out _ (by decide) B0.out
    · rw [if_neg (by omega)] at hE
      subst hE
      by_cases h0 : Eb = 0
      · subst h0
        obtain ⟨l, rfl⟩ : ∃ l : Nat, last = (l : Int) := ⟨last.toNat, by omega⟩
        have hl : l ≤ 3660 := by omega
        have kw0 : IntKind.i64.wrap ((l : Int) + 1) = (l : Int) + 1 := by simp [IntKind.wrap, IntKind.bits, IntKind.signed]; omega
        have RRE := Lib.hid (p := RR = missP tss rs ns (l + 1)) (by rw [← HRR.out]; simp)
        have KC := Lib.hid (fun (W : World) (b : Below w.heap.size w W) => columnsOf_any a an n c ln cn ns tss W (k.later b) (h.nl.later b))
        have NSL := Lib.hid (p := ns.length = n) k.1
        have NC := Lib.hid (p := ∀ i, i < n → ∃ x o, a = some ⟨x, o, none⟩ ∧ x < w.heap.size ∧ w.cell? ⟨x, o + i, none⟩ = some (.string (ns.getD i default))) (fun i hi => by
          rcases k.2.2.2 with z | ⟨x, o, z1, z2, z3⟩
          · omega
          · exact ⟨x, o, z1, z2, z3 i hi⟩)
        have KR := Lib.hid (fun (d : Nat) => rowOn_both (an := an) (ln := ln) (cn := cn) (cr := cr) h.rl h.rs d)
        have FLD := fld_has
        clear h k hlo hhi Q HRR
        go_enter Tryd.func28, Tryd.ntmps28
        go_wp2_with (first
          | (go_at_call 34; refine (KV.out _ B0.out).mono ?_; rintro e w2 ⟨rfl, hB⟩; have E2 := Lib.hid (B0.out.trans (hB.mono B0.out.size)); have D2 := Lib.hid hB; obtain ⟨x0, x1⟩ := CE.out _ hB; clear hB)
          | (go_at_call 35; refine (KC.out _ E2.out).mono ?_; rintro e w3 ⟨gc, rfl, hI, hg, hB⟩; have E3 := Lib.hid (E2.out.trans (hB.mono E2.out.size)); have D3 := Lib.hid (D2.out.trans (hB.mono D2.out.size)); have I3 := Lib.hid hI; clear hI hg hB))
        have P0 := Lib.hid (p := PrS w3 w3 (.slice none 0 0) (missP tss rs ns 0)) ⟨World.ownsRow_nil _ _ _ _, Below.refl _ _⟩
        clear x0 x1 c0 c1
        go_loopw [10, 33] (fun v t ws => ∃ d : Nat, d ≤ l + 1 ∧ t = .int .i64 (d : Int) ∧ PrS w3 ws v (missP tss rs ns d)) (fun _ t _ => l + 1 - (intOf t).toNat)
        case atStart => exact ⟨0, Nat.zero_le _, rfl, P0.out⟩
        case round =>
          rename World => wt
          obtain ⟨d, hd, rfl, hP⟩ := hrel
          have PP := Lib.hid hP
          have ET := Lib.hid (E3.out.trans (hP.bel.mono E3.out.size))
          obtain ⟨t0, t1⟩ := CE.out _ (D3.out.trans (hP.bel.mono D3.out.size))
          clear hP
          by_cases hdl : d < l + 1
          · obtain ⟨qa, qn, qc, RCa, KA⟩ := KR.out d
            have RA := Lib.hid RCa
            have HA := Lib.hid KA
            have dc : (d : Int) < (l : Int) + 1 := by omega
            have kw : IntKind.i64.wrap ((d : Int) + 1) = (d : Int) + 1 := by simp [IntKind.wrap, IntKind.bits, IntKind.signed]; omega
            have LEN := Lib.hid (p := (missP tss rs ns d).length ≤ 3660 * n) (Nat.le_trans (missP_le tss rs ns d) (by rw [NSL.out]; exact Nat.mul_le_mul_right _ (by omega)))
            clear RCa KA
            go_wp2_with (first
              | (go_at_call 46; refine (HA.out _ ET.out).mono ?_; rintro e w6 ⟨rfl, hB⟩; have P6 := Lib.hid (p := PrS w3 w6 _ (missP tss rs ns d ++ missD tss rs (ns.take 0) d)) (by rw [show missD tss rs (ns.take 0) d = [] from rfl, List.append_nil]; exact PP.out.below hB); clear hB))
            go_loopw [10, 41] (fun v t ws => ∃ i : Nat, i ≤ n ∧ t = .int .i64 (i : Int) ∧ PrS w3 ws v (missP tss rs ns d ++ missD tss rs (ns.take i) d)) (fun _ t _ => n - (intOf t).toNat)
            case atStart => exact ⟨0, Nat.zero_le _, rfl, P6.out⟩
            case round =>
              rename World => wu
              obtain ⟨i, hi, rfl, hP⟩ := hrel
              have PU := Lib.hid hP
              have EU := Lib.hid (E3.out.trans (hP.bel.mono E3.out.size))
              clear hP
              by_cases hil : i < n
              · obtain ⟨x, o, rfl, hx, hcx⟩ := NC.out i hil
                have kc : (i : Int) < (n : Int) := by omega
                have kwi : IntKind.i64.wrap ((i : Int) + 1) = (i : Int) + 1 := by simp [IntKind.wrap, IntKind.bits, IntKind.signed]; omega
                have cn0 := (EU.out.cell (p := ⟨x, o + i, none⟩) hx).trans hcx
                have ci := (PU.out.bel.cell (p := ⟨gc, i, none⟩) I3.out.1).trans (I3.out.2 i hil)
                have NXT := Lib.hid (missD_next (ss := tss) (rs := rs) (d := d) (show i < ns.length by rw [NSL.out]; exact hil))
                have LN2 := Lib.hid (p := (missP tss rs ns d ++ missD tss rs (ns.take i) d).length ≤ 3661 * n) (by
                  rw [List.length_append]
                  have := missD_le tss rs (ns.take i) d
                  have := LEN.out
                  rw [List.length_take] at *
                  have := NSL.out
                  omega)
                have CLO := Lib.hid (col_lo tss (ns.getD i default)).1
                rw [raw_at] at NXT
                simp only at ci
                generalize colF tss (ns.getD i default) 0 = C at ci NXT CLO
                have KI := Lib.hid (fun (W : World) (b : Below w.heap.size w W) => cellIn_any qa qn qc (rs.getD d []) C W (RA.out.later b) CLO.out)
                generalize atC (rs.getD d []) C = cc at NXT KI
                generalize ns.getD i default = f at *
                obtain ⟨ch, cv⟩ := cc
                clear hcx
                cases ch with
                | true =>
                  go_wp2_with (first
                    | (go_at_call 36; refine (KI.out _ EU.out).mono ?_; rintro e w9 ⟨rfl, hB⟩; have P9 := Lib.hid (PU.out.below hB); clear hB))
                  go_roundw
                  case rel => exact ⟨i + 1, by omega, by go_num, by rw [NXT.out]; simpa using P9.out⟩
                  case measure => simp [intOf]; omega
                | false =>
                  go_wp2_with (first
                    | (go_at_call 36; refine (KI.out _ EU.out).mono ?_; rintro e w9 ⟨rfl, hB⟩; have P9 := Lib.hid (PU.out.below hB); have PA := Lib.hid (P9.out.below (below_al w9 (.cells #[.string f, .int .i64 (d : Int)] 65))); clear hB)
                    | (at_builtin; refine wp_appG Tryd.underlying59 infoP rfl (by decide) _ w3.heap.size PA.out.bel.size (some ⟨w9.heap.size, 0, none⟩) 1 1 [.string f, .int .i64 (d : Int)] rfl (two_news w9 (.string f) (.int .i64 (d : Int)) 65) (fun e => by cases e) (by simp [Value.oneCell']) rfl _ _ rfl _ _ _ rfl PA.out.own rfl (by have := LN2.out; unfold maxLen; omega) (by have := LN2.out; omega) ?_; intro v2 w2 O2 G2; have M3 := Lib.hid (PA.out.push O2 G2); clear O2 G2))
                  go_roundw
                  case rel => exact ⟨i + 1, by omega, by go_num, by rw [NXT.out]; simpa [List.append_assoc] using M3.out⟩
                  case measure => simp [intOf]; omega
              · have ei : n = i := by omega
                subst ei
                have kc : ¬ (n : Int) < (n : Int) := by omega
                have FIN := Lib.hid (p := missP tss rs ns d ++ missD tss rs (ns.take n) d = missP tss rs ns (d + 1)) (by rw [missP_succ, List.take_of_length_le (by rw [NSL.out]; omega)])
                rw [FIN.out] at PU
                go_wp2
                go_roundw
                case rel => exact ⟨d + 1, by omega, by go_num, PU.out⟩
                case measure => simp [intOf]; omega
          · have ed : d = l + 1 := by omega
            subst ed
            have kd : ¬ ((l + 1 : Nat) : Int) < (l : Int) + 1 := by omega
            rw [← RRE.out] at PP
            go_wp2
            go_ret2
            exact ⟨_, rfl, own_mono PP.out.own E3.out.size, ET.out⟩
      · have v0 : (Eb == 0) = false := by rw [beq_eq_false_iff_ne]; exact h0
        clear h k
        go_enter Tryd.func28, Tryd.ntmps28
        go_wp2_with (go_at_call 34; refine (KV.out _ B0.out).mono ?_; rintro e w2 ⟨rfl, hB⟩; have E2 := Lib.hid (B0.out.trans (hB.mono B0.out.size)); clear hB)
        go_ret2
        exact Q.out _ h0 E2.out
end Go.Proofs.YtglgdfgdfkeogaaDoor
