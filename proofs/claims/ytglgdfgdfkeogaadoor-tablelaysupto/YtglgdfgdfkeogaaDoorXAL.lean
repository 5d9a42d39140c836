import Derived.Test.YtglgdfgdfkeogaaDoorXAI
import Derived.Test.YtglgdfgdfkeogaaDoorXAK
namespace Go.Proofs.YtglgdfgdfkeogaaDoor
open Go.RowKit
set_option linter.unusedVariables false
set_option linter.unusedSimpArgs false

theorem colF_self {ss : List ByteArray} (h : ss.Nodup) {i : Nat} (hi : i < ss.length) : colF ss (ss.getD i default) 0 = (i : Int) := by
  rcases colF_col ss (ss.getD i default) with ⟨_, c⟩ | ⟨j, c1, c2, c3, c4⟩
  · exact absurd rfl (c i hi)
  · rw [c1]
    have e : j = i := by
      rw [List.nodup_iff_pairwise_ne, List.pairwise_iff_getElem] at h
      rcases Nat.lt_trichotomy j i with q | q | q
      · refine absurd ?_ (h j i c2 hi q)
        simp [List.getD, c2, hi] at c3
        exact c3
      · exact q
      · exact absurd rfl (c4 i q)
    rw [e]
theorem three_cells {w W : World} {a b c : Obj} (h : Below (((w.alloc a).alloc b).alloc c).heap.size (((w.alloc a).alloc b).alloc c) W) : W.heap[w.heap.size]? = some a ∧ W.heap[w.heap.size + 1]? = some b ∧ W.heap[w.heap.size + 1 + 1]? = some c := by
  have e : ∀ k, k < 3 → W.heap[w.heap.size + k]? = [a, b, c][k]? := fun k hk => by
    rw [h.block _ (by simp; omega)]
    exact als_blk w [a, b, c] k
  exact ⟨e 0 (by omega), e 1 (by omega), e 2 (by omega)⟩
theorem MkR.last {W : World} {B rb m : Nat} {qs : List Rw} {q : Rw} (h : MkR W B rb m (qs ++ [q])) (k : Nat) (hk : qs.length = k) : W.cell? ⟨rb, k, none⟩ = some (qv q) := by
  rw [Joins.cell_of_block h.hb]
  subst hk
  rw [List.getElem?_toArray, List.getElem?_append_left (by simp), List.getElem?_map, List.getElem?_append_right (Nat.le_refl _), Nat.sub_self]
  rfl
/-- A cell of the last row is written with what it holds. -/
theorem MkR.again {W : World} {B rb m z n : Nat} {qs : List Rw} {r : List Cl} (h : MkR W B rb m (qs ++ [⟨some ⟨z, 0, none⟩, n, n, r⟩])) (i : Nat) (hi : i < r.length) :
    ((W.setCell ⟨z, i * 2, none⟩ (.bool (r.getD i default).h)).setCell ⟨z, i * 2 + 1, none⟩ (.int .i64 (r.getD i default).v)).heap = W.heap := by
  obtain ⟨z', e1, _, _, _, hz⟩ := h.ok _ (List.mem_append.2 (.inr (List.mem_singleton.2 rfl)))
  simp only at e1 hz
  injection e1 with e1
  injection e1 with e1
  subst e1
  have hb := Joins.block_setCell (i := i * 2 + 1) (Joins.block_setCell (i := i * 2) hz (.bool (r.getD i default).h)) (.int .i64 (r.getD i default).v)
  have er : r.set i (r.getD i default) = r := by
    apply List.ext_getElem?
    intro j
    rw [List.getElem?_set]
    split
    · rename_i q
      subst q
      simp [hi]
    · rfl
  rw [List.setIfInBounds_toArray, List.setIfInBounds_toArray, clv_set r i _ hi, er] at hb
  apply Array.ext_getElem?
  intro j
  by_cases q : j = z
  · subst q
    rw [hb, hz]
  · have q' : ¬ z = j := fun e => q e.symm
    simp [World.setCell, Array.getElem?_modify, q']
theorem MkR.same {W W' : World} {B rb m : Nat} {qs : List Rw} (h : MkR W B rb m qs) (e : W'.heap = W.heap) : MkR W' B rb m qs :=
  ⟨by rw [e]; exact h.hb, h.le, fun q hq => (h.ok q hq).stay (fun z cs hz => by rw [e]), h.bl, h.nd⟩
theorem MkR.rowz {W : World} {B rb m z n : Nat} {qs : List Rw} {r : List Cl} (h : MkR W B rb m (qs ++ [⟨some ⟨z, 0, none⟩, n, n, r⟩])) (i : Nat) (hi : i < r.length) : CC W z (i * 2) (r.getD i default) ∧ W.frozen? ⟨z, i * 2, none⟩ = false ∧ W.frozen? ⟨z, i * 2 + 1, none⟩ = false := by
  obtain ⟨z', e1, _, _, _, hz⟩ := h.ok _ (List.mem_append.2 (.inr (List.mem_singleton.2 rfl)))
  simp only at e1 hz
  injection e1 with e1
  injection e1 with e1
  subst e1
  refine ⟨⟨?_, ?_⟩, Joins.unfrozen_of_block hz _, Joins.unfrozen_of_block hz _⟩
  · have := clv_at r i hi 0 (by omega)
    rw [Joins.cell_of_block hz]
    simpa [Cl.two] using this
  · have := clv_at r i hi 1 (by omega)
    rw [Joins.cell_of_block hz]
    simpa [Cl.two] using this
theorem own_len {w : World} {B n m c s : Nat} {E : TypeId} {a : Option Addr} {xs : List Value} (h : w.ownsRow B E s (.slice a m c) n xs) : m = n := by
  rcases h.2 with ⟨e, e0⟩ | ⟨g, cap, cur, e, _⟩
  · injection e with _ e _
    omega
  · injection e with _ e _
set_option maxHeartbeats 2000000 in
theorem rowOn_at (an ar : Option Addr) (ln cn lr cr d : Nat) (rs : List Rw) (w : World) (k : RL w ar lr rs) (hlt : d < lr) :
    Calls Tryd.prog 46 #[.agg #[.slice an ln cn, .slice ar lr cr], .int .i64 (d : Int)] w fun e w' => e = .returned (.slice (rs.getD d default).a (rs.getD d default).n (rs.getD d default).cap) ∧ Below w.heap.size w w' := by
  have hB0 : Below w.heap.size w (w.alloc (.cells #[.slice an ln cn, .slice ar lr cr] 25)) := (Below.refl _ w).alloc (Nat.le_refl _) _
  obtain ⟨x, o, rfl, hx, hcs⟩ : ∃ x o, ar = some ⟨x, o, none⟩ ∧ x < w.heap.size ∧ ∀ i, i < lr → w.cell? ⟨x, o + i, none⟩ = some (.slice (rs.getD i default).a (rs.getD i default).n (rs.getD i default).cap) := by
    rcases k.2.2.2 with h0 | h0
    · omega
    · exact h0
  have c0 := (hB0.cell (p := ⟨x, o + d, none⟩) hx).trans (hcs d hlt)
  have dc : (d : Int) < (lr : Int) := by omega
  have B0 := Lib.hid hB0
  clear hcs k hB0
  generalize rs.getD d default = r at *
  go_enter Tryd.func46, Tryd.ntmps46
  go_wp2
  go_ret
  exact ⟨rfl, B0.out⟩
/-- The row of a day, wherever it is asked for. -/
theorem rowOn_get {w : World} {an ar : Option Addr} {ln cn lr cr : Nat} {trs : List Rw} {rs : List (List Cl)} (k : RL w ar lr trs) (hrs : trs.map (·.cs) = rs) {n : Nat} (hn : ∀ r ∈ rs, r.length = n) (d : Nat) (hd : d < lr) :
    ∃ ra rc, RC w ra n (rs.getD d []) ∧ ∀ W, Below w.heap.size w W → Calls Tryd.prog 46 #[.agg #[.slice an ln cn, .slice ar lr cr], .int .i64 (d : Int)] W fun e w' => e = .returned (.slice ra n rc) ∧ Below W.heap.size W w' := by
  have hd' : d < trs.length := by rw [k.1]; exact hd
  have em : trs.getD d default = trs[d] := by simp [List.getD, hd']
  have mem : trs.getD d default ∈ trs := by rw [em]; exact List.getElem_mem hd'
  have e2 : (trs.getD d default).cs = rs.getD d [] := by rw [em, ← hrs]; simp [List.getD, hd']
  have hm : rs.getD d [] ∈ rs := by rw [← e2, ← hrs]; exact List.mem_map.2 ⟨_, mem, rfl⟩
  have e3 : (trs.getD d default).n = n := by rw [← (k.2.2.1 _ mem).1.1, e2]; exact hn _ hm
  refine ⟨(trs.getD d default).a, (trs.getD d default).cap, ?_, fun W b => ?_⟩
  · have := (k.2.2.1 _ mem).1
    rwa [e2, e3] at this
  · have := rowOn_at an ar ln cn lr cr d trs W (k.later b) hd
    rwa [e3] at this
set_option maxRecDepth 100000 in
set_option maxHeartbeats 8000000 in
theorem overlaySame_any (t u : Tb) (ss : List ByteArray) (rs : List (List Cl)) (w : World) (h : TbIs w t ss rs) (k : TbIs w u ss rs) (g : Gd ss rs) :
    Calls Tryd.prog 26 #[t.val, u.val] w fun e w' => ∃ u : Tb, e = .returned (.tuple #[u.val, .int .i64 0]) ∧ PsT w.heap.size w' u ⟨0, 0, ss, rs⟩ ∧ Below w.heap.size w w' := by
  have V0 := valid_gd g
  have KV := Lib.hid (p := ∀ (W : World) (u : Tb), TbIs W u ss rs → Calls Tryd.prog 37 #[u.val] W fun e w' => e = .returned (.int .i64 0) ∧ Below W.heap.size W w') (fun W u hu => by
    have := validI_any u ss rs W hu
    rwa [V0] at this)
  have hlr := (tb_lens h).2
  have hln := (tb_lens h).1
  have hlr2 := (tb_lens k).2
  have hln2 := (tb_lens k).1
  obtain ⟨an, ln, cn, tss, ar, lr, cr, trs⟩ := t
  obtain ⟨bn, ln2, dn, uss, br, lr2, dr, urs⟩ := u
  have e1 : ln2 = ln := hln2.trans hln.symm
  have e2 : lr2 = lr := hlr2.trans hlr.symm
  subst e1 e2
  have e3 : uss = ss := k.ns
  have e4 : tss = ss := h.ns
  subst e3 e4
  have TH := Lib.hid h
  have TK := Lib.hid k
  have GG := Lib.hid g
  have LR := Lib.hid (p := lr2 = rs.length) hlr
  have LN := Lib.hid (p := ln2 = tss.length) hln
  have n64 : ln2 ≤ 64 := by have := g.n64; simp only at hln; omega
  have r4 : lr2 ≤ 4096 := by have := g.r4; simp only at hlr; omega
  have n64I : ¬ (64 : Int) < (ln2 : Int) := by omega
  have KN := Lib.hid (fun (W : World) (b : Below w.heap.size w W) => cloneN_any an ln2 cn tss W (h.nl.later b) h.nn)
  have KCo := Lib.hid (fun (W : World) (b : Below w.heap.size w W) => columnsOf_any bn an ln2 dn ln2 cn tss tss W (k.nl.later b) (h.nl.later b))
  have hwid : ∀ r ∈ rs, r.length = ln2 := fun r hr => by have := g.rw r hr; simp only at hln; omega
  have KRa := Lib.hid (fun d hd => rowOn_get (an := an) (ln := ln2) (cn := cn) (cr := cr) h.rl h.rs hwid d hd)
  have KRb := Lib.hid (fun d hd => rowOn_get (an := bn) (ln := ln2) (cn := dn) (cr := dr) k.rl k.rs hwid d hd)
  have NC := Lib.hid (p := ∀ i, i < ln2 → ∃ x o, bn = some ⟨x, o, none⟩ ∧ x < w.heap.size ∧ w.cell? ⟨x, o + i, none⟩ = some (.string (tss.getD i default))) (fun i hi => by
    rcases k.nl.2.2.2 with z | ⟨x, o, z1, z2, z3⟩
    · simp only at z; omega
    · exact ⟨x, o, z1, z2, z3 i hi⟩)
  have hmk := make_rowsN lr2 (by omega)
  obtain ⟨w1, hw1⟩ : ∃ w1, ((w.alloc (.cells #[.slice an ln2 cn, .slice ar lr2 cr] 25)).alloc (.cells #[.slice bn ln2 dn, .slice br lr2 dr] 25)).alloc (.cells #[.slice none 0 0, .slice none 0 0] 25) = w1 := ⟨_, rfl⟩
  have B0 := Lib.hid (p := Below w.heap.size w w1) (by rw [← hw1]; exact (((Below.refl _ w).alloc (Nat.le_refl _) _).alloc (by simp) _).alloc (by simp; omega) _)
  have CE := Lib.hid (p := ∀ W, Below w1.heap.size w1 W → W.heap[w.heap.size]? = some (.cells #[.slice an ln2 cn, .slice ar lr2 cr] 25) ∧ W.heap[w.heap.size + 1]? = some (.cells #[.slice bn ln2 dn, .slice br lr2 dr] 25) ∧ W.heap[w.heap.size + 1 + 1]? = some (.cells #[.slice none 0 0, .slice none 0 0] 25)) (fun W b => by rw [← hw1] at b; exact three_cells b)
  have S1 := Lib.hid (p := w1.heap.size = w.heap.size + 3) (by rw [← hw1]; simp)
  obtain ⟨wb, hwb⟩ : ∃ wb, w1.alloc (.cells #[.slice an ln2 cn, .slice ar lr2 cr, .slice bn ln2 dn, .slice br lr2 dr] 25) = wb := ⟨_, rfl⟩
  have BB := Lib.hid (p := Below w1.heap.size w1 wb) (by rw [← hwb]; exact (Below.refl _ _).alloc (Nat.le_refl _) _)
  have CL := Lib.hid (p := ∀ W, Below wb.heap.size wb W → W.cell? ⟨w1.heap.size, 0, none⟩ = some (.slice an ln2 cn) ∧ W.cell? ⟨w1.heap.size, 1, none⟩ = some (.slice ar lr2 cr) ∧ W.cell? ⟨w1.heap.size, 2, none⟩ = some (.slice bn ln2 dn) ∧ W.cell? ⟨w1.heap.size, 3, none⟩ = some (.slice br lr2 dr)) (fun W b => by
    have hb : W.heap[w1.heap.size]? = some (.cells #[.slice an ln2 cn, .slice ar lr2 cr, .slice bn ln2 dn, .slice br lr2 dr] 25) := (b.block _ (by rw [← hwb]; simp)).trans (by rw [← hwb]; exact World.alloc_heap_new w1 _)
    refine ⟨?_, ?_, ?_, ?_⟩ <;> rw [Joins.cell_of_block hb] <;> rfl)
  obtain ⟨x0, x1, x2⟩ := CE.out _ (Below.refl _ _)
  obtain ⟨a0, a1, _, _⟩ := box_all2 x0
  obtain ⟨c0, c1, _, _⟩ := box_all2 x1
  clear h k g V0 hlr hln hlr2 hln2 x0 x1 x2 hwid
  show Calls Tryd.prog 26 #[.agg #[.slice an ln2 cn, .slice ar lr2 cr], .agg #[.slice bn ln2 dn, .slice br lr2 dr]] w _
  go_enter Tryd.func26, Tryd.ntmps26
  go_wp2
  go_loopw [21] (fun t ws => (t = .int .i64 0 ∨ t = .int .i64 1 ∨ t = .int .i64 2) ∧ Below wb.heap.size wb ws) (fun t _ => 2 - (intOf t).toNat)
  case atStart => exact ⟨.inl rfl, Below.refl _ _⟩
  case round =>
    rename World => ws
    obtain ⟨ht, hB⟩ := hrel
    have BW := Lib.hid hB
    have EW := Lib.hid (B0.out.trans ((BB.out.trans (hB.mono BB.out.size)).mono B0.out.size))
    obtain ⟨l0, l1, l2, l3⟩ := CL.out _ hB
    clear hB
    rcases ht with rfl | rfl | rfl
    · go_wp2_with (go_at_call 37; refine (KV.out _ ⟨an, ln2, cn, tss, ar, lr2, cr, trs⟩ (TH.out.later (EW.out.trans ((below_al ws _).mono EW.out.size)))).mono ?_; rintro e w2 ⟨rfl, hB⟩; have D2 := Lib.hid ((BW.out.trans ((below_al ws _).mono BW.out.size)).trans (hB.mono (BW.out.trans ((below_al ws _).mono BW.out.size)).size)); clear hB)
      go_roundw
      case rel => exact ⟨.inr (.inl rfl), D2.out⟩
      case measure => simp [intOf]
    · go_wp2_with (go_at_call 37; refine (KV.out _ ⟨bn, ln2, dn, tss, br, lr2, dr, urs⟩ (TK.out.later (EW.out.trans ((below_al ws _).mono EW.out.size)))).mono ?_; rintro e w2 ⟨rfl, hB⟩; have D2 := Lib.hid ((BW.out.trans ((below_al ws _).mono BW.out.size)).trans (hB.mono (BW.out.trans ((below_al ws _).mono BW.out.size)).size)); clear hB)
      go_roundw
      case rel => exact ⟨.inr (.inr rfl), D2.out⟩
      case measure => simp [intOf]
    · have D1 := Lib.hid (BB.out.trans (BW.out.mono BB.out.size))
      obtain ⟨x0, x1, x2⟩ := CE.out _ D1.out
      obtain ⟨y0, y1, _, _⟩ := box_all2 x0
      obtain ⟨y2, y3, _, _⟩ := box_all2 x1
      clear x0 x1 x2 l0 l1 l2 l3 a0 a1 c0 c1
      go_wp2_with (first
        | (go_at_call 39; refine (KN.out _ EW.out).mono ?_; rintro e w4 ⟨b4, m4, d4, rfl, hO, hB⟩; have q4 := (own_len hO).symm; subst q4; have O4 := Lib.hid (own_mono hO EW.out.size); have F4 := Lib.hid (D1.out.trans (hB.mono D1.out.size)); have E4 := Lib.hid (EW.out.trans (hB.mono EW.out.size)); obtain ⟨x0, x1, x2⟩ := CE.out _ F4.out; obtain ⟨z0, z1, _, _⟩ := box_all2 x0; obtain ⟨z2, z3, _, _⟩ := box_all2 x1; clear hO hB x0 x1 x2)
        | (go_at_call 35; refine (KCo.out _ E4.out).mono ?_; rintro e w5 ⟨gc, rfl, hI, hg, hB⟩; have I5 := Lib.hid hI; have O5 := Lib.hid (own_back O4.out hB); have F5 := Lib.hid (F4.out.trans (hB.mono F4.out.size)); have E5 := Lib.hid (E4.out.trans (hB.mono E4.out.size)); obtain ⟨x0, x1, x2⟩ := CE.out _ F5.out; obtain ⟨v0, v1, _, _⟩ := box_all2 x0; obtain ⟨v2, v3, _, _⟩ := box_all2 x1; clear hI hg hB x0 x1 x2))
      have CS := Lib.hid (p := ∀ i, i < ln2 → w5.cell? ⟨gc, i, none⟩ = some (.int .i64 (i : Int))) (fun i hi => by
        have := I5.out.2 i hi
        simp only at this
        rwa [colF_self GG.out.nd (by have := LN.out; omega)] at this)
      go_loopw [9, 43] (fun v t ws => v = .slice b4 ln2 d4 ∧ ∃ i : Nat, i ≤ ln2 ∧ t = .int .i64 (i : Int) ∧ ws = w5) (fun _ t _ => ln2 - (intOf t).toNat)
      case atStart => exact ⟨rfl, 0, Nat.zero_le _, rfl, rfl⟩
      case round =>
        obtain ⟨rfl, i, hi, rfl, rfl⟩ := hrel
        rename World => w5
        by_cases hlt : i < ln2
        · obtain ⟨x, o, rfl, hx, hc⟩ := NC.out i hlt
          have kc : (i : Int) < (ln2 : Int) := by omega
          have cn0 := (E5.out.cell (p := ⟨x, o + i, none⟩) hx).trans hc
          have ci := CS.out i hlt
          have m1 : ¬ (i : Int) = -1 := by omega
          have kw : IntKind.i64.wrap ((i : Int) + 1) = (i : Int) + 1 := by simp [IntKind.wrap, IntKind.bits, IntKind.signed]; omega
          clear hc
          go_wp2
          go_roundw
          case rel => exact ⟨rfl, i + 1, by omega, by go_num, trivial⟩
          case measure => simp [intOf]; omega
        · have ei : ln2 = i := by omega
          subst ei
          have kc : ¬ (ln2 : Int) < (ln2 : Int) := by omega
          obtain ⟨rb, hrb⟩ : ∃ rb, w5.heap.size = rb := ⟨_, rfl⟩
          have M0 := Lib.hid (mkR_new w5 w.heap.size lr2 E5.out.size)
          rw [hrb, List.toArray_replicate] at M0
          have R5 := Lib.hid (p := w5.heap.size ≤ rb) (by omega)
          have A0 := Lib.hid (below_al w5 (.cells (Array.replicate lr2 (.slice none 0 0)) 49))
          go_wp2
          clear hrb
          go_loopw [77] (fun t ws => ∃ (d : Nat) (qs : List Rw), d ≤ lr2 ∧ t = .int .i64 (d : Int) ∧ RowKit.Hid (qs.length = d) ∧ RowKit.Hid (qs.map (·.cs) = rs.take d) ∧ MkR ws w.heap.size rb lr2 qs ∧ Below w5.heap.size w5 ws) (fun t _ => lr2 - (intOf t).toNat)
          case atStart => exact ⟨0, [], Nat.zero_le _, rfl, rfl, by show _ = _; simp, M0.out, A0.out⟩
          case round =>
            rename World => wt
            obtain ⟨d, qs, hd, rfl, hql, hqm, hM, hA⟩ := hrel
            have MM := Lib.hid hM
            have AA := Lib.hid hA
            have QL := Lib.hid hql.out
            have QM := Lib.hid hqm.out
            have ET := Lib.hid (E5.out.trans (hA.mono E5.out.size))
            have FT := Lib.hid (F5.out.trans (hA.mono F5.out.size))
            obtain ⟨x0, x1, x2⟩ := CE.out _ FT.out
            obtain ⟨t0, t1, _, _⟩ := box_all2 x0
            have HB2 := Lib.hid x2
            obtain ⟨t4, t5, t6, t7⟩ := box_all2 x2
            clear hM hA hql hqm x0 x1 x2
            by_cases hdl : d < lr2
            · obtain ⟨ra, rca, RCa, KA⟩ := KRa.out d hdl
              obtain ⟨rq, rcq, RCb, KB⟩ := KRb.out d hdl
              have RA := Lib.hid RCa
              have RQ := Lib.hid RCb
              have HA := Lib.hid KA
              have HQ := Lib.hid KB
              have dc : (d : Int) < (lr2 : Int) := by omega
              have kw : IntKind.i64.wrap ((d : Int) + 1) = (d : Int) + 1 := by simp [IntKind.wrap, IntKind.bits, IntKind.signed]; omega
              obtain ⟨R, hR⟩ : ∃ R, rs.getD d [] = R := ⟨_, rfl⟩
              rw [hR] at RA RQ
              have RL2 := Lib.hid (p := R.length = ln2) RA.out.1
              have ER := Lib.hid (p := R.take ln2 ++ List.replicate (ln2 - ln2) zCl = R) (by rw [Nat.sub_self, List.take_of_length_le (by rw [RL2.out]; omega)]; simp)
              have NXT := Lib.hid (p := ∀ a : Option Addr, (qs ++ [(⟨a, ln2, ln2, R⟩ : Rw)]).map (·.cs) = rs.take (d + 1)) (fun a => by
                have hd2 : d < rs.length := by have := LR.out; omega
                rw [List.map_append, QM.out, List.take_add_one, List.getElem?_eq_getElem hd2]
                refine congrArg (rs.take d ++ ·) ?_
                rw [← hR]
                simp [List.getD, hd2])
              have PM := Lib.hid True.intro
              clear RCa RCb KA KB hR
              go_wp2_with (first
                | (go_at_call 46; have qq := PM; refine (HA.out _ ET.out).mono ?_; rintro e w6 ⟨rfl, hB⟩; have E6 := Lib.hid (ET.out.trans (hB.mono ET.out.size)); have A6 := Lib.hid (AA.out.trans (hB.mono AA.out.size)); have M6 := Lib.hid (MM.out.below hB); clear hB PM qq)
                | (go_at_call 38; refine (newRow_any ra ln2 ln2 rca R _ (RA.out.later E6.out) (by omega)).mono ?_; rintro e w7 ⟨rfl, hw7⟩; rw [ER.out] at hw7; have V7 := Lib.hid (p := Below w6.heap.size w6 w7) (by rw [hw7]; exact below_al _ _); have M7 := Lib.hid (M6.out.below V7.out); have Z7 := Lib.hid (p := w7.heap[w6.heap.size]? = some (.cells (clv R).toArray 53)) (by rw [hw7]; exact World.alloc_heap_new _ _); have P7 := Lib.hid (M6.out.push QL.out hdl V7.out Z7.out E6.out.size RL2.out (Nat.le_refl _)); obtain ⟨k0, k1⟩ := M7.out.cell d QL.out hdl; have A7 := Lib.hid ((A6.out.trans (V7.out.mono A6.out.size)).setCell (p := ⟨rb, d, none⟩) R5.out (.slice (some ⟨w6.heap.size, 0, none⟩) ln2 ln2)); have E7 := Lib.hid (E5.out.trans (A7.out.mono E5.out.size)); obtain ⟨x0, x1, x2⟩ := CE.out _ (F5.out.trans (A7.out.mono F5.out.size)); obtain ⟨s0, s1, _, _⟩ := box_all2 x1; clear hw7 x0 x1 x2)
                | (go_at_call 46; have qq := P7; refine (HQ.out _ E7.out).mono ?_; rintro e w8 ⟨rfl, hB⟩; have P8 := Lib.hid (P7.out.below hB); have A8 := Lib.hid (A7.out.trans (hB.mono A7.out.size)); clear hB qq))
              obtain ⟨z, hz⟩ : ∃ z, w6.heap.size = z := ⟨_, rfl⟩
              rw [hz] at P8
              clear hz s0 s1 k0 k1 t0 t1 t4 t5 t6 t7
              go_loopw [93] (fun t wu => ∃ i : Nat, i ≤ ln2 ∧ t = .int .i64 (i : Int) ∧ MkR wu w.heap.size rb lr2 (qs ++ [⟨some ⟨z, 0, none⟩, ln2, ln2, R⟩]) ∧ Below w5.heap.size w5 wu) (fun t _ => ln2 - (intOf t).toNat)
              case atStart => exact ⟨0, Nat.zero_le _, rfl, P8.out, A8.out⟩
              case round =>
                rename World => wu
                obtain ⟨i, hi, rfl, hP, hA⟩ := hrel
                have PP := Lib.hid hP
                have AU := Lib.hid hA
                have EU := Lib.hid (E5.out.trans (hA.mono E5.out.size))
                clear hP hA
                by_cases hil : i < ln2
                · have iR : i < R.length := by rw [RL2.out]; exact hil
                  obtain ⟨bx, bo, rfl, hbx, hcc⟩ : ∃ bx bo, rq = some ⟨bx, bo, none⟩ ∧ bx < w.heap.size ∧ CC w bx (bo + i * 2) (R.getD i default) := by
                    rcases RQ.out.2.2.2 with q | ⟨b, o, q1, q2, q3⟩
                    · omega
                    · exact ⟨b, o, q1, q2, q3 i hil⟩
                  have hc2 := hcc.later EU.out hbx
                  have kc : (i : Int) < (ln2 : Int) := by omega
                  have kwi : IntKind.i64.wrap ((i : Int) + 1) = (i : Int) + 1 := by simp [IntKind.wrap, IntKind.bits, IntKind.signed]; omega
                  have AG := Lib.hid (fun W (hW : MkR W w.heap.size rb lr2 (qs ++ [⟨some ⟨z, 0, none⟩, ln2, ln2, R⟩])) => hW.again i iR)
                  have ZC := Lib.hid (fun W (hW : MkR W w.heap.size rb lr2 (qs ++ [⟨some ⟨z, 0, none⟩, ln2, ln2, R⟩])) => hW.rowz i iR)
                  clear hcc iR
                  generalize R.getD i default = c at *
                  obtain ⟨ch, cv⟩ := c
                  obtain ⟨d0, d1⟩ := hc2
                  have d1' : wu.cell? ⟨bx, bo + i * 2 + 1, none⟩ = some (.int .i64 cv) := d1
                  have PA := Lib.hid (PP.out.below (below_al wu (.cells #[.bool ch, .int .i64 cv] 53)))
                  have AA2 := Lib.hid (AU.out.alloc AU.out.size (.cells #[.bool ch, .int .i64 cv] 53))
                  cases ch with
                  | false =>
                    go_wp2
                    go_roundw
                    case rel => exact ⟨i + 1, by omega, by go_num, PA.out, AA2.out⟩
                    case measure => simp [intOf]; omega
                  | true =>
                    have SB := Lib.hid (p := ∀ W : World, W.heap = (wu.alloc (.cells #[.bool true, .int .i64 cv] 53)).heap → W.cell? ⟨rb, d, none⟩ = some (.slice (some ⟨z, 0, none⟩) ln2 ln2) ∧ W.cell? ⟨gc, i, none⟩ = some (.int .i64 (i : Int)) ∧ W.cell? ⟨wu.heap.size, 0, none⟩ = some (.bool true) ∧ W.cell? ⟨wu.heap.size, 1, none⟩ = some (.int .i64 cv)) (fun W hW => by
                      have q1 := (PA.out.same hW).last d QL.out
                      have q2 := (AA2.out.cell (p := ⟨gc, i, none⟩) I5.out.1).trans (CS.out i hil)
                      obtain ⟨q3, q4, _, _⟩ := box_all2 (World.alloc_heap_new wu (.cells #[.bool true, .int .i64 cv] 53))
                      unfold World.cell? at q2 q3 q4 ⊢
                      unfold World.cell? at q1
                      rw [hW] at q1 ⊢
                      exact ⟨q1, q2, q3, q4⟩)
                    obtain ⟨⟨zc0, zc1⟩, zf0, zf1⟩ := ZC.out _ PA.out
                    have zc0' : (wu.alloc (.cells #[.bool true, .int .i64 cv] 53)).cell? ⟨z, i * 2, none⟩ = some (.bool true) := zc0
                    have zc1' : (wu.alloc (.cells #[.bool true, .int .i64 cv] 53)).cell? ⟨z, i * 2 + 1, none⟩ = some (.int .i64 cv) := zc1
                    have AGW := Lib.hid (AG.out _ PA.out)
                    clear zc0 zc1
                    obtain ⟨sb0, sb1, sb2, sb3⟩ := SB.out _ rfl
                    go_wp2
                    go_region_held3 (fun w' => w'.cell? ⟨rb, d, none⟩ = some (.slice (some ⟨z, 0, none⟩) ln2 ln2) ∧ w'.cell? ⟨gc, i, none⟩ = some (.int .i64 (i : Int)) ∧ w'.cell? ⟨wu.heap.size, 0, none⟩ = some (.bool true) ∧ w'.cell? ⟨wu.heap.size, 1, none⟩ = some (.int .i64 cv)) (first | exact SB.out _ rfl | exact SB.out _ AGW.out) (fail)
                    go_wp2
                    refine ⟨⟨i + 1, by omega, by go_num, PA.out.same AGW.out, below_eq AA2.out rfl rfl rfl AGW.out⟩, ?_⟩
                    simp [intOf]; omega
                · have ei : ln2 = i := by omega
                  subst ei
                  have kc : ¬ (ln2 : Int) < (ln2 : Int) := by omega
                  go_wp2
                  go_roundw
                  case rel => exact ⟨d + 1, _, by omega, by go_num, by show _ = d + 1; rw [List.length_append, QL.out]; rfl, NXT.out _, PP.out, AU.out⟩
                  case measure => simp [intOf]; omega
            · have ed : lr2 = d := by omega
              subst ed
              have kd : ¬ (lr2 : Int) < (lr2 : Int) := by omega
              go_wp2
              obtain ⟨r0, r1, _, _⟩ := box_all2 (box_set2 (u := .slice b4 ln2 d4) (v := .slice (some ⟨rb, 0, none⟩) lr2 lr2) HB2.out)
              refine bodyPost_ret (v := .tuple #[.agg #[.slice b4 ln2 d4, .slice (some ⟨rb, 0, none⟩) lr2 lr2], .int .i64 0]) (by simp [results, Tryd.results26, go_sem, r0, r1]) rfl ?_
              have g1 := grT_set wt (w.heap.size + 1 + 1) 0 (.slice b4 ln2 d4)
              have g2 := grT_set (wt.setCell ⟨w.heap.size + 1 + 1, 0, none⟩ (.slice b4 ln2 d4)) (w.heap.size + 1 + 1) 1 (.slice (some ⟨rb, 0, none⟩) lr2 lr2)
              have bb := Joins.block_setCell (i := 0) HB2.out (.slice b4 ln2 d4)
              have RO4 := MM.out.own QL.out (by unfold maxLen; omega)
              have RO5 := (RO4.turn HB2.out (by decide) (by decide) g1).turn bb (by decide) (by decide) g2
              have NO4 : wt.ownsRow w.heap.size 9 1 (.slice b4 ln2 d4) tss.length (tss.map Value.string) := by
                have := own_back O5.out AA.out
                rw [← LN.out]
                exact this
              have NO5 := tbox_own (tbox_own NO4 HB2.out (by decide) g1) bb (by decide) g2
              have ERS : qs.map (·.cs) = rs := by
                rw [QM.out, List.take_of_length_le (by rw [LR.out]; omega)]
              have PT := psT_of (ns := tss) NO5 RO5 (by rw [ERS]; exact GG.out) 0 0
              refine ⟨⟨b4, ln2, d4, tss, some ⟨rb, 0, none⟩, lr2, lr2, qs⟩, rfl, ?_, (ET.out.setCell (p := ⟨w.heap.size + 1 + 1, 0, none⟩) (by show _ ≤ w.heap.size + 1 + 1; omega) _).setCell (p := ⟨w.heap.size + 1 + 1, 1, none⟩) (by show _ ≤ w.heap.size + 1 + 1; omega) _⟩
              rw [ERS] at PT
              exact PT
/-- A block below turns. -/
theorem PsT.under {B bx o : Nat} {W : World} {u : Tb} {R : PR} (h : PsT B W u R) (g : Gd R.ns R.rs) (hb : bx < B) (v : Value) : PsT B (W.setCell ⟨bx, o, none⟩ v) u R := by
  have gr := grT_set W bx o v
  have n2 := h.no.kept gr (by
    cases q : (Value.slice u.an u.ln u.cn).ownBlock with
    | none => exact .inl rfl
    | some k => exact .inr (by have := (h.no.lt k q).1; intro e; injection e with e; omega))
  have r2 : RwO (W.setCell ⟨bx, o, none⟩ v) B (.slice u.ar u.lr u.cr) u.rs := by
    refine ⟨h.ro.own.kept gr ?_, fun q hq => ?_, h.ro.nd⟩
    · cases q : (Value.slice u.ar u.lr u.cr).ownBlock with
      | none => exact .inl rfl
      | some k => exact .inr (by have := (h.ro.own.lt k q).1; intro e; injection e with e; omega)
    · obtain ⟨z, z1, z2, z3, z4, z5⟩ := h.ro.ok q hq
      exact ⟨z, z1, z2, z3, z4, (gr.block z (blk_lt z5) (by intro e; injection e with e; omega)).trans z5⟩
  have := psT_of (ns := R.ns) n2 r2 (by rw [h.rs]; exact g) R.pl R.e
  rw [h.rs] at this
  obtain ⟨an, ln, cn, uss, ar, lr, cr, urs⟩ := u
  have e : uss = R.ns := h.ns
  subst e
  exact this
theorem PsT.later {B : Nat} {W W' : World} {u : Tb} {R : PR} (h : PsT B W u R) (b : Below W.heap.size W W') : PsT B W' u R :=
  ⟨h.ok.later b, h.ns, h.rs, own_back h.no b, h.ro.below b⟩
end Go.Proofs.YtglgdfgdfkeogaaDoor

namespace Go.Proofs.YtglgdfgdfkeogaaDoor
open Go.RowKit
set_option linter.unusedVariables false
set_option linter.unusedSimpArgs false

structure MkL (W : World) (B rb m : Nat) (qs : List Rw) (z n : Nat) (r : List Cl) : Prop where
  mr : MkR W B rb m (qs ++ [⟨some ⟨z, 0, none⟩, n, n, r⟩])
  ap : ∀ q ∈ qs, ∀ y, q.a = some ⟨y, 0, none⟩ → y ≠ z
theorem MkL.hz {W : World} {B rb m z n : Nat} {qs : List Rw} {r : List Cl} (h : MkL W B rb m qs z n r) : W.heap[z]? = some (.cells (clv r).toArray 53) ∧ B ≤ z ∧ n = r.length := by
  obtain ⟨z', e1, e2, e3, _, hz⟩ := h.mr.ok _ (List.mem_append.2 (.inr (List.mem_singleton.2 rfl)))
  simp only at e1 hz e3
  injection e1 with e1
  injection e1 with e1
  subst e1
  exact ⟨hz, e2, e3⟩
theorem MkL.below {W W' : World} {B rb m z n : Nat} {qs : List Rw} {r : List Cl} (h : MkL W B rb m qs z n r) (b : Below W.heap.size W W') : MkL W' B rb m qs z n r := ⟨h.mr.below b, h.ap⟩
theorem MkL.same {W W' : World} {B rb m z n : Nat} {qs : List Rw} {r : List Cl} (h : MkL W B rb m qs z n r) (e : W'.heap = W.heap) : MkL W' B rb m qs z n r := ⟨h.mr.same e, h.ap⟩
theorem MkL.new {W V : World} {B rb m k z n : Nat} {qs : List Rw} {r : List Cl} (h : MkR W B rb m qs) (hk : qs.length = k) (hm : k < m) (b : Below W.heap.size W V) (hz : V.heap[z]? = some (.cells (clv r).toArray 53)) (hB : B ≤ z) (hn : r.length = n) (hf : W.heap.size ≤ z) :
    MkL (V.setCell ⟨rb, k, none⟩ (.slice (some ⟨z, 0, none⟩) n n)) B rb m qs z n r := by
  refine ⟨h.push hk hm b hz hB hn hf, fun q hq y e => ?_⟩
  obtain ⟨y', e1, _, _, _, hy⟩ := h.ok q hq
  rw [e1] at e
  injection e with e
  injection e with e
  have := blk_lt hy
  omega
theorem nd_same {qs : List Rw} {a : Option Addr} {n n' c c' : Nat} {r r' : List Cl} (h : (qs ++ [(⟨a, n, c, r⟩ : Rw)]).Pairwise fun p q => p.a ≠ q.a) : (qs ++ [(⟨a, n', c', r'⟩ : Rw)]).Pairwise fun p q => p.a ≠ q.a := by
  obtain ⟨h1, _, h3⟩ := List.pairwise_append.1 h
  refine List.pairwise_append.2 ⟨h1, List.pairwise_singleton _ _, fun p hp x hx => ?_⟩
  rw [List.mem_singleton.1 hx]
  exact h3 p hp (⟨a, n, c, r⟩ : Rw) (List.mem_singleton.2 rfl)
theorem MkL.set {W : World} {B rb m z n : Nat} {qs : List Rw} {r : List Cl} (h : MkL W B rb m qs z n r) (i : Nat) (hi : i < r.length) (c : Cl) :
    MkL ((W.setCell ⟨z, i * 2, none⟩ (.bool c.h)).setCell ⟨z, i * 2 + 1, none⟩ (.int .i64 c.v)) B rb m qs z n (r.set i c) := by
  obtain ⟨hz, hB, hn⟩ := h.hz
  have hb := Joins.block_setCell (i := i * 2 + 1) (Joins.block_setCell (i := i * 2) hz (.bool c.h)) (.int .i64 c.v)
  rw [List.setIfInBounds_toArray, List.setIfInBounds_toArray, clv_set r i _ hi] at hb
  have st : ∀ y, y ≠ z → ((W.setCell ⟨z, i * 2, none⟩ (.bool c.h)).setCell ⟨z, i * 2 + 1, none⟩ (.int .i64 c.v)).heap[y]? = W.heap[y]? := fun y hy => by
    have q' : ¬ z = y := fun e => hy e.symm
    simp [World.setCell, Array.getElem?_modify, q']
  have nr : rb ≠ z := fun e => blk_ty hz h.mr.hb (by decide) e.symm
  refine ⟨⟨(st rb nr).trans (h.mr.hb.trans ?_), by have := h.mr.le; simpa using this, fun q hq => ?_, h.mr.bl, nd_same h.mr.nd⟩, h.ap⟩
  · simp [qv]
  · rcases List.mem_append.1 hq with hq' | hq'
    · obtain ⟨y, e1, e2, e3, e4, e5⟩ := h.mr.ok q (List.mem_append.2 (.inl hq'))
      exact ⟨y, e1, e2, e3, e4, (st y (h.ap q hq' y e1)).trans e5⟩
    · rw [List.mem_singleton.1 hq']
      exact ⟨z, rfl, hB, by simpa using hn, by simpa using hn, hb⟩
theorem MkL.rowz {W : World} {B rb m z n : Nat} {qs : List Rw} {r : List Cl} (h : MkL W B rb m qs z n r) (i : Nat) (hi : i < r.length) : CC W z (i * 2) (r.getD i default) ∧ W.frozen? ⟨z, i * 2, none⟩ = false ∧ W.frozen? ⟨z, i * 2 + 1, none⟩ = false := h.mr.rowz i hi
theorem MkL.last {W : World} {B rb m z n : Nat} {qs : List Rw} {r : List Cl} (h : MkL W B rb m qs z n r) (k : Nat) (hk : qs.length = k) : W.cell? ⟨rb, k, none⟩ = some (.slice (some ⟨z, 0, none⟩) n n) := h.mr.last k hk
end Go.Proofs.YtglgdfgdfkeogaaDoor

namespace Go.Proofs.YtglgdfgdfkeogaaDoor
open Go.RowKit
set_option linter.unusedVariables false
set_option linter.unusedSimpArgs false

/-- What is wrong with a table or with names that are asked of it. -/
def bindE (ss : List ByteArray) (rs : List (List Cl)) (ns : List ByteArray) : Int := if validE ss rs = 0 then (if ns.all nameB then 0 else 52) else validE ss rs
set_option maxHeartbeats 1000000 in
theorem validWith_any (t : Tb) (ss : List ByteArray) (rs : List (List Cl)) (a : Option Addr) (n c : Nat) (ns : List ByteArray) (w : World) (h : TbIs w t ss rs) (k : NL w a n ns) :
    Calls Tryd.prog 34 #[t.val, .slice a n c] w fun e w' => e = .returned (.int .i64 (bindE ss rs ns)) ∧ Below w.heap.size w w' := by
  have KV := Lib.hid (fun (W : World) (b : Below w.heap.size w W) => validI_any t ss rs W (h.later b))
  have KA := Lib.hid (fun (W : World) (b : Below w.heap.size w W) => areCap_any a n c ns W (k.later b))
  obtain ⟨an, ln, cn, tss, ar, lr, cr, trs⟩ := t
  have B0 := Lib.hid (below_al w (.cells #[.slice an ln cn, .slice ar lr cr] 25))
  obtain ⟨c0, c1, _, _⟩ := box_all2 (World.alloc_heap_new w (.cells #[.slice an ln cn, .slice ar lr cr] 25))
  obtain ⟨E, hE⟩ : ∃ E, bindE ss rs ns = E := ⟨_, rfl⟩
  rw [hE]
  obtain ⟨V, hV⟩ : ∃ V, validE ss rs = V := ⟨_, rfl⟩
  unfold bindE at hE
  rw [hV] at KV hE
  clear h k hV
  show Calls Tryd.prog 34 #[.agg #[.slice an ln cn, .slice ar lr cr], .slice a n c] w _
  by_cases h0 : V = 0
  · subst h0
    rw [if_pos rfl] at hE
    cases hb : ns.all nameB with
    | true =>
      rw [hb] at KA hE
      have e0 : E = 0 := by rw [← hE]; rfl
      subst e0
      clear hE hb
      go_enter Tryd.func34, Tryd.ntmps34
      go_wp2_with (first
        | (go_at_call 37; refine (KV.out _ B0.out).mono ?_; rintro e w2 ⟨rfl, hB⟩; have E2 := Lib.hid (B0.out.trans (hB.mono B0.out.size)); clear hB)
        | (go_at_call 48; refine (KA.out _ E2.out).mono ?_; rintro e w3 ⟨rfl, rfl⟩))
      go_ret
      exact ⟨rfl, E2.out⟩
    | false =>
      rw [hb] at KA hE
      have e0 : E = 52 := by rw [← hE]; rfl
      subst e0
      clear hE hb
      go_enter Tryd.func34, Tryd.ntmps34
      go_wp2_with (first
        | (go_at_call 37; refine (KV.out _ B0.out).mono ?_; rintro e w2 ⟨rfl, hB⟩; have E2 := Lib.hid (B0.out.trans (hB.mono B0.out.size)); clear hB)
        | (go_at_call 48; refine (KA.out _ E2.out).mono ?_; rintro e w3 ⟨rfl, rfl⟩))
      go_ret
      exact ⟨rfl, E2.out⟩
  · rw [if_neg h0] at hE
    subst hE
    have v0 : (V == 0) = false := by rw [beq_eq_false_iff_ne]; exact h0
    go_enter Tryd.func34, Tryd.ntmps34
    go_wp2_with (first
      | (go_at_call 37; refine (KV.out _ B0.out).mono ?_; rintro e w2 ⟨rfl, hB⟩; have E2 := Lib.hid (B0.out.trans (hB.mono B0.out.size)); clear hB))
    go_ret
    exact ⟨rfl, E2.out⟩
/-- The rows by other names. -/
def bndR (ss : List ByteArray) (rs : List (List Cl)) (ns : List ByteArray) : List (List Cl) := rs.map fun r => ns.map fun s => atC r (colF ss s 0)
def BndE (ss : List ByteArray) (rs : List (List Cl)) (ns : List ByteArray) (w : World) (e : Ending) (w' : World) : Prop :=
  ∃ a n c, e = .returned (.tuple #[.slice a n c, .int .i64 (bindE ss rs ns)]) ∧ ∃ qs, RwO w' w.heap.size (.slice a n c) qs ∧ qs.map (·.cs) = (if bindE ss rs ns = 0 then bndR ss rs ns else []) ∧ Below w.heap.size w w'
theorem bind_ok {ss : List ByteArray} {rs : List (List Cl)} {ns : List ByteArray} (h : bindE ss rs ns = 0) : validE ss rs = 0 ∧ ns.all nameB = true := by
  unfold bindE at h
  by_cases q : validE ss rs = 0
  · rw [if_pos q] at h
    refine ⟨q, ?_⟩
    cases hb : ns.all nameB with
    | true => rfl
    | false => rw [hb] at h; exact absurd h (by decide)
  · rw [if_neg q] at h; exact absurd h q

theorem lay_next {f : ByteArray → Cl} {ns : List ByteArray} {i n : Nat} (hi : i < n) (hn : ns.length = n) : ((ns.take i).map f ++ List.replicate (n - i) zCl).set i (f (ns.getD i default)) = (ns.take (i + 1)).map f ++ List.replicate (n - (i + 1)) zCl := by
  have hl : ((ns.take i).map f).length = i := by simp; omega
  have hi' : i < ns.length := by omega
  have e : ns.getD i default = ns[i] := by simp [List.getD, hi']
  rw [e, List.set_append_right _ _ (by omega), hl, Nat.sub_self, show n - i = (n - (i + 1)) + 1 by omega, List.replicate_succ, List.set_cons_zero, List.take_add_one, List.getElem?_eq_getElem hi', List.map_append]
  simp only [Option.toList_some, List.map_cons, List.map_nil, List.append_assoc, List.cons_append, List.nil_append]
theorem lay_len {f : ByteArray → Cl} {ns : List ByteArray} {i n : Nat} (hi : i ≤ n) (hn : ns.length = n) : ((ns.take i).map f ++ List.replicate (n - i) zCl).length = n := by simp; omega
set_option maxRecDepth 100000 in
set_option maxHeartbeats 8000000 in
theorem bind_any (t : Tb) (ss : List ByteArray) (rs : List (List Cl)) (a : Option Addr) (n c : Nat) (ns : List ByteArray) (w : World) (h : TbIs w t ss rs) (k : NL w a n ns) (hn : n ≤ 4398046511100) :
    Calls Tryd.prog 14 #[t.val, .slice a n c] w fun e w' => BndE ss rs ns w e w' := by
  obtain ⟨E, hE⟩ : ∃ E, bindE ss rs ns = E := ⟨_, rfl⟩
  unfold BndE
  have KV := Lib.hid (fun (W : World) (b : Below w.heap.size w W) => validWith_any t ss rs a n c ns W (h.later b) (k.later b))
  rw [hE] at KV ⊢
  obtain ⟨RR, hRR⟩ : ∃ RR, (if E = 0 then bndR ss rs ns else []) = RR := ⟨_, rfl⟩
  rw [hRR]
  have HRR := Lib.hid hRR
  clear hRR
  have hlr := (tb_lens h).2
  have hln := (tb_lens h).1
  obtain ⟨an, ln, cn, tss, ar, lr, cr, trs⟩ := t
  have B0 := Lib.hid (below_al w (.cells #[.slice an ln cn, .slice ar lr cr] 25))
  have HB0 := Lib.hid (World.alloc_heap_new w (.cells #[.slice an ln cn, .slice ar lr cr] 25))
  obtain ⟨w1, hw1⟩ : ∃ w1, w.alloc (.cells #[.slice an ln cn, .slice ar lr cr] 25) = w1 := ⟨_, rfl⟩
  rw [hw1] at B0 HB0
  obtain ⟨c0, c1, _, _⟩ := box_all2 HB0.out
  have CE := Lib.hid (p := ∀ W, Below w1.heap.size w1 W → W.cell? ⟨w.heap.size, 0, none⟩ = some (.slice an ln cn) ∧ W.cell? ⟨w.heap.size, 1, none⟩ = some (.slice ar lr cr)) (fun W b => by
    obtain ⟨q0, q1, _, _⟩ := box_all2 ((b.block _ (blk_lt HB0.out)).trans HB0.out)
    exact ⟨q0, q1⟩)
  show Calls Tryd.prog 14 #[.agg #[.slice an ln cn, .slice ar lr cr], .slice a n c] w _
  by_cases h0 : E = 0
  · subst h0
    obtain ⟨v0, v1⟩ := bind_ok hE
    obtain ⟨g1, g2, g3, g4⟩ := valid_out v0
    have hl4 : lr ≤ 4096 := by simp only at hlr; omega
    have hmk := make_rowsN lr (by omega)
    have hmc := make_cellsN n hn
    have KC := Lib.hid (fun (W : World) (b : Below w.heap.size w W) => columnsOf_any a an n c ln cn ns tss W (k.later b) (h.nl.later b))
    have TH := Lib.hid h
    have NSL := Lib.hid (p := ns.length = n) k.1
    have TS := Lib.hid (p := tss = ss) h.ns
    have LRL := Lib.hid (p := lr = rs.length) hlr
    have GET := Lib.hid (p := ∀ d, d < lr → ∃ x o ra rn rc, ar = some ⟨x, o, none⟩ ∧ x < w.heap.size ∧ w.cell? ⟨x, o + d, none⟩ = some (.slice ra rn rc) ∧ RC w ra rn (rs.getD d [])) (fun d hd => by
      have hd' : d < trs.length := by rw [h.rl.1]; exact hd
      have em : trs.getD d default = trs[d] := by simp [List.getD, hd']
      have e2 : (trs.getD d default).cs = rs.getD d [] := by
        rw [em, ← h.rs]
        simp [List.getD, hd']
      have mem : trs.getD d default ∈ trs := by rw [em]; exact List.getElem_mem hd'
      rcases h.rl.2.2.2 with z | ⟨x, o, z1, z2, z3⟩
      · simp only at z; omega
      · exact ⟨x, o, _, _, _, z1, z2, z3 d hd, by rw [← e2]; exact (h.rl.2.2.1 _ mem).1⟩)
    clear h hE hlr hln g1 g2 g3 g4 v0 v1 k
    go_enter Tryd.func14, Tryd.ntmps14
    go_wp2_with (first
      | (go_at_call 34; refine (KV.out _ B0.out).mono ?_; rintro e w2 ⟨rfl, hB⟩; have E2 := Lib.hid (B0.out.trans (hB.mono B0.out.size)); have D2 := Lib.hid hB; obtain ⟨x0, x1⟩ := CE.out _ hB; clear hB)
      | (go_at_call 35; refine (KC.out _ E2.out).mono ?_; rintro e w3 ⟨gc, rfl, hI, hg, hB⟩; have E3 := Lib.hid (E2.out.trans (hB.mono E2.out.size)); have D3 := Lib.hid (D2.out.trans (hB.mono D2.out.size)); have I3 := Lib.hid hI; obtain ⟨y0, y1⟩ := CE.out _ D3.out; obtain ⟨y2, y3⟩ := CE.out _ (D3.out.trans ((below_al w3 (.cells (Array.replicate lr (.slice none 0 0)) 49)).mono D3.out.size)); clear hI hg hB))
    obtain ⟨rb, hrb⟩ : ∃ rb, w3.heap.size = rb := ⟨_, rfl⟩
    have M0 := Lib.hid (mkR_new w3 w.heap.size lr E3.out.size)
    rw [hrb, List.toArray_replicate] at M0
    have R3 := Lib.hid (p := w3.heap.size ≤ rb) (by omega)
    have A0 := Lib.hid (below_al w3 (.cells (Array.replicate lr (.slice none 0 0)) 49))
    have BL := Lib.hid (p := (bndR ss rs ns).length = lr) (by unfold bndR; rw [List.length_map]; exact LRL.out.symm)
    have MC := Lib.hid (p := madeCells #[Value.bool false, .int .i64 0] (n * 2) = (clv (List.replicate n zCl)).toArray) (Array.ext' (by rw [made_clv]))
    try rw [hrb]
    clear hrb x0 x1 y0 y1 y2 y3 c0 c1
    go_loopw [30] (fun t ws => ∃ (d : Nat) (qs : List Rw), d ≤ lr ∧ t = .int .i64 (d : Int) ∧ RowKit.Hid (qs.length = d) ∧ RowKit.Hid (qs.map (·.cs) = (bndR ss rs ns).take d) ∧ MkR ws w.heap.size rb lr qs ∧ Below w3.heap.size w3 ws) (fun t _ => lr - (intOf t).toNat)
    case atStart => exact ⟨0, [], Nat.zero_le _, rfl, rfl, by show _ = _; simp, M0.out, A0.out⟩
    case round =>
      rename World => wt
      obtain ⟨d, qs, hd, rfl, hql, hqm, hM, hA⟩ := hrel
      have MM := Lib.hid hM
      have AA := Lib.hid hA
      have QL := Lib.hid hql.out
      have QM := Lib.hid hqm.out
      have ET := Lib.hid (E3.out.trans (hA.mono E3.out.size))
      obtain ⟨t0, t1⟩ := CE.out _ (D3.out.trans (hA.mono D3.out.size))
      clear hM hA hql hqm
      by_cases hdl : d < lr
      · obtain ⟨x, o, ra, rn, rc, rfl, hx, hcx, RCx⟩ := GET.out d hdl
        have cr0 := (ET.out.cell (p := ⟨x, o + d, none⟩) hx).trans hcx
        have dc : (d : Int) < (lr : Int) := by omega
        have kw : IntKind.i64.wrap ((d : Int) + 1) = (d : Int) + 1 := by simp [IntKind.wrap, IntKind.bits, IntKind.signed]; omega
        obtain ⟨R, hR⟩ : ∃ R, rs.getD d [] = R := ⟨_, rfl⟩
        rw [hR] at RCx
        have RA := Lib.hid RCx
        obtain ⟨f, hf⟩ : ∃ f : ByteArray → Cl, (fun s => atC R (colF tss s 0)) = f := ⟨_, rfl⟩
        have HF := Lib.hid (p := ∀ s, f s = atC R (colF tss s 0)) (fun s => by rw [← hf])
        have NXT := Lib.hid (p := ∀ q : Option Addr, (qs ++ [(⟨q, n, n, (ns.take n).map f ++ List.replicate (n - n) zCl⟩ : Rw)]).map (·.cs) = (bndR ss rs ns).take (d + 1)) (fun q => by
          have hd2 : d < rs.length := by have := LRL.out; omega
          rw [List.map_append, QM.out, List.take_add_one, List.getElem?_eq_getElem (by rw [BL.out]; exact hdl)]
          refine congrArg ((bndR ss rs ns).take d ++ ·) ?_
          have e1 : rs[d] = R := by rw [← hR]; simp [List.getD, hd2]
          unfold bndR
          rw [List.take_of_length_le (by rw [NSL.out]; omega), Nat.sub_self, List.replicate_zero, List.append_nil, List.getElem_map, e1, ← hf, TS.out]
          rfl)
        have V1 := Lib.hid (below_al wt (.cells (madeCells #[Value.bool false, .int .i64 0] (n * 2)) 53))
        have L1 := Lib.hid (MkL.new (n := n) (z := wt.heap.size) (r := (ns.take 0).map f ++ List.replicate (n - 0) zCl) MM.out QL.out hdl V1.out (by rw [World.alloc_heap_new, MC.out]; rfl) ET.out.size (by simp) (Nat.le_refl _))
        obtain ⟨k0, k1⟩ := (MM.out.below V1.out).cell d QL.out hdl
        have A1 := Lib.hid ((AA.out.trans (V1.out.mono AA.out.size)).setCell (p := ⟨rb, d, none⟩) R3.out (.slice (some ⟨wt.heap.size, 0, none⟩) n n))
        have Z3 := Lib.hid (p := w3.heap.size ≤ wt.heap.size) AA.out.size
        clear RCx hcx hR hf
        go_wp2
        obtain ⟨z, hz⟩ : ∃ z, wt.heap.size = z := ⟨_, rfl⟩
        rw [hz] at L1 A1 Z3
        try rw [hz]
        clear hz k0 k1 t0 t1 cr0
        go_loopw [43] (fun t wu => ∃ i : Nat, i ≤ n ∧ t = .int .i64 (i : Int) ∧ MkL wu w.heap.size rb lr qs z n ((ns.take i).map f ++ List.replicate (n - i) zCl) ∧ Below w3.heap.size w3 wu) (fun t _ => n - (intOf t).toNat)
        case atStart => exact ⟨0, Nat.zero_le _, rfl, L1.out, A1.out⟩
        case round =>
          rename World => wu
          obtain ⟨i, hi, rfl, hL, hA⟩ := hrel
          have LL := Lib.hid hL
          have AU := Lib.hid hA
          have EU := Lib.hid (E3.out.trans (hA.mono E3.out.size))
          clear hL hA
          by_cases hil : i < n
          · have kc : (i : Int) < (n : Int) := by omega
            have kwi : IntKind.i64.wrap ((i : Int) + 1) = (i : Int) + 1 := by simp [IntKind.wrap, IntKind.bits, IntKind.signed]; omega
            have ci := (AU.out.cell (p := ⟨gc, i, none⟩) I3.out.1).trans (I3.out.2 i hil)
            have STEP := Lib.hid (lay_next (f := f) hil NSL.out)
            have LEN := Lib.hid (lay_len (f := f) (i := i) (by omega) NSL.out)
            have CLO := Lib.hid (col_lo tss (ns.getD i default)).1
            rw [HF.out] at STEP
            simp only at ci
            generalize colF tss (ns.getD i default) 0 = C at ci STEP CLO
            have KI := Lib.hid (fun (W : World) (b : Below w.heap.size w W) => cellIn_any ra rn rc R C W (RA.out.later b) CLO.out)
            generalize atC R C = cc at STEP KI
            obtain ⟨ch, cv⟩ := cc
            have SB := Lib.hid (p := ∀ (W : World), Below wu.heap.size wu W → W.cell? ⟨rb, d, none⟩ = some (.slice (some ⟨z, 0, none⟩) n n)) (fun W b => (LL.out.below b).last d QL.out)
            have ed := Lib.hid (EU.out.drew)
            have l0 := LL.out.last d QL.out
            go_wp2
            go_region_held3 (fun w' => w'.cell? ⟨rb, d, none⟩ = some (.slice (some ⟨z, 0, none⟩) n n)) (first | exact SB.out _ (Below.refl _ _) | exact SB.out _ (Below.refl _ _).drew | exact L9.out.last d QL.out | exact S9.out.last d QL.out) (first | (go_at_call 36; refine (KI.out _ ed.out).mono ?_; rintro e w9 ⟨rfl, hB⟩; have L9 := Lib.hid (p := MkL w9 w.heap.size rb lr qs z n ((ns.take i).map f ++ List.replicate (n - i) zCl)) ((LL.out.below (Below.refl _ _).drew).below hB); have A9 := Lib.hid ((AU.out.drew).trans (hB.mono AU.out.drew.size)); have S9 := Lib.hid (L9.out.set i (by rw [LEN.out]; exact hil) ⟨ch, cv⟩); obtain ⟨⟨zc0, zc1⟩, zf0, zf1⟩ := L9.out.rowz i (by rw [LEN.out]; exact hil); have l9 := L9.out.last d QL.out; clear hB))
            all_goals
              go_wp2
              refine ⟨⟨i + 1, by omega, by go_num, by rw [← STEP.out]; exact S9.out, (A9.out.setCell (p := ⟨z, _, none⟩) Z3.out _).setCell (p := ⟨z, _, none⟩) Z3.out _⟩, ?_⟩
              simp [intOf]; omega
          · have ei : n = i := by omega
            subst ei
            have kc : ¬ (n : Int) < (n : Int) := by omega
            go_wp2
            go_roundw
            case rel => exact ⟨d + 1, _, by omega, by go_num, by show _ = d + 1; rw [List.length_append, QL.out]; rfl, NXT.out _, LL.out.mr, AU.out⟩
            case measure => simp [intOf]; omega
      · have ed : lr = d := by omega
        subst ed
        have kd : ¬ (lr : Int) < (lr : Int) := by omega
        have FIN := Lib.hid (p := qs.map (·.cs) = RR) (by rw [QM.out, ← HRR.out, List.take_of_length_le (by rw [BL.out]; omega)]; simp)
        go_wp2
        go_ret2
        exact ⟨some ⟨rb, 0, none⟩, lr, lr, rfl, qs, MM.out.own QL.out (by unfold maxLen; omega), FIN.out, ET.out⟩
  · have v0 : (E == 0) = false := by rw [beq_eq_false_iff_ne]; exact h0
    have Q := Lib.hid (p := ∀ w', Below w.heap.size w w' → ∃ a n c, Ending.returned (.tuple #[.slice none 0 0, .int .i64 E]) = .returned (.tuple #[.slice a n c, .int .i64 E]) ∧ ∃ qs, RwO w' w.heap.size (.slice a n c) qs ∧ qs.map (·.cs) = RR ∧ Below w.heap.size w w') (fun w' b => ⟨none, 0, 0, rfl, [], rwO_nil _ _, by rw [← HRR.out, if_neg h0]; rfl, b⟩)
    clear h hE hlr hln k
    go_enter Tryd.func14, Tryd.ntmps14
    go_wp2_with (go_at_call 34; refine (KV.out _ B0.out).mono ?_; rintro e w2 ⟨rfl, hB⟩; have E2 := Lib.hid (B0.out.trans (hB.mono B0.out.size)); clear hB)
    go_ret2
    exact Q.out _ E2.out
end Go.Proofs.YtglgdfgdfkeogaaDoor
