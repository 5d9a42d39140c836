import Derived.Test.YtknlpadoladpfaaGreatDoorXAN
import Derived.Test.YtknlpadoladpfaaGreatDoorXAO
import Derived.Test.YtknlpadoladpfaaGreatDoorXAM
namespace Go.Proofs.YtknlpadoladpfaaGreatDoor
open Go.RowKit
set_option linter.unusedVariables false
set_option linter.unusedSimpArgs false

theorem colF_self {ss : List ByteArray} (h : ss.Nodup) {i : Nat} (hi : i < ss.length) : colF ss (ss.getD i default) 0 = (i : Int) := by
  rcases colF_col ss (ss.getD i default) with ⟨_, c⟩ | ⟨j, c1, c2, c3, c4⟩
  · exact absurd rfl (c i hi)
  · rw [c1]
    have e : j = i := by
      rw [List.nodup_iff_pairwise_ne, List.pairwise_iff_getElem] at h
      rcases Nat.lt_trichotomy j i with q | q | q
      · refine absurd ?_ (h j i c2 hi q)
        simp [List.getD, c2, hi] at c3
        exact c3
      · exact q
      · exact absurd rfl (c4 i q)
    rw [e]
theorem three_cells {w W : World} {a b c : Obj} (h : Below (((w.alloc a).alloc b).alloc c).heap.size (((w.alloc a).alloc b).alloc c) W) : W.heap[w.heap.size]? = some a ∧ W.heap[w.heap.size + 1]? = some b ∧ W.heap[w.heap.size + 1 + 1]? = some c := by
  have e : ∀ k, k < 3 → W.heap[w.heap.size + k]? = [a, b, c][k]? := fun k hk => by
    rw [h.block _ (by simp; omega)]
    exact als_blk w [a, b, c] k
  exact ⟨e 0 (by omega), e 1 (by omega), e 2 (by omega)⟩
theorem MkR.last {W : World} {B rb m : Nat} {qs : List Rw} {q : Rw} (h : MkR W B rb m (qs ++ [q])) (k : Nat) (hk : qs.length = k) : W.cell? ⟨rb, k, none⟩ = some (qv q) := by
  rw [Joins.cell_of_block h.hb]
  subst hk
  rw [List.getElem?_toArray, List.getElem?_append_left (by simp), List.getElem?_map, List.getElem?_append_right (Nat.le_refl _), Nat.sub_self]
  rfl
/-- A cell of the last row is written with what it holds. -/
theorem MkR.again {W : World} {B rb m z n : Nat} {qs : List Rw} {r : List Cl} (h : MkR W B rb m (qs ++ [⟨some ⟨z, 0, none⟩, n, n, r⟩])) (i : Nat) (hi : i < r.length) :
    ((W.setCell ⟨z, i * 2, none⟩ (.bool (r.getD i default).h)).setCell ⟨z, i * 2 + 1, none⟩ (.int .i64 (r.getD i default).v)).heap = W.heap := by
  obtain ⟨z', e1, _, _, _, hz⟩ := h.ok _ (List.mem_append.2 (.inr (List.mem_singleton.2 rfl)))
  simp only at e1 hz
  injection e1 with e1
  injection e1 with e1
  subst e1
  have hb := Joins.block_setCell (i := i * 2 + 1) (Joins.block_setCell (i := i * 2) hz (.bool (r.getD i default).h)) (.int .i64 (r.getD i default).v)
  have er : r.set i (r.getD i default) = r := by
    apply List.ext_getElem?
    intro j
    rw [List.getElem?_set]
    split
    · rename_i q
      subst q
      simp [hi]
    · rfl
  rw [List.setIfInBounds_toArray, List.setIfInBounds_toArray, clv_set r i _ hi, er] at hb
  apply Array.ext_getElem?
  intro j
  by_cases q : j = z
  · subst q
    rw [hb, hz]
  · have q' : ¬ z = j := fun e => q e.symm
    simp [World.setCell, Array.getElem?_modify, q']
theorem MkR.same {W W' : World} {B rb m : Nat} {qs : List Rw} (h : MkR W B rb m qs) (e : W'.heap = W.heap) : MkR W' B rb m qs :=
  ⟨by rw [e]; exact h.hb, h.le, fun q hq => (h.ok q hq).stay (fun z cs hz => by rw [e]), h.bl⟩
theorem MkR.rowz {W : World} {B rb m z n : Nat} {qs : List Rw} {r : List Cl} (h : MkR W B rb m (qs ++ [⟨some ⟨z, 0, none⟩, n, n, r⟩])) (i : Nat) (hi : i < r.length) : CC W z (i * 2) (r.getD i default) ∧ W.frozen? ⟨z, i * 2, none⟩ = false ∧ W.frozen? ⟨z, i * 2 + 1, none⟩ = false := by
  obtain ⟨z', e1, _, _, _, hz⟩ := h.ok _ (List.mem_append.2 (.inr (List.mem_singleton.2 rfl)))
  simp only at e1 hz
  injection e1 with e1
  injection e1 with e1
  subst e1
  refine ⟨⟨?_, ?_⟩, Joins.unfrozen_of_block hz _, Joins.unfrozen_of_block hz _⟩
  · have := clv_at r i hi 0 (by omega)
    rw [Joins.cell_of_block hz]
    simpa [Cl.two] using this
  · have := clv_at r i hi 1 (by omega)
    rw [Joins.cell_of_block hz]
    simpa [Cl.two] using this
theorem own_len {w : World} {B n m c s : Nat} {E : TypeId} {a : Option Addr} {xs : List Value} (h : w.ownsRow B E s (.slice a m c) n xs) : m = n := by
  rcases h.2 with ⟨e, e0⟩ | ⟨g, cap, cur, e, _⟩
  · injection e with _ e _
    omega
  · injection e with _ e _
set_option maxHeartbeats 2000000 in
theorem rowOn_at (an ar : Option Addr) (ln cn lr cr d : Nat) (rs : List Rw) (w : World) (k : RL w ar lr rs) (hlt : d < lr) :
    Calls Tryz.prog 27 #[.agg #[.slice an ln cn, .slice ar lr cr], .int .i64 (d : Int)] w fun e w' => e = .returned (.slice (rs.getD d default).a (rs.getD d default).n (rs.getD d default).cap) ∧ Below w.heap.size w w' := by
  have hB0 : Below w.heap.size w (w.alloc (.cells #[.slice an ln cn, .slice ar lr cr] 25)) := (Below.refl _ w).alloc (Nat.le_refl _) _
  obtain ⟨x, o, rfl, hx, hcs⟩ : ∃ x o, ar = some ⟨x, o, none⟩ ∧ x < w.heap.size ∧ ∀ i, i < lr → w.cell? ⟨x, o + i, none⟩ = some (.slice (rs.getD i default).a (rs.getD i default).n (rs.getD i default).cap) := by
    rcases k.2.2.2 with h0 | h0
    · omega
    · exact h0
  have c0 := (hB0.cell (p := ⟨x, o + d, none⟩) hx).trans (hcs d hlt)
  have dc : (d : Int) < (lr : Int) := by omega
  have B0 := Lib.hid hB0
  clear hcs k hB0
  generalize rs.getD d default = r at *
  go_enter Tryz.func27, Tryz.ntmps27
  go_wp2
  go_ret
  exact ⟨rfl, B0.out⟩
/-- The row of a day, wherever it is asked for. -/
theorem rowOn_get {w : World} {an ar : Option Addr} {ln cn lr cr : Nat} {trs : List Rw} {rs : List (List Cl)} (k : RL w ar lr trs) (hrs : trs.map (·.cs) = rs) {n : Nat} (hn : ∀ r ∈ rs, r.length = n) (d : Nat) (hd : d < lr) :
    ∃ ra rc, RC w ra n (rs.getD d []) ∧ ∀ W, Below w.heap.size w W → Calls Tryz.prog 27 #[.agg #[.slice an ln cn, .slice ar lr cr], .int .i64 (d : Int)] W fun e w' => e = .returned (.slice ra n rc) ∧ Below W.heap.size W w' := by
  have hd' : d < trs.length := by rw [k.1]; exact hd
  have em : trs.getD d default = trs[d] := by simp [List.getD, hd']
  have mem : trs.getD d default ∈ trs := by rw [em]; exact List.getElem_mem hd'
  have e2 : (trs.getD d default).cs = rs.getD d [] := by rw [em, ← hrs]; simp [List.getD, hd']
  have hm : rs.getD d [] ∈ rs := by rw [← e2, ← hrs]; exact List.mem_map.2 ⟨_, mem, rfl⟩
  have e3 : (trs.getD d default).n = n := by rw [← (k.2.2.1 _ mem).1.1, e2]; exact hn _ hm
  refine ⟨(trs.getD d default).a, (trs.getD d default).cap, ?_, fun W b => ?_⟩
  · have := (k.2.2.1 _ mem).1
    rwa [e2, e3] at this
  · have := rowOn_at an ar ln cn lr cr d trs W (k.later b) hd
    rwa [e3] at this
set_option maxRecDepth 100000 in
set_option maxHeartbeats 8000000 in
theorem overlaySame_any (t u : Tb) (ss : List ByteArray) (rs : List (List Cl)) (w : World) (h : TbIs w t ss rs) (k : TbIs w u ss rs) (g : Gd ss rs) :
    Calls Tryz.prog 12 #[t.val, u.val] w fun e w' => ∃ u : Tb, e = .returned (.tuple #[u.val, .int .i64 0]) ∧ PsT w.heap.size w' u ⟨0, 0, ss, rs⟩ ∧ Below w.heap.size w w' := by
  have V0 := valid_gd g
  have KV := Lib.hid (p := ∀ (W : World) (u : Tb), TbIs W u ss rs → Calls Tryz.prog 10 #[u.val] W fun e w' => e = .returned (.int .i64 0) ∧ Below W.heap.size W w') (fun W u hu => by
    have := validI_any u ss rs W hu
    rwa [V0] at this)
  have hlr := (tb_lens h).2
  have hln := (tb_lens h).1
  have hlr2 := (tb_lens k).2
  have hln2 := (tb_lens k).1
  obtain ⟨an, ln, cn, tss, ar, lr, cr, trs⟩ := t
  obtain ⟨bn, ln2, dn, uss, br, lr2, dr, urs⟩ := u
  have e1 : ln2 = ln := hln2.trans hln.symm
  have e2 : lr2 = lr := hlr2.trans hlr.symm
  subst e1 e2
  have e3 : uss = ss := k.ns
  have e4 : tss = ss := h.ns
  subst e3 e4
  have TH := Lib.hid h
  have TK := Lib.hid k
  have GG := Lib.hid g
  have LR := Lib.hid (p := lr2 = rs.length) hlr
  have LN := Lib.hid (p := ln2 = tss.length) hln
  have n64 : ln2 ≤ 64 := by have := g.n64; simp only at hln; omega
  have r4 : lr2 ≤ 4096 := by have := g.r4; simp only at hlr; omega
  have n64I : ¬ (64 : Int) < (ln2 : Int) := by omega
  have KN := Lib.hid (fun (W : World) (b : Below w.heap.size w W) => cloneN_any an ln2 cn tss W (h.nl.later b) h.nn)
  have KCo := Lib.hid (fun (W : World) (b : Below w.heap.size w W) => columnsOf_any bn an ln2 dn ln2 cn tss tss W (k.nl.later b) (h.nl.later b))
  have hwid : ∀ r ∈ rs, r.length = ln2 := fun r hr => by have := g.rw r hr; simp only at hln; omega
  have KRa := Lib.hid (fun d hd => rowOn_get (an := an) (ln := ln2) (cn := cn) (cr := cr) h.rl h.rs hwid d hd)
  have KRb := Lib.hid (fun d hd => rowOn_get (an := bn) (ln := ln2) (cn := dn) (cr := dr) k.rl k.rs hwid d hd)
  have NC := Lib.hid (p := ∀ i, i < ln2 → ∃ x o, bn = some ⟨x, o, none⟩ ∧ x < w.heap.size ∧ w.cell? ⟨x, o + i, none⟩ = some (.string (tss.getD i default))) (fun i hi => by
    rcases k.nl.2.2.2 with z | ⟨x, o, z1, z2, z3⟩
    · simp only at z; omega
    · exact ⟨x, o, z1, z2, z3 i hi⟩)
  have hmk := make_rowsN lr2 (by omega)
  obtain ⟨w1, hw1⟩ : ∃ w1, ((w.alloc (.cells #[.slice an ln2 cn, .slice ar lr2 cr] 25)).alloc (.cells #[.slice bn ln2 dn, .slice br lr2 dr] 25)).alloc (.cells #[.slice none 0 0, .slice none 0 0] 25) = w1 := ⟨_, rfl⟩
  have B0 := Lib.hid (p := Below w.heap.size w w1) (by rw [← hw1]; exact (((Below.refl _ w).alloc (Nat.le_refl _) _).alloc (by simp) _).alloc (by simp; omega) _)
  have CE := Lib.hid (p := ∀ W, Below w1.heap.size w1 W → W.heap[w.heap.size]? = some (.cells #[.slice an ln2 cn, .slice ar lr2 cr] 25) ∧ W.heap[w.heap.size + 1]? = some (.cells #[.slice bn ln2 dn, .slice br lr2 dr] 25) ∧ W.heap[w.heap.size + 1 + 1]? = some (.cells #[.slice none 0 0, .slice none 0 0] 25)) (fun W b => by rw [← hw1] at b; exact three_cells b)
  have S1 := Lib.hid (p := w1.heap.size = w.heap.size + 3) (by rw [← hw1]; simp)
  obtain ⟨wb, hwb⟩ : ∃ wb, w1.alloc (.cells #[.slice an ln2 cn, .slice ar lr2 cr, .slice bn ln2 dn, .slice br lr2 dr] 25) = wb := ⟨_, rfl⟩
  have BB := Lib.hid (p := Below w1.heap.size w1 wb) (by rw [← hwb]; exact (Below.refl _ _).alloc (Nat.le_refl _) _)
  have CL := Lib.hid (p := ∀ W, Below wb.heap.size wb W → W.cell? ⟨w1.heap.size, 0, none⟩ = some (.slice an ln2 cn) ∧ W.cell? ⟨w1.heap.size, 1, none⟩ = some (.slice ar lr2 cr) ∧ W.cell? ⟨w1.heap.size, 2, none⟩ = some (.slice bn ln2 dn) ∧ W.cell? ⟨w1.heap.size, 3, none⟩ = some (.slice br lr2 dr)) (fun W b => by
    have hb : W.heap[w1.heap.size]? = some (.cells #[.slice an ln2 cn, .slice ar lr2 cr, .slice bn ln2 dn, .slice br lr2 dr] 25) := (b.block _ (by rw [← hwb]; simp)).trans (by rw [← hwb]; exact World.alloc_heap_new w1 _)
    refine ⟨?_, ?_, ?_, ?_⟩ <;> rw [Joins.cell_of_block hb] <;> rfl)
  obtain ⟨x0, x1, x2⟩ := CE.out _ (Below.refl _ _)
  obtain ⟨a0, a1, _, _⟩ := box_all2 x0
  obtain ⟨c0, c1, _, _⟩ := box_all2 x1
  clear h k g V0 hlr hln hlr2 hln2 x0 x1 x2 hwid
  show Calls Tryz.prog 12 #[.agg #[.slice an ln2 cn, .slice ar lr2 cr], .agg #[.slice bn ln2 dn, .slice br lr2 dr]] w _
  go_enter Tryz.func12, Tryz.ntmps12
  go_wp2
  go_loopw [21] (fun t ws => (t = .int .i64 0 ∨ t = .int .i64 1 ∨ t = .int .i64 2) ∧ Below wb.heap.size wb ws) (fun t _ => 2 - (intOf t).toNat)
  case atStart => exact ⟨.inl rfl, Below.refl _ _⟩
  case round =>
    rename World => ws
    obtain ⟨ht, hB⟩ := hrel
    have BW := Lib.hid hB
    have EW := Lib.hid (B0.out.trans ((BB.out.trans (hB.mono BB.out.size)).mono B0.out.size))
    obtain ⟨l0, l1, l2, l3⟩ := CL.out _ hB
    clear hB
    rcases ht with rfl | rfl | rfl
    · go_wp2_with (go_at_call 10; refine (KV.out _ ⟨an, ln2, cn, tss, ar, lr2, cr, trs⟩ (TH.out.later (EW.out.trans ((below_al ws _).mono EW.out.size)))).mono ?_; rintro e w2 ⟨rfl, hB⟩; have D2 := Lib.hid ((BW.out.trans ((below_al ws _).mono BW.out.size)).trans (hB.mono (BW.out.trans ((below_al ws _).mono BW.out.size)).size)); clear hB)
      go_roundw
      case rel => exact ⟨.inr (.inl rfl), D2.out⟩
      case measure => simp [intOf]
    · go_wp2_with (go_at_call 10; refine (KV.out _ ⟨bn, ln2, dn, tss, br, lr2, dr, urs⟩ (TK.out.later (EW.out.trans ((below_al ws _).mono EW.out.size)))).mono ?_; rintro e w2 ⟨rfl, hB⟩; have D2 := Lib.hid ((BW.out.trans ((below_al ws _).mono BW.out.size)).trans (hB.mono (BW.out.trans ((below_al ws _).mono BW.out.size)).size)); clear hB)
      go_roundw
      case rel => exact ⟨.inr (.inr rfl), D2.out⟩
      case measure => simp [intOf]
    · have D1 := Lib.hid (BB.out.trans (BW.out.mono BB.out.size))
      obtain ⟨x0, x1, x2⟩ := CE.out _ D1.out
      obtain ⟨y0, y1, _, _⟩ := box_all2 x0
      obtain ⟨y2, y3, _, _⟩ := box_all2 x1
      clear x0 x1 x2 l0 l1 l2 l3 a0 a1 c0 c1
      go_wp2_with (first
        | (go_at_call 25; refine (KN.out _ EW.out).mono ?_; rintro e w4 ⟨b4, m4, d4, rfl, hO, hB⟩; have q4 := (own_len hO).symm; subst q4; have O4 := Lib.hid (own_mono hO EW.out.size); have F4 := Lib.hid (D1.out.trans (hB.mono D1.out.size)); have E4 := Lib.hid (EW.out.trans (hB.mono EW.out.size)); obtain ⟨x0, x1, x2⟩ := CE.out _ F4.out; obtain ⟨z0, z1, _, _⟩ := box_all2 x0; obtain ⟨z2, z3, _, _⟩ := box_all2 x1; clear hO hB x0 x1 x2)
        | (go_at_call 26; refine (KCo.out _ E4.out).mono ?_; rintro e w5 ⟨gc, rfl, hI, hg, hB⟩; have I5 := Lib.hid hI; have O5 := Lib.hid (own_back O4.out hB); have F5 := Lib.hid (F4.out.trans (hB.mono F4.out.size)); have E5 := Lib.hid (E4.out.trans (hB.mono E4.out.size)); obtain ⟨x0, x1, x2⟩ := CE.out _ F5.out; obtain ⟨v0, v1, _, _⟩ := box_all2 x0; obtain ⟨v2, v3, _, _⟩ := box_all2 x1; clear hI hg hB x0 x1 x2))
      have CS := Lib.hid (p := ∀ i, i < ln2 → w5.cell? ⟨gc, i, none⟩ = some (.int .i64 (i : Int))) (fun i hi => by
        have := I5.out.2 i hi
        simp only at this
        rwa [colF_self GG.out.nd (by have := LN.out; omega)] at this)
      go_loopw [9, 43] (fun v t ws => v = .slice b4 ln2 d4 ∧ ∃ i : Nat, i ≤ ln2 ∧ t = .int .i64 (i : Int) ∧ ws = w5) (fun _ t _ => ln2 - (intOf t).toNat)
      case atStart => exact ⟨rfl, 0, Nat.zero_le _, rfl, rfl⟩
      case round =>
        obtain ⟨rfl, i, hi, rfl, rfl⟩ := hrel
        rename World => w5
        by_cases hlt : i < ln2
        · obtain ⟨x, o, rfl, hx, hc⟩ := NC.out i hlt
          have kc : (i : Int) < (ln2 : Int) := by omega
          have cn0 := (E5.out.cell (p := ⟨x, o + i, none⟩) hx).trans hc
          have ci := CS.out i hlt
          have m1 : ¬ (i : Int) = -1 := by omega
          have kw : IntKind.i64.wrap ((i : Int) + 1) = (i : Int) + 1 := by simp [IntKind.wrap, IntKind.bits, IntKind.signed]; omega
          clear hc
          go_wp2
          go_roundw
          case rel => exact ⟨rfl, i + 1, by omega, by go_num, trivial⟩
          case measure => simp [intOf]; omega
        · have ei : ln2 = i := by omega
          subst ei
          have kc : ¬ (ln2 : Int) < (ln2 : Int) := by omega
          obtain ⟨rb, hrb⟩ : ∃ rb, w5.heap.size = rb := ⟨_, rfl⟩
          have M0 := Lib.hid (mkR_new w5 w.heap.size lr2 E5.out.size)
          rw [hrb, List.toArray_replicate] at M0
          have R5 := Lib.hid (p := w5.heap.size ≤ rb) (by omega)
          have A0 := Lib.hid (below_al w5 (.cells (Array.replicate lr2 (.slice none 0 0)) 31))
          go_wp2
          clear hrb
          go_loopw [77] (fun t ws => ∃ (d : Nat) (qs : List Rw), d ≤ lr2 ∧ t = .int .i64 (d : Int) ∧ RowKit.Hid (qs.length = d) ∧ RowKit.Hid (qs.map (·.cs) = rs.take d) ∧ MkR ws w.heap.size rb lr2 qs ∧ Below w5.heap.size w5 ws) (fun t _ => lr2 - (intOf t).toNat)
          case atStart => exact ⟨0, [], Nat.zero_le _, rfl, rfl, by show _ = _; simp, M0.out, A0.out⟩
          case round =>
            rename World => wt
            obtain ⟨d, qs, hd, rfl, hql, hqm, hM, hA⟩ := hrel
            have MM := Lib.hid hM
            have AA := Lib.hid hA
            have QL := Lib.hid hql.out
            have QM := Lib.hid hqm.out
            have ET := Lib.hid (E5.out.trans (hA.mono E5.out.size))
            have FT := Lib.hid (F5.out.trans (hA.mono F5.out.size))
            obtain ⟨x0, x1, x2⟩ := CE.out _ FT.out
            obtain ⟨t0, t1, _, _⟩ := box_all2 x0
            have HB2 := Lib.hid x2
            obtain ⟨t4, t5, t6, t7⟩ := box_all2 x2
            clear hM hA hql hqm x0 x1 x2
            by_cases hdl : d < lr2
            · obtain ⟨ra, rca, RCa, KA⟩ := KRa.out d hdl
              obtain ⟨rq, rcq, RCb, KB⟩ := KRb.out d hdl
              have RA := Lib.hid RCa
              have RQ := Lib.hid RCb
              have HA := Lib.hid KA
              have HQ := Lib.hid KB
              have dc : (d : Int) < (lr2 : Int) := by omega
              have kw : IntKind.i64.wrap ((d : Int) + 1) = (d : Int) + 1 := by simp [IntKind.wrap, IntKind.bits, IntKind.signed]; omega
              obtain ⟨R, hR⟩ : ∃ R, rs.getD d [] = R := ⟨_, rfl⟩
              rw [hR] at RA RQ
              have RL2 := Lib.hid (p := R.length = ln2) RA.out.1
              have ER := Lib.hid (p := R.take ln2 ++ List.replicate (ln2 - ln2) zCl = R) (by rw [Nat.sub_self, List.take_of_length_le (by rw [RL2.out]; omega)]; simp)
              have NXT := Lib.hid (p := ∀ a : Option Addr, (qs ++ [(⟨a, ln2, ln2, R⟩ : Rw)]).map (·.cs) = rs.take (d + 1)) (fun a => by
                have hd2 : d < rs.length := by have := LR.out; omega
                rw [List.map_append, QM.out, List.take_add_one, List.getElem?_eq_getElem hd2]
                refine congrArg (rs.take d ++ ·) ?_
                rw [← hR]
                simp [List.getD, hd2])
              have PM := Lib.hid True.intro
              clear RCa RCb KA KB hR
              go_wp2_with (first
                | (go_at_call 27; have qq := PM; refine (HA.out _ ET.out).mono ?_; rintro e w6 ⟨rfl, hB⟩; have E6 := Lib.hid (ET.out.trans (hB.mono ET.out.size)); have A6 := Lib.hid (AA.out.trans (hB.mono AA.out.size)); have M6 := Lib.hid (MM.out.below hB); clear hB PM qq)
                | (go_at_call 24; refine (newRow_any ra ln2 ln2 rca R _ (RA.out.later E6.out) (by omega)).mono ?_; rintro e w7 ⟨rfl, hw7⟩; rw [ER.out] at hw7; have V7 := Lib.hid (p := Below w6.heap.size w6 w7) (by rw [hw7]; exact below_al _ _); have M7 := Lib.hid (M6.out.below V7.out); have Z7 := Lib.hid (p := w7.heap[w6.heap.size]? = some (.cells (clv R).toArray 29)) (by rw [hw7]; exact World.alloc_heap_new _ _); have P7 := Lib.hid (M6.out.push QL.out hdl V7.out Z7.out E6.out.size RL2.out); obtain ⟨k0, k1⟩ := M7.out.cell d QL.out hdl; have A7 := Lib.hid ((A6.out.trans (V7.out.mono A6.out.size)).setCell (p := ⟨rb, d, none⟩) R5.out (.slice (some ⟨w6.heap.size, 0, none⟩) ln2 ln2)); have E7 := Lib.hid (E5.out.trans (A7.out.mono E5.out.size)); obtain ⟨x0, x1, x2⟩ := CE.out _ (F5.out.trans (A7.out.mono F5.out.size)); obtain ⟨s0, s1, _, _⟩ := box_all2 x1; clear hw7 x0 x1 x2)
                | (go_at_call 27; have qq := P7; refine (HQ.out _ E7.out).mono ?_; rintro e w8 ⟨rfl, hB⟩; have P8 := Lib.hid (P7.out.below hB); have A8 := Lib.hid (A7.out.trans (hB.mono A7.out.size)); clear hB qq))
              obtain ⟨z, hz⟩ : ∃ z, w6.heap.size = z := ⟨_, rfl⟩
              rw [hz] at P8
              clear hz s0 s1 k0 k1 t0 t1 t4 t5 t6 t7
              go_loopw [93] (fun t wu => ∃ i : Nat, i ≤ ln2 ∧ t = .int .i64 (i : Int) ∧ MkR wu w.heap.size rb lr2 (qs ++ [⟨some ⟨z, 0, none⟩, ln2, ln2, R⟩]) ∧ Below w5.heap.size w5 wu) (fun t _ => ln2 - (intOf t).toNat)
              case atStart => exact ⟨0, Nat.zero_le _, rfl, P8.out, A8.out⟩
              case round =>
                rename World => wu
                obtain ⟨i, hi, rfl, hP, hA⟩ := hrel
                have PP := Lib.hid hP
                have AU := Lib.hid hA
                have EU := Lib.hid (E5.out.trans (hA.mono E5.out.size))
                clear hP hA
                by_cases hil : i < ln2
                · have iR : i < R.length := by rw [RL2.out]; exact hil
                  obtain ⟨bx, bo, rfl, hbx, hcc⟩ : ∃ bx bo, rq = some ⟨bx, bo, none⟩ ∧ bx < w.heap.size ∧ CC w bx (bo + i * 2) (R.getD i default) := by
                    rcases RQ.out.2.2.2 with q | ⟨b, o, q1, q2, q3⟩
                    · omega
                    · exact ⟨b, o, q1, q2, q3 i hil⟩
                  have hc2 := hcc.later EU.out hbx
                  have kc : (i : Int) < (ln2 : Int) := by omega
                  have kwi : IntKind.i64.wrap ((i : Int) + 1) = (i : Int) + 1 := by simp [IntKind.wrap, IntKind.bits, IntKind.signed]; omega
                  have AG := Lib.hid (fun W (hW : MkR W w.heap.size rb lr2 (qs ++ [⟨some ⟨z, 0, none⟩, ln2, ln2, R⟩])) => hW.again i iR)
                  have ZC := Lib.hid (fun W (hW : MkR W w.heap.size rb lr2 (qs ++ [⟨some ⟨z, 0, none⟩, ln2, ln2, R⟩])) => hW.rowz i iR)
                  clear hcc iR
                  generalize R.getD i default = c at *
                  obtain ⟨ch, cv⟩ := c
                  obtain ⟨d0, d1⟩ := hc2
                  have d1' : wu.cell? ⟨bx, bo + i * 2 + 1, none⟩ = some (.int .i64 cv) := d1
                  have PA := Lib.hid (PP.out.below (below_al wu (.cells #[.bool ch, .int .i64 cv] 29)))
                  have AA2 := Lib.hid (AU.out.alloc AU.out.size (.cells #[.bool ch, .int .i64 cv] 29))
                  cases ch with
                  | false =>
                    go_wp2
                    go_roundw
                    case rel => exact ⟨i + 1, by omega, by go_num, PA.out, AA2.out⟩
                    case measure => simp [intOf]; omega
                  | true =>
                    have SB := Lib.hid (p := ∀ W : World, W.heap = (wu.alloc (.cells #[.bool true, .int .i64 cv] 29)).heap → W.cell? ⟨rb, d, none⟩ = some (.slice (some ⟨z, 0, none⟩) ln2 ln2) ∧ W.cell? ⟨gc, i, none⟩ = some (.int .i64 (i : Int)) ∧ W.cell? ⟨wu.heap.size, 0, none⟩ = some (.bool true) ∧ W.cell? ⟨wu.heap.size, 1, none⟩ = some (.int .i64 cv)) (fun W hW => by
                      have q1 := (PA.out.same hW).last d QL.out
                      have q2 := (AA2.out.cell (p := ⟨gc, i, none⟩) I5.out.1).trans (CS.out i hil)
                      obtain ⟨q3, q4, _, _⟩ := box_all2 (World.alloc_heap_new wu (.cells #[.bool true, .int .i64 cv] 29))
                      unfold World.cell? at q2 q3 q4 ⊢
                      unfold World.cell? at q1
                      rw [hW] at q1 ⊢
                      exact ⟨q1, q2, q3, q4⟩)
                    obtain ⟨⟨zc0, zc1⟩, zf0, zf1⟩ := ZC.out _ PA.out
                    have zc0' : (wu.alloc (.cells #[.bool true, .int .i64 cv] 29)).cell? ⟨z, i * 2, none⟩ = some (.bool true) := zc0
                    have zc1' : (wu.alloc (.cells #[.bool true, .int .i64 cv] 29)).cell? ⟨z, i * 2 + 1, none⟩ = some (.int .i64 cv) := zc1
                    have AGW := Lib.hid (AG.out _ PA.out)
                    clear zc0 zc1
                    obtain ⟨sb0, sb1, sb2, sb3⟩ := SB.out _ rfl
                    go_wp2
                    go_region_held3 (fun w' => w'.cell? ⟨rb, d, none⟩ = some (.slice (some ⟨z, 0, none⟩) ln2 ln2) ∧ w'.cell? ⟨gc, i, none⟩ = some (.int .i64 (i : Int)) ∧ w'.cell? ⟨wu.heap.size, 0, none⟩ = some (.bool true) ∧ w'.cell? ⟨wu.heap.size, 1, none⟩ = some (.int .i64 cv)) (first | exact SB.out _ rfl | exact SB.out _ AGW.out) (fail)
                    go_wp2
                    refine ⟨⟨i + 1, by omega, by go_num, PA.out.same AGW.out, below_eq AA2.out rfl rfl rfl AGW.out⟩, ?_⟩
                    simp [intOf]; omega
                · have ei : ln2 = i := by omega
                  subst ei
                  have kc : ¬ (ln2 : Int) < (ln2 : Int) := by omega
                  go_wp2
                  go_roundw
                  case rel => exact ⟨d + 1, _, by omega, by go_num, by show _ = d + 1; rw [List.length_append, QL.out]; rfl, NXT.out _, PP.out, AU.out⟩
                  case measure => simp [intOf]; omega
            · have ed : lr2 = d := by omega
              subst ed
              have kd : ¬ (lr2 : Int) < (lr2 : Int) := by omega
              go_wp2
              obtain ⟨r0, r1, _, _⟩ := box_all2 (box_set2 (u := .slice b4 ln2 d4) (v := .slice (some ⟨rb, 0, none⟩) lr2 lr2) HB2.out)
              refine bodyPost_ret (v := .tuple #[.agg #[.slice b4 ln2 d4, .slice (some ⟨rb, 0, none⟩) lr2 lr2], .int .i64 0]) (by simp [results, Tryz.results12, go_sem, r0, r1]) rfl ?_
              have g1 := grT_set wt (w.heap.size + 1 + 1) 0 (.slice b4 ln2 d4)
              have g2 := grT_set (wt.setCell ⟨w.heap.size + 1 + 1, 0, none⟩ (.slice b4 ln2 d4)) (w.heap.size + 1 + 1) 1 (.slice (some ⟨rb, 0, none⟩) lr2 lr2)
              have bb := Joins.block_setCell (i := 0) HB2.out (.slice b4 ln2 d4)
              have RO4 := MM.out.own QL.out (by unfold maxLen; omega)
              have RO5 := (RO4.turn HB2.out (by decide) (by decide) g1).turn bb (by decide) (by decide) g2
              have NO4 : wt.ownsRow w.heap.size 9 1 (.slice b4 ln2 d4) tss.length (tss.map Value.string) := by
                have := own_back O5.out AA.out
                rw [← LN.out]
                exact this
              have NO5 := tbox_own (tbox_own NO4 HB2.out (by decide) g1) bb (by decide) g2
              have ERS : qs.map (·.cs) = rs := by
                rw [QM.out, List.take_of_length_le (by rw [LR.out]; omega)]
              have PT := psT_of (ns := tss) NO5 RO5 (by rw [ERS]; exact GG.out) 0 0
              refine ⟨⟨b4, ln2, d4, tss, some ⟨rb, 0, none⟩, lr2, lr2, qs⟩, rfl, ?_, (ET.out.setCell (p := ⟨w.heap.size + 1 + 1, 0, none⟩) (by show _ ≤ w.heap.size + 1 + 1; omega) _).setCell (p := ⟨w.heap.size + 1 + 1, 1, none⟩) (by show _ ≤ w.heap.size + 1 + 1; omega) _⟩
              rw [ERS] at PT
              exact PT
/-- A block below turns. -/
theorem PsT.under {B bx o : Nat} {W : World} {u : Tb} {R : PR} (h : PsT B W u R) (g : Gd R.ns R.rs) (hb : bx < B) (v : Value) : PsT B (W.setCell ⟨bx, o, none⟩ v) u R := by
  have gr := grT_set W bx o v
  have n2 := h.no.kept gr (by
    cases q : (Value.slice u.an u.ln u.cn).ownBlock with
    | none => exact .inl rfl
    | some k => exact .inr (by have := (h.no.lt k q).1; intro e; injection e with e; omega))
  have r2 : RwO (W.setCell ⟨bx, o, none⟩ v) B (.slice u.ar u.lr u.cr) u.rs := by
    refine ⟨h.ro.own.kept gr ?_, fun q hq => ?_⟩
    · cases q : (Value.slice u.ar u.lr u.cr).ownBlock with
      | none => exact .inl rfl
      | some k => exact .inr (by have := (h.ro.own.lt k q).1; intro e; injection e with e; omega)
    · obtain ⟨z, z1, z2, z3, z4, z5⟩ := h.ro.ok q hq
      exact ⟨z, z1, z2, z3, z4, (gr.block z (blk_lt z5) (by intro e; injection e with e; omega)).trans z5⟩
  have := psT_of (ns := R.ns) n2 r2 (by rw [h.rs]; exact g) R.pl R.e
  rw [h.rs] at this
  obtain ⟨an, ln, cn, uss, ar, lr, cr, urs⟩ := u
  have e : uss = R.ns := h.ns
  subst e
  exact this
theorem PsT.later {B : Nat} {W W' : World} {u : Tb} {R : PR} (h : PsT B W u R) (b : Below W.heap.size W W') : PsT B W' u R :=
  ⟨h.ok.later b, h.ns, h.rs, own_back h.no b, h.ro.below b⟩
end Go.Proofs.YtknlpadoladpfaaGreatDoor

namespace Go.Proofs.YtknlpadoladpfaaGreatDoor
open Go.RowKit
set_option linter.unusedVariables false
set_option linter.unusedSimpArgs false

/-- Whether two tables agree up to a day. -/
noncomputable def agB (ss : List ByteArray) (rs : List (List Cl)) (ss' : List ByteArray) (rs' : List (List Cl)) (last : Int) : Bool := @decide (AgreeP ss rs ss' rs' last) (Classical.propDecidable _)
theorem agB_yes {ss ss' : List ByteArray} {rs rs' : List (List Cl)} {last : Int} (h : AgreeP ss rs ss' rs' last) : agB ss rs ss' rs' last = true := by unfold agB; exact @decide_eq_true _ (Classical.propDecidable _) h
theorem agB_no {ss ss' : List ByteArray} {rs rs' : List (List Cl)} {last : Int} (h : ¬ AgreeP ss rs ss' rs' last) : agB ss rs ss' rs' last = false := by unfold agB; exact @decide_eq_false _ (Classical.propDecidable _) h
theorem agB_out {ss ss' : List ByteArray} {rs rs' : List (List Cl)} {last : Int} (h : agB ss rs ss' rs' last = true) : AgreeP ss rs ss' rs' last := by unfold agB at h; exact @of_decide_eq_true _ (Classical.propDecidable _) h
theorem agreeI_any (t u : Tb) (ss ss' : List ByteArray) (rs rs' : List (List Cl)) (last : Int) (w : World) (h : TbIs w t ss rs) (k : TbIs w u ss' rs') :
    Calls Tryz.prog 8 #[t.val, u.val, .int .i64 last] w fun e w' => e = .returned (.bool (agB ss rs ss' rs' last)) ∧ Below w.heap.size w w' := by
  have := agreeT_any t.an t.ar u.an u.ar t.ln t.cn t.lr t.cr u.ln u.cn u.lr u.cr t.ss u.ss t.rs u.rs last w h.nl h.rl k.nl k.rl
  rw [h.ns, h.rs, k.ns, k.rs] at this
  refine this.mono ?_
  rintro e w' ⟨⟨v, rfl, hv⟩, hB⟩
  refine ⟨?_, hB⟩
  cases v with
  | true => rw [agB_yes (hv.1 rfl)]
  | false => rw [agB_no (fun q => by have := hv.2 q; cases this)]
theorem agree_self (ss : List ByteArray) (rs : List (List Cl)) (last : Int) : AgreeP ss rs ss rs last := fun _ _ _ _ _ => rfl
theorem agree_turn {ss ss' : List ByteArray} {rs rs' : List (List Cl)} {last : Int} (h : AgreeP ss rs ss' rs' last) : AgreeP ss' rs' ss rs last := fun d hd hr n hn =>
  (h d hd hr.symm n (by rcases List.mem_append.1 hn with q | q; exact List.mem_append.2 (.inr q); exact List.mem_append.2 (.inl q))).symm
theorem agB_turn (ss ss' : List ByteArray) (rs rs' : List (List Cl)) (last : Int) : agB ss rs ss' rs' last = agB ss' rs' ss rs last := by
  by_cases h : AgreeP ss rs ss' rs' last
  · rw [agB_yes h, agB_yes (agree_turn h)]
  · rw [agB_no h, agB_no (fun q => h (agree_turn q))]
theorem agree_less {ss ss' : List ByteArray} {rs rs' : List (List Cl)} {last last' : Int} (h : AgreeP ss rs ss' rs' last) (hl : last' ≤ last) : AgreeP ss rs ss' rs' last' := fun d hd hr n hn => h d (by omega) hr n hn
theorem agree_cut (ss : List ByteArray) (rs : List (List Cl)) (last : Int) (h : 0 ≤ last) : AgreeP ss rs ss (rs.take (last + 1).toNat) last := by
  intro d hd _ n _
  have e : (rs.take (last + 1).toNat).getD d [] = rs.getD d [] := by
    simp only [List.getD, List.getElem?_take]
    rw [if_pos (by omega)]
  unfold cellT rawT
  rw [e]
/-- The plain table, one number of it left open. -/
def plRq (v : Int) : List (List Cl) := [[⟨true, 5⟩, ⟨true, -7⟩], [⟨false, 0⟩, ⟨true, v⟩], [⟨false, 0⟩, ⟨false, 0⟩]]
theorem pl_no : ¬ AgreeP plS (plRq 0) plS (plRq 1) 1 := fun h => by
  have := h 1 (by omega) (.inl (by decide)) ⟨#[83, 95, 49]⟩ (by simp [plS])
  revert this
  decide
theorem pl_yes : AgreeP plS (plRq 0) plS (plRq 1) 0 := fun d hd _ n _ => by
  have e : d = 0 := by omega
  subst e
  rfl
def plTq (n : Nat) (v : Int) : Tb := ⟨some ⟨n + 1, 0, none⟩, 2, 2, plS, some ⟨n + 1 + 1 + 1 + 1 + 1 + 1 + 1 + 1, 0, none⟩, 3, 3, [⟨some ⟨n + 1 + 1 + 1 + 1, 0, none⟩, 2, 2, [⟨true, 5⟩, ⟨true, -7⟩]⟩, ⟨some ⟨n + 1 + 1 + 1 + 1 + 1 + 1, 0, none⟩, 2, 2, [⟨false, 0⟩, ⟨true, v⟩]⟩, ⟨some ⟨n + 1 + 1 + 1 + 1 + 1 + 1 + 1, 0, none⟩, 2, 2, [⟨false, 0⟩, ⟨false, 0⟩]⟩]⟩
theorem plTq_is (W : World) (n : Nat) (v : Int) (hv : (Lit.int .i64 v).wf = true)
    (b1 : W.heap[n + 1]? = some (.cells #[.string ⟨#[82, 65, 84, 69]⟩, .string ⟨#[83, 95, 49]⟩] 9))
    (b4 : W.heap[n + 4]? = some (.cells #[.bool true, .int .i64 5, .bool true, .int .i64 (-7)] 29))
    (b6 : W.heap[n + 6]? = some (.cells #[.bool false, .int .i64 0, .bool true, .int .i64 v] 29))
    (b7 : W.heap[n + 7]? = some (.cells #[.bool false, .int .i64 0, .bool false, .int .i64 0] 29))
    (b8 : W.heap[n + 8]? = some (.cells #[.slice (some ⟨n + 1 + 1 + 1 + 1, 0, none⟩) 2 2, .slice (some ⟨n + 1 + 1 + 1 + 1 + 1 + 1, 0, none⟩) 2 2, .slice (some ⟨n + 1 + 1 + 1 + 1 + 1 + 1 + 1, 0, none⟩) 2 2] 31)) :
    TbIs W (plTq n v) plS (plRq v) := by
  refine ⟨⟨rfl, (by show (2 : Nat) ≤ _; decide), ?_, .inr ⟨n + 1, 0, rfl, blk_lt b1, fun i hi => ?_⟩⟩, (fun e => by cases e), ⟨rfl, (by show (3 : Nat) ≤ _; decide), ?_, .inr ⟨n + 8, 0, rfl, blk_lt b8, fun i hi => ?_⟩⟩, (fun e => by cases e), rfl, rfl⟩
  · intro s hs
    simp [plTq, plS] at hs
    rcases hs with rfl | rfl <;> decide
  · match i, hi with
    | 0, _ => rw [Joins.cell_of_block b1]; rfl
    | 1, _ => rw [Joins.cell_of_block b1]; rfl
  · intro r hr
    have ml : (2 : Nat) ≤ maxLen := by unfold maxLen; omega
    simp [plTq] at hr
    rcases hr with rfl | rfl | rfl
    · exact ⟨rc_two (c := ⟨true, 5⟩) (d := ⟨true, -7⟩) b4 (by decide) (by decide), (fun e => by cases e), Nat.le_refl _, ml⟩
    · exact ⟨rc_two (c := ⟨false, 0⟩) (d := ⟨true, v⟩) b6 (by decide) hv, (fun e => by cases e), Nat.le_refl _, ml⟩
    · exact ⟨rc_two (c := ⟨false, 0⟩) (d := ⟨false, 0⟩) b7 (by decide) (by decide), (fun e => by cases e), Nat.le_refl _, ml⟩
  · match i, hi with
    | 0, _ => rw [Joins.cell_of_block b8]; rfl
    | 1, _ => rw [Joins.cell_of_block b8]; rfl
    | 2, _ => rw [Joins.cell_of_block b8]; rfl
/-- plain, and where it lies. -/
theorem plainX_any (w : World) : Calls Tryz.prog 6 #[] w fun e w' => e = .returned (plTq w.heap.size 0).val ∧ w' = als w (plO w.heap.size) := by
  have KT := Lib.hid (fun v W => toldT_any v W)
  obtain ⟨r0, r1, _, _⟩ := box_all2 (als_blk w (plO w.heap.size) 0)
  rw [Nat.add_zero] at r0 r1
  go_enter Tryz.func6, Tryz.ntmps6
  go_wp2_with (go_at_call 7; refine (KT.out _ _).mono ?_; rintro e w1 ⟨rfl, rfl⟩)
  refine bodyPost_ret (w := als w (plO w.heap.size)) (v := (plTq w.heap.size 0).val) (by simp [results, Tryz.results6, go_sem, r0, r1]; rfl) rfl ?_
  exact ⟨rfl, rfl⟩
end Go.Proofs.YtknlpadoladpfaaGreatDoor

namespace Go.Proofs.YtknlpadoladpfaaGreatDoor
open Go.RowKit
set_option linter.unusedVariables false
set_option linter.unusedSimpArgs false

theorem lines_len {rs : List (List Cl)} (hl : ∀ r ∈ rs, r.length ≤ 64) (hw : ∀ r ∈ rs, ∀ c ∈ r, (Lit.int .i64 c.v).wf = true) : ∀ k, k ≤ rs.length → k ≤ 5000 → (rowsT rs k).length ≤ k * 1431
  | 0, _, _ => by simp [rowsT]
  | k + 1, hk, h5 => by
    have ih := lines_len hl hw k (by omega) (by omega)
    have hm : rs.getD k [] ∈ rs := by
      have hk' : k < rs.length := by omega
      rw [show rs.getD k [] = rs[k] by simp [List.getD, hk']]
      exact List.getElem_mem hk'
    have := rowT_len (d := k) (cs := rs.getD k []) (k := (rs.getD k []).length) (hl _ hm) (by omega) (hw _ hm)
    rw [rowsT_step, List.length_append]
    unfold lineT
    rw [List.length_append]
    simp only [List.length_cons, List.length_nil]
    omega
theorem text_500 {ss : List ByteArray} {rs : List (List Cl)} (g : Gd ss rs) (h : rs.length ≤ 500) : (textT ss rs rs.length).length ≤ 1048576 := by
  have a := headT_len (ss := ss) (k := ss.length) g.n64 (fun s hs => name31 (g.nm s hs))
  have b := lines_len (rs := rs) (fun r hr => by rw [g.rw r hr]; exact g.n64) (fun r hr c hc => (g.st r hr c hc).2) rs.length (Nat.le_refl _) (by omega)
  unfold textT
  rw [List.length_append, List.length_append]
  simp only [List.length_cons, List.length_nil]
  omega
/-- a plain table is read back. -/
theorem plainBack (p : Tb) (w W : World) (h : TbIs W p plS plR) (G : Grd w) (b : Below w.heap.size w W) : Calls Tryz.prog 5 #[p.val] W fun e w' => e = .returned (.bool true) ∧ Below W.heap.size W w' :=
  back_any p plS plR W h pl_gd pl_len (G.later b)
end Go.Proofs.YtknlpadoladpfaaGreatDoor
