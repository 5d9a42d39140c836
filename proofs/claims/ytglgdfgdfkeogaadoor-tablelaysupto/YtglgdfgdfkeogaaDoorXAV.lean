import Derived.Test.YtglgdfgdfkeogaaDoorXAU
import Derived.Test.YtglgdfgdfkeogaaDoorXAF
import Derived.Test.YtglgdfgdfkeogaaDoorXAK
import Derived.Deep.RegionHeld3
import Derived.Test.YtglgdfgdfkeogaaDoorXAT
import Derived.Test.YtglgdfgdfkeogaaDoorXAM
import Derived.Test.YtglgdfgdfkeogaaDoorXAR
import Derived.Deep.Cut
import Derived.Deep.CutRange
import Derived.Deep.DeepCutAuto
namespace Go.Proofs.YtglgdfgdfkeogaaDoor
open Go.RowKit
set_option linter.unusedVariables false
set_option linter.unusedSimpArgs false

/-- A table of own whose rows may have changed places. -/
structure SwT (W : World) (B : Nat) (an xa xb : Option Addr) (xm xc xn xd : Nat) (ss : List ByteArray) (qs : List Rw) : Prop where
  N : NO W B an (.slice xa xm xc) xm ss
  sl : ss.length = xm
  sb : xm ≤ 8796093021952 ∧ ∀ s ∈ ss, s.size ≤ 140737488351232
  ql : qs.length = xn
  R : ∀ q ∈ qs, RowN W B q q.cs
  wf : ∀ q ∈ qs, (∀ c ∈ q.cs, (Lit.int .i64 c.v).wf = true) ∧ q.cs.length ≤ 8796093021952
  L : xn = 0 ∨ ∃ g cur, xb = some ⟨g, 0, none⟩ ∧ (B ≤ g ∧ W.heap[g]? = some (.cells cur 49)) ∧ ∀ i, i < xn → cur[i]? = some (qv (qs.getD i default))
  n0 : xb = none → xn = 0 ∧ xd = 0
  le : xn ≤ xd ∧ xn ≤ 5864062014635
theorem SwT.below {W W' : World} {B : Nat} {an xa xb : Option Addr} {xm xc xn xd : Nat} {ss : List ByteArray} {qs : List Rw} (h : SwT W B an xa xb xm xc xn xd ss qs) (b : Below W.heap.size W W') : SwT W' B an xa xb xm xc xn xd ss qs := by
  refine ⟨h.N.later b, h.sl, h.sb, h.ql, fun q hq => row_later (h.R q hq) b, h.wf, ?_, h.n0, h.le⟩
  rcases h.L with z | ⟨g, cur, e, ⟨e1, e2⟩, e3⟩
  · exact .inl z
  · exact .inr ⟨g, cur, e, ⟨e1, (b.block g (blk_lt e2)).trans e2⟩, e3⟩
theorem SwT.tb {W : World} {B : Nat} {an xa xb : Option Addr} {xm xc xn xd : Nat} {ss : List ByteArray} {qs : List Rw} (h : SwT W B an xa xb xm xc xn xd ss qs) : TbIs W ⟨xa, xm, xc, ss, xb, xn, xd, qs⟩ ss (qs.map (·.cs)) := by
  obtain ⟨_, nl⟩ := h.N.nl h.sl h.sb.1 h.sb.2
  refine ⟨nl, ?_, ⟨h.ql, h.le.2, fun r hr => ?_, ?_⟩, h.n0, rfl, rfl⟩
  · intro e
    rcases h.N with ⟨_, k, k0⟩ | ⟨g, c', k, _⟩
    · injection k with _ _ k; exact ⟨k0, k⟩
    · injection k with k; simp only at e; rw [e] at k; cases k
  · obtain ⟨rc, g, e, _⟩ := rowN_rc (h.R r hr) (h.wf r hr).1 (h.wf r hr).2
    obtain ⟨a1, a2, a3, _⟩ := h.R r hr
    exact ⟨rc, (fun z => by rw [e] at z; cases z), by omega, a3⟩
  · rcases h.L with z | ⟨g, cur, e, ⟨e1, e2⟩, e3⟩
    · exact .inl z
    · refine .inr ⟨g, 0, e, blk_lt e2, fun i hi => ?_⟩
      rw [Nat.zero_add, Joins.cell_of_block e2, e3 i hi]
      rfl
theorem SwT.cell {W : World} {B : Nat} {an xa xb : Option Addr} {xm xc xn xd : Nat} {ss : List ByteArray} {qs : List Rw} (h : SwT W B an xa xb xm xc xn xd ss qs) {i : Nat} (hi : i < xn) : ∃ g, xb = some ⟨g, 0, none⟩ ∧ B ≤ g ∧ g < W.heap.size ∧ ∀ j, j < xn → W.cell? ⟨g, j, none⟩ = some (.slice (qs.getD j default).a (qs.getD j default).n (qs.getD j default).cap) ∧ W.frozen? ⟨g, j, none⟩ = false := by
  rcases h.L with z | ⟨g, cur, e, ⟨e1, e2⟩, e3⟩
  · omega
  · exact ⟨g, e, e1, blk_lt e2, fun j hj => ⟨by rw [Joins.cell_of_block e2, e3 j hj]; rfl, Joins.unfrozen_of_block e2 _⟩⟩
theorem SwT.swap {W : World} {B : Nat} {an xa : Option Addr} {xm xc xn xd g i j : Nat} {ss : List ByteArray} {qs : List Rw} (h : SwT W B an xa (some ⟨g, 0, none⟩) xm xc xn xd ss qs) (hi : i < xn) (hj : j < xn) (ne : i ≠ j) (u v : Value) (hu : u = qv (qs.getD j default)) (hv : v = qv (qs.getD i default)) :
    SwT ((W.setCell ⟨g, i, none⟩ u).setCell ⟨g, j, none⟩ v) B an xa (some ⟨g, 0, none⟩) xm xc xn xd ss ((qs.set i (qs.getD j default)).set j (qs.getD i default)) := by
  subst hu hv
  rcases h.L with z | ⟨g', cur, e, ⟨e1, e2⟩, e3⟩
  · omega
  injection e with e
  injection e with e
  subst e
  have gr := gr_two W g i j (qv (qs.getD j default)) (qv (qs.getD i default))
  have hb2 := Joins.block_setCell (i := j) (Joins.block_setCell (i := i) e2 (qv (qs.getD j default))) (qv (qs.getD i default))
  have mem : ∀ q ∈ (qs.set i (qs.getD j default)).set j (qs.getD i default), q ∈ qs := fun q hq => by
    have gi : qs.getD i default ∈ qs := by rw [show qs.getD i default = qs[i]'(by rw [h.ql]; exact hi) by simp [List.getD, h.ql, hi]]; exact List.getElem_mem _
    have gj : qs.getD j default ∈ qs := by rw [show qs.getD j default = qs[j]'(by rw [h.ql]; exact hj) by simp [List.getD, h.ql, hj]]; exact List.getElem_mem _
    rcases List.mem_or_eq_of_mem_set hq with r | r
    · rcases List.mem_or_eq_of_mem_set r with r | r
      · exact r
      · rw [r]; exact gj
    · rw [r]; exact gi
  refine ⟨?_, h.sl, h.sb, by simp [h.ql], fun q hq => row_kept (h.R q (mem q hq)) gr (fun k ek e => ?_), fun q hq => h.wf q (mem q hq), .inr ⟨g, _, rfl, ⟨e1, hb2⟩, fun k hk => ?_⟩, h.n0, h.le⟩
  · rcases h.N with z | ⟨gn, c, k1, k2, k3, k4, k5⟩
    · exact .inl z
    · have c0 := k5 0 (by omega)
      have ng : ¬ g = gn := fun q => by
        subst q
        rw [Joins.cell_of_block e2, e3 0 (by omega)] at c0
        injection c0 with c0
        cases c0
      refine .inr ⟨gn, c, k1, k2, k3, ⟨k4.1, Nat.lt_of_lt_of_le k4.2 gr.size⟩, fun k hk => ?_⟩
      rw [World.cell?_of_block (a := ⟨gn, k, none⟩) (gr.block gn k4.2 (by intro q; injection q with q; exact ng q.symm))]
      exact k5 k hk
  · injection e with e
    subst e
    obtain ⟨cu, fz, q⟩ := rowN_block (h.R q (mem q hq)) g ek
    exact blk_ty q e2 (by decide) rfl
  · have hql : qs.length = xn := h.ql
    have cs : xn ≤ cur.size := by
      rcases Nat.lt_or_ge cur.size xn with q | q
      · have := e3 cur.size q
        rw [Array.getElem?_eq_none (Nat.le_refl _)] at this
        cases this
      · exact q
    rw [Array.getElem?_setIfInBounds, Array.getElem?_setIfInBounds]
    unfold List.getD
    rw [List.getElem?_set, List.getElem?_set]
    by_cases kj : j = k
    · subst kj
      simp [h.ql, hj, show j < cur.size by omega]
    · by_cases ki : i = k
      · subst ki
        simp [kj, h.ql, hi, show i < cur.size by omega]
      · simp only [if_neg kj, if_neg ki]
        have := e3 k hk
        unfold List.getD at this
        exact this
theorem swT_of {W w0 : World} {B : Nat} {an ar xa xb : Option Addr} {ln lr xm xc xn xd : Nat} {ss : List ByteArray} {rs : List Rw} (hn : NL w0 an ln ss) (hr : RL w0 ar lr rs) (N : NO W B an (.slice xa xm xc) ln ss) (R : RO W B (.slice xb xn xd) lr rs) (lb : LB W (.slice xb xn xd)) : ∃ qs, SwT W B an xa xb xm xc xn xd ss qs := by
  obtain ⟨e1, nl⟩ := N.nl hn.1 hn.2.1 hn.2.2.1
  subst e1
  rcases R with ⟨e, z⟩ | ⟨g, c, qs, e, h2, h3, h4, h5, h6⟩
  · injection e with a1 a2 a3
    subst a1 a2 a3
    exact ⟨[], N, hn.1, ⟨hn.2.1, hn.2.2.1⟩, rfl, (fun q hq => by cases hq), (fun q hq => by cases hq), .inl rfl, fun _ => ⟨rfl, rfl⟩, Nat.le_refl _, Nat.zero_le _⟩
  · injection e with a1 a2 a3
    subst a1 a2 a3
    obtain ⟨cur, hg⟩ := lb g rfl
    have key : ∀ k, k < xn → (qs.getD k default) ∈ qs ∧ rs.getD k default ∈ rs := fun k hk => by
      have q1 : k < qs.length := by omega
      have q2 : k < rs.length := by rw [hr.1]; exact hk
      exact ⟨by rw [show qs.getD k default = qs[k] by simp [List.getD, q1]]; exact List.getElem_mem q1, by rw [show rs.getD k default = rs[k] by simp [List.getD, q2]]; exact List.getElem_mem q2⟩
    refine ⟨(List.range xn).map (fun k => ⟨(qs.getD k default).a, (qs.getD k default).n, (qs.getD k default).cap, (rs.getD k default).cs⟩), N, hn.1, ⟨hn.2.1, hn.2.2.1⟩, by simp, fun q hq => ?_, fun q hq => ?_, .inr ⟨g, cur, rfl, ⟨h3.1, hg⟩, fun i hi => ?_⟩, (fun z => by cases z), h2, hr.2.1⟩
    · obtain ⟨k, hk, rfl⟩ := List.mem_map.1 hq
      have := h6 k (List.mem_range.1 hk)
      exact this
    · obtain ⟨k, hk, rfl⟩ := List.mem_map.1 hq
      have m := (key k (List.mem_range.1 hk)).2
      have rc := (hr.2.2.1 _ m).1
      exact ⟨rc.2.2.1, by rw [rc.1]; exact rc.2.1⟩
    · have c0 := h5 i hi
      rw [Joins.cell_of_block hg] at c0
      rw [c0]
      simp [List.getD, hi, qv]
set_option maxRecDepth 100000 in
set_option maxHeartbeats 8000000 in
theorem turned_any (ta : Tb) (w : World) (hA : TbOk w ta) (bh : Bh w) (hsm : ta.ln ≤ 1048576) :
    Calls Tryd.prog 8 #[ta.val] w fun e w' => e = .returned (.bool true) ∧ Below w.heap.size w w' := by
  have KOA := Lib.hid (fun (W : World) (q : Below w.heap.size w W) => own_any2 ta.an ta.ar ta.ln ta.cn ta.lr ta.cr ta.ss ta.rs W (hA.nl.later q) (hA.rl.later q) hA.nn hA.rn (bh.later q))
  have SWO := Lib.hid (fun (W : World) (B : Nat) (xa xb : Option Addr) (xm xc xn xd : Nat) (N : NO W B ta.an (.slice xa xm xc) ta.ln ta.ss) (R : RO W B (.slice xb xn xd) ta.lr ta.rs) (lb : LB W (.slice xb xn xd)) => swT_of hA.nl hA.rl N R lb)
  obtain ⟨an, ln, cn, tss, ar, lr, cr, trs⟩ := ta
  have B0 := Lib.hid (below_al w (.cells #[.slice an ln cn, .slice ar lr cr] 25))
  obtain ⟨a0, a1, _, _⟩ := box_all2 (World.alloc_heap_new w (.cells #[.slice an ln cn, .slice ar lr cr] 25))
  have NLN := Lib.hid (p := ∀ (W : World) (B : Nat) (x : Option Addr) (m c : Nat), NO W B an (.slice x m c) ln tss → m = ln) (fun W B x m c k => (k.nl hA.nl.1 hA.nl.2.1 hA.nl.2.2.1).1)
  clear hA bh
  simp only [Tb.val] at *
  go_enter Tryd.func8, Tryd.ntmps8
  go_upto_region 2 with (go_at_call 9; refine (KOA.out _ B0.out).mono ?_; rintro e w2 ⟨xa, xm, xc, v2, rfl, hNO, hRO, hb, hlb⟩; obtain ⟨xb, xn, xd, hv2, _⟩ := ro_hd hRO; subst hv2; obtain ⟨qs, hSW⟩ := SWO.out _ _ _ _ _ _ _ _ hNO hRO hlb; have hm := NLN.out _ _ _ _ _ hNO; subst hm; have SW2 := Lib.hid hSW; have D2 := Lib.hid hb; clear hNO hRO hb hlb hSW)
  have A2 := Lib.hid (below_al w2 (.cells #[.slice xa xm xc, .slice xb xn xd] 25))
  have HX := Lib.hid (World.alloc_heap_new w2 (.cells #[.slice xa xm xc, .slice xb xn xd] 25))
  have E2 := Lib.hid (p := Below w.heap.size w (w2.alloc (.cells #[.slice xa xm xc, .slice xb xn xd] 25))) ((B0.out.trans (D2.out.mono B0.out.size)).alloc (Nat.le_trans B0.out.size D2.out.size) _)
  have SW3 := Lib.hid (SW2.out.below A2.out)
  obtain ⟨W0, hW0⟩ : ∃ u, w2.alloc (.cells #[.slice xa xm xc, .slice xb xn xd] 25) = u := ⟨_, rfl⟩
  rw [hW0] at HX E2 SW3 A2
  rw [hW0]
  obtain ⟨X, hX⟩ : ∃ x, w2.heap.size = x := ⟨_, rfl⟩
  rw [hX] at HX
  rw [hX]
  have XB := Lib.hid (p := X < W0.heap.size) (blk_lt HX.out)
  have GLT := Lib.hid (p := ∀ g, xb = some ⟨g, 0, none⟩ → 0 < xn → g < X) (fun g e hn => by
    obtain ⟨g', e1, _, e2, _⟩ := SW2.out.cell hn
    rw [e] at e1; injection e1 with e1; injection e1 with e1; subst e1
    rw [← hX]; exact e2)
  have KB := Lib.hid (fun (W : World) (qs : List Rw) (h : SwT W (w.heap.size + 1) an xa xb xm xc xn xd tss qs) => bind_any ⟨xa, xm, xc, tss, xb, xn, xd, qs⟩ tss (qs.map (·.cs)) xa xm xc tss W h.tb h.tb.nl (by omega))
  have KRB := Lib.hid (fun (W : World) (qs : List Rw) (h : SwT W (w.heap.size + 1) an xa xb xm xc xn xd tss qs) => rBind_any ⟨xa, xm, xc, tss, xb, xn, xd, qs⟩ tss (qs.map (·.cs)) xa xm xc tss W h.tb h.tb.nl (by omega))
  have nb := SW3.out.le.2
  have KC := Lib.hid (fun (W : World) (qs : List Rw) (k : Nat) (hk : k ≤ xn) (h : SwT W (w.heap.size + 1) an xa xb xm xc xn xd tss qs) => cut_any ⟨xa, xm, xc, tss, xb, xn, xd, qs⟩ tss (qs.map (·.cs)) (k : Int) W h.tb (by omega))
  have KRC := Lib.hid (fun (W : World) (qs : List Rw) (k : Nat) (hk : k ≤ xn) (h : SwT W (w.heap.size + 1) an xa xb xm xc xn xd tss qs) => rCut_any ⟨xa, xm, xc, tss, xb, xn, xd, qs⟩ tss (qs.map (·.cs)) (k : Int) W h.tb h.le.1 (by omega))
  unfold TabE at KC KRC
  unfold BndE at KB
  unfold RBE at KRB
  simp only [Tb.val] at KB KRB KC KRC
  have bs : (w.alloc (.cells #[.slice an xm cn, .slice ar lr cr] 25)).heap.size = w.heap.size + 1 := World.size_alloc _ _
  rw [bs] at SW3
  obtain ⟨x0, x1, _, _⟩ := box_all2 HX.out
  clear KOA SWO NLN a0 a1 SW2 D2 A2 hX hW0 bs
  go_wp2_with (first
    | (go_at_call 14; refine (KB.out W0 qs SW3.out).mono ?_; rintro e w4 ⟨la, lm, lc, rfl, _, _, _, hb⟩; have S4 := Lib.hid (SW3.out.below hb); have H4 := Lib.hid ((hb.block X XB.out).trans HX.out); have E4 := Lib.hid (E2.out.trans (hb.mono E2.out.size)); have X4 := Lib.hid (blk_lt H4.out); obtain ⟨x0, x1, _, _⟩ := box_all2 H4.out; clear hb)
    | (go_at_call 15; refine (KC.out w4 qs xn (Nat.le_refl _) S4.out).mono ?_; rintro e w5 ⟨u5, rfl, _, hb⟩; have S5 := Lib.hid (S4.out.below hb); have H5 := Lib.hid ((hb.block X X4.out).trans H4.out); have E5 := Lib.hid (E4.out.trans (hb.mono E4.out.size)); clear hb))
  obtain ⟨hf, hhf⟩ : ∃ h : Nat, xn / 2 = h := ⟨_, rfl⟩
  have dv : (xn : Int).tdiv 2 = (hf : Int) := by rw [Int.tdiv_eq_ediv_of_nonneg (by omega)]; omega
  have kwd : IntKind.i64.wrap (hf : Int) = (hf : Int) := by simp [IntKind.wrap, IntKind.bits, IntKind.signed]; omega
  clear x0 x1
  go_loopw [4] (fun t ws => ∃ (i : Nat) (ps : List Rw), i ≤ hf ∧ t = .int .i64 (i : Int) ∧ RowKit.Hid (SwT ws (w.heap.size + 1) an xa xb xm xc xn xd tss ps ∧ ws.heap[X]? = some (.cells #[.slice xa xm xc, .slice xb xn xd] 25) ∧ Below w.heap.size w ws)) (fun t _ => hf - (intOf t).toNat)
  case atStart => exact ⟨0, qs, Nat.zero_le _, rfl, S5.out, H5.out, E5.out⟩
  case round =>
    obtain ⟨i, ps, hi, rfl, hQ⟩ := hrel
    rename World => ws
    have SS := Lib.hid hQ.out.1
    have HS := Lib.hid hQ.out.2.1
    have ES := Lib.hid hQ.out.2.2
    clear hQ
    obtain ⟨x0, x1, _, _⟩ := box_all2 HS.out
    by_cases hlt : i < hf
    · have kc : (i : Int) < (hf : Int) := by omega
      have kw : IntKind.i64.wrap ((i : Int) + 1) = (i : Int) + 1 := by simp [IntKind.wrap, IntKind.bits, IntKind.signed]; omega
      obtain ⟨j, hj⟩ : ∃ j : Nat, xn - 1 - i = j := ⟨_, rfl⟩
      have k1 : IntKind.i64.wrap ((xn : Int) - 1) = (xn : Int) - 1 := by simp [IntKind.wrap, IntKind.bits, IntKind.signed]; omega
      have k2 : IntKind.i64.wrap ((xn : Int) - 1 - (i : Int)) = (j : Int) := by simp [IntKind.wrap, IntKind.bits, IntKind.signed]; omega
      obtain ⟨g, rfl, gB, gs, gc⟩ := SS.out.cell (i := i) (by omega)
      obtain ⟨c0, f0⟩ := gc i (by omega)
      obtain ⟨c1, f1⟩ := gc j (by omega)
      have kj : (j : Int) < (xn : Int) := by omega
      have ki : (i : Int) < (xn : Int) := by omega
      have gX := GLT.out g rfl (by omega)
      have SWa := Lib.hid (SS.out.swap (i := i) (j := j) (by omega) (by omega) (by omega) _ _ rfl rfl)
      have SWb := Lib.hid (SS.out.swap (i := j) (j := i) (by omega) (by omega) (by omega) _ _ rfl rfl)
      have HXa := Lib.hid (p := ∀ (a b : Nat) (u v : Value), ((ws.setCell ⟨g, a, none⟩ u).setCell ⟨g, b, none⟩ v).heap[X]? = some (.cells #[.slice xa xm xc, .slice (some ⟨g, 0, none⟩) xn xd] 25)) (fun a b u v => by
        have ne : ¬ g = X := by omega
        simp only [World.setCell, Array.getElem?_modify, ne, if_false]
        exact HS.out)
      have EXa := Lib.hid (p := ∀ (a b : Nat) (u v : Value), Below w.heap.size w ((ws.setCell ⟨g, a, none⟩ u).setCell ⟨g, b, none⟩ v)) (fun a b u v => (ES.out.setCell (p := ⟨g, a, none⟩) (by simp; omega) _).setCell (p := ⟨g, b, none⟩) (by simp; omega) _)
      unfold qv at SWa SWb
      clear KB KRB KC KRC B0 E2 E4 E5 S4 S5 H4 H5 X4 XB SW3 HX GLT SS HS ES gc
      go_wp2
      go_region
      all_goals
        as_aux_lemma =>
          go_wp2
          go_roundw
          case rel => first
            | exact ⟨i + 1, _, by omega, by go_num, SWa.out.below (below_eq (Below.refl _ _) rfl rfl rfl rfl), HXa.out _ _ _ _, below_eq (EXa.out _ _ _ _) rfl rfl rfl rfl⟩
            | exact ⟨i + 1, _, by omega, by go_num, SWb.out.below (below_eq (Below.refl _ _) rfl rfl rfl rfl), HXa.out _ _ _ _, below_eq (EXa.out _ _ _ _) rfl rfl rfl rfl⟩
          case measure => simp [intOf]; omega
    · obtain rfl : i = hf := by omega
      have kc : ¬ (i : Int) < (i : Int) := by omega
      have FT := Lib.hid (p := ∀ qs : List Rw, qs.map (·.cs) = (if bindE tss (ps.map (·.cs)) tss = 0 then bndR tss (ps.map (·.cs)) tss else []) → qs.length ≤ 4096 ∧ ∀ q ∈ qs, q.cs.length ≤ 2000000 ∧ ∀ c ∈ q.cs, (Lit.int .i64 c.v).wf = true) (fun qs hq => bnd_fit SS.out.tb hq (by rw [SS.out.sl]; omega))
      have XS := Lib.hid (p := X < ws.heap.size) (blk_lt HS.out)
      go_upto_region 9 with (go_at_call 14; refine (KB.out ws ps SS.out).mono ?_; rintro e w6 ⟨la, lm, lc, rfl, q6, hR, hQ, hb⟩; have R6 := Lib.hid hR; have Q6 := Lib.hid hQ; have S6 := Lib.hid (SS.out.below hb); have H6 := Lib.hid ((hb.block X XS.out).trans HS.out); have E6 := Lib.hid (ES.out.trans (hb.mono ES.out.size)); obtain ⟨x2, x3, _, _⟩ := box_all2 H6.out; clear hR hQ hb)
      have X6 := Lib.hid (p := X < w6.heap.size) (blk_lt H6.out)
      clear x0 x1
      go_upto_region 10 with (go_at_call 16; refine (KRB.out w6 ps S6.out).mono ?_; rintro e w7 ⟨ka, km, kc', rfl, q7, hR, hQ, hb⟩; have R7 := Lib.hid hR; have Q7 := Lib.hid hQ; have L7 := Lib.hid (R6.out.below hb); have S7 := Lib.hid (S6.out.below hb); have H7 := Lib.hid ((hb.block X X6.out).trans H6.out); have E7 := Lib.hid (E6.out.trans (hb.mono E6.out.size)); obtain ⟨x4, x5, _, _⟩ := box_all2 H7.out; clear hR hQ hb)
      have X7 := Lib.hid (p := X < w7.heap.size) (blk_lt H7.out)
      clear x2 x3
      go_upto_region 11 with (go_at_call 15; refine (KC.out w7 ps i (by omega) S7.out).mono ?_; rintro e w8 ⟨u8, rfl, hI, hb⟩; obtain ⟨ua, ul, uc, uq, va, vl, vc, vq⟩ := u8; have I8 := Lib.hid hI; have D8 := Lib.hid (hb.trans ((below_al w8 (.cells #[.slice ua ul uc, .slice va vl vc] 25)).mono hb.size)); have A8 := Lib.hid (below_al w8 (.cells #[.slice ua ul uc, .slice va vl vc] 25)); clear hI hb)
      have S8 := Lib.hid (S7.out.below D8.out)
      have H8 := Lib.hid ((D8.out.block X X7.out).trans H7.out)
      have E8 := Lib.hid (E7.out.trans (D8.out.mono E7.out.size))
      have HT8 := Lib.hid (World.alloc_heap_new w8 (.cells #[.slice ua ul uc, .slice va vl vc] 25))
      obtain ⟨x6, x7, _, _⟩ := box_all2 H8.out
      clear x4 x5
      go_upto_region 12 with (go_at_call 17; refine (KRC.out _ ps i (by omega) S8.out).mono ?_; rintro e w9 ⟨u9, rfl, hI, hb⟩; obtain ⟨ya, yl, yc, yq, za, zl, zc, zq⟩ := u9; have I9 := Lib.hid hI; have D9 := Lib.hid (hb.trans ((below_al w9 (.cells #[.slice ya yl yc, .slice za zl zc] 25)).mono hb.size)); have A9 := Lib.hid (below_al w9 (.cells #[.slice ya yl yc, .slice za zl zc] 25)); clear hI hb)
      have E9 := Lib.hid (E8.out.trans (D9.out.mono E8.out.size))
      obtain ⟨f1, f2⟩ := FT.out q6 Q6.out
      obtain ⟨g1, g2⟩ := FT.out q7 Q7.out
      have B79 := Lib.hid (D8.out.trans (D9.out.mono D8.out.size))
      obtain ⟨el, rl, _⟩ := (rwo_rwa L7.out (fun q hq => (f2 q hq).1)).rl f1 (fun q hq => by have := (f2 q hq).1; omega) (fun q hq => (f2 q hq).2)
      obtain ⟨ek, rk, _⟩ := R7.out.rl g1 (fun q hq => by have := (g2 q hq).1; omega) (fun q hq => (g2 q hq).2)
      have elk : km = lm := by
        have := congrArg List.length (Q6.out.trans Q7.out.symm)
        simp at this
        omega
      subst elk
      have KS := Lib.hid (sameRows_any la ka km lc kc' q6 q7 _ (rl.later B79.out) (rk.later B79.out) (Q6.out.trans Q7.out.symm))
      have I8b := Lib.hid (I8.out.later (A8.out.trans (D9.out.mono A8.out.size)))
      have I9b := Lib.hid (I9.out.later A9.out)
      have BXs := Lib.hid (p := ∀ W, Below (w9.alloc (.cells #[.slice ya yl yc, .slice za zl zc] 25)).heap.size (w9.alloc (.cells #[.slice ya yl yc, .slice za zl zc] 25)) W → (W.cell? ⟨w8.heap.size, 0, none⟩ = some (.slice ua ul uc) ∧ W.cell? ⟨w8.heap.size, 1, none⟩ = some (.slice va vl vc)) ∧ W.cell? ⟨w9.heap.size, 0, none⟩ = some (.slice ya yl yc) ∧ W.cell? ⟨w9.heap.size, 1, none⟩ = some (.slice za zl zc)) (fun W q => by
        have t1 := (D9.out.block _ (blk_lt HT8.out)).trans HT8.out
        have t2 := World.alloc_heap_new w9 (.cells #[.slice ya yl yc, .slice za zl zc] 25)
        obtain ⟨m0, m1, _, _⟩ := box_all2 ((q.block _ (blk_lt t1)).trans t1)
        obtain ⟨m2, m3, _, _⟩ := box_all2 ((q.block _ (blk_lt t2)).trans t2)
        exact ⟨⟨m0, m1⟩, m2, m3⟩)
      have KT := Lib.hid (fun (W : World) (q : Below (w9.alloc (.cells #[.slice ya yl yc, .slice za zl zc] 25)).heap.size (w9.alloc (.cells #[.slice ya yl yc, .slice za zl zc] 25)) W) => sameT_any ⟨ua, ul, uc, uq, va, vl, vc, vq⟩ ⟨ya, yl, yc, yq, za, zl, zc, zq⟩ _ _ W (I8b.out.later q) (I9b.out.later q))
      simp only [Tb.val] at KT
      clear f1 f2 g1 g2 el rl ek rk x6 x7
      go_wp2_with (first
        | (go_at_call 18; refine KS.out.mono ?_; rintro e wa ⟨rfl, qa, hqa⟩; have Ba := Lib.hid (p := Below (w9.alloc (.cells #[.slice ya yl yc, .slice za zl zc] 25)).heap.size (w9.alloc (.cells #[.slice ya yl yc, .slice za zl zc] 25)) wa) (by rw [hqa]; exact drewN_below _ qa); obtain ⟨⟨m0, m1⟩, m2, m3⟩ := BXs.out _ Ba.out; have Ea := Lib.hid (E9.out.trans (Ba.out.mono E9.out.size)); clear hqa)
        | (go_at_call 19; refine (KT.out _ Ba.out).mono ?_; rintro e wb ⟨rfl, hb⟩; have Eb := Lib.hid (Ea.out.trans (hb.mono Ea.out.size)); clear hb))
      go_ret
      exact ⟨rfl, Eb.out⟩
end Go.Proofs.YtglgdfgdfkeogaaDoor

namespace Go.Proofs.YtglgdfgdfkeogaaDoor
open Go.RowKit
set_option linter.unusedVariables false
set_option linter.unusedSimpArgs false

theorem AqL.later {w w' : World} {a : Option Addr} {n : Nat} {xs : List Aq} (h : AqL w a n xs) (b : Below w.heap.size w w') : AqL w' a n xs := by
  obtain ⟨h1, h2, h3, h4⟩ := h
  refine ⟨h1, h2, fun x hx => (h3 x hx).later b, ?_⟩
  rcases h4 with h4 | ⟨z, o, e, hz, hc⟩
  · exact .inl h4
  · exact .inr ⟨z, o, e, Nat.lt_of_lt_of_le hz b.size, fun i hi => ⟨(b.cell (p := ⟨z, o + i * 3, none⟩) hz).trans (hc i hi).1, (b.cell (p := ⟨z, o + i * 3 + 1, none⟩) hz).trans (hc i hi).2.1, (b.cell (p := ⟨z, o + i * 3 + 2, none⟩) hz).trans (hc i hi).2.2⟩⟩
/-- What the laws are given. -/
structure AskG (w : World) (ta tb : Tb) (sa : Option Addr) (sl : Nat) (xs : List Aq) : Prop where
  a : TbOk w ta
  b : TbOk w tb
  s : AqL w sa sl xs
  bh : Bh w
  ot : Ot w
  ol : 1 < w.heap.size
  sm : ta.ln ≤ 1048576
  sm2 : tb.ln ≤ 1048576
theorem AskG.later {w w' : World} {ta tb : Tb} {sa : Option Addr} {sl : Nat} {xs : List Aq} (h : AskG w ta tb sa sl xs) (q : Below w.heap.size w w') : AskG w' ta tb sa sl xs :=
  ⟨h.a.later q, h.b.later q, h.s.later q, h.bh.later q, ⟨(q.cell (p := ⟨1, 0, none⟩) h.ol).trans h.ot.1, (q.cell (p := ⟨1, 1, none⟩) h.ol).trans h.ot.2⟩, Nat.lt_of_lt_of_le h.ol q.size, h.sm, h.sm2⟩
set_option maxRecDepth 100000 in
set_option maxHeartbeats 4000000 in
theorem asks_any (lo hi : Int) (KA : AskK lo hi) (ta tb : Tb) (sa : Option Addr) (sl sc : Nat) (xs : List Aq) (w : World) (h : AskG w ta tb sa sl xs) :
    Calls Tryd.prog 6 #[ta.val, tb.val, .slice sa sl sc, .int .i64 lo, .int .i64 hi] w fun e w' => e = .returned (.bool true) ∧ Below w.heap.size w w' := by
  have hB0 := two_boxes w (.slice ta.an ta.ln ta.cn) (.slice ta.ar ta.lr ta.cr) (.slice tb.an tb.ln tb.cn) (.slice tb.ar tb.lr tb.cr) 25
  have B0 := Lib.hid hB0
  have CE := Lib.hid (fun W (q : Below ((w.alloc (.cells #[.slice ta.an ta.ln ta.cn, .slice ta.ar ta.lr ta.cr] 25)).alloc (.cells #[.slice tb.an tb.ln tb.cn, .slice tb.ar tb.lr tb.cr] 25)).heap.size ((w.alloc (.cells #[.slice ta.an ta.ln ta.cn, .slice ta.ar ta.lr ta.cr] 25)).alloc (.cells #[.slice tb.an tb.ln tb.cn, .slice tb.ar tb.lr tb.cr] 25)) W) => two_cells q)
  have h1 := h.later hB0
  obtain ⟨w1, hw1⟩ : ∃ u, (w.alloc (.cells #[.slice ta.an ta.ln ta.cn, .slice ta.ar ta.lr ta.cr] 25)).alloc (.cells #[.slice tb.an tb.ln tb.cn, .slice tb.ar tb.lr tb.cr] 25) = u := ⟨_, rfl⟩
  rw [hw1] at h1 B0 CE
  have KP := Lib.hid (p := ∀ (late : Bool) (W : World), Below w1.heap.size w1 W → Calls Tryd.prog 7 #[ta.val, tb.val, .slice sa sl sc, .int .i64 lo, .int .i64 hi, .pointer (some ⟨W.heap.size, 0, none⟩)] (W.alloc (.cells (newB late).toArray 36)) fun e w' => e = .returned (.bool true) ∧ Below w1.heap.size w1 w') (fun late W q => pass_any lo hi KA ta tb sa sl sc xs late W.heap.size w1 _ (q.trans ((below_al W _).mono q.size)) q.size (World.alloc_heap_new W _) h1.a h1.b h1.s h1.bh h1.ot h1.ol h1.sm h1.sm2)
  have KT := Lib.hid (fun (W : World) (q : Below w1.heap.size w1 W) => turned_any ta W (h1.a.later q) (h1.bh.later q) h1.sm)
  obtain ⟨an, ln, cn, tss, ar, lr, cr, trs⟩ := ta
  obtain ⟨bn, mn, dn, uss, br, mr, dr, urs⟩ := tb
  obtain ⟨q0, q1⟩ := CE.out _ (Below.refl _ _)
  obtain ⟨a0, a1, _, _⟩ := box_all2 q0
  obtain ⟨b0, b1, _, _⟩ := box_all2 q1
  clear h h1 hB0 KA q0 q1
  simp only [Tb.val] at *
  have K1 := Lib.hid (p := Calls Tryd.prog 7 #[.agg #[.slice an ln cn, .slice ar lr cr], .agg #[.slice bn mn dn, .slice br mr dr], .slice sa sl sc, .int .i64 lo, .int .i64 hi, .pointer (some ⟨w.heap.size + 1 + 1, 0, none⟩)] (w1.alloc (.cells (newB false).toArray 36)) fun e w' => e = .returned (.bool true) ∧ Below w1.heap.size w1 w') (by
    have := KP.out false w1 (Below.refl _ _)
    rwa [show w1.heap.size = w.heap.size + 1 + 1 by rw [← hw1]; simp only [World.size_alloc]] at this ⊢)
  have K2 := Lib.hid (KP.out true)
  clear KP
  rw [show (newB false).toArray = #[Value.slice none 0 0, Value.slice none 0 0, Value.slice none 0 0, Value.slice none 0 0, Value.slice none 0 0, Value.slice none 0 0, Value.slice none 0 0, Value.slice none 0 0, Value.slice none 0 0, Value.slice none 0 0, Value.slice none 0 0, Value.int .i64 0, Value.bool false, Value.slice none 0 0, Value.slice none 0 0, Value.slice none 0 0, Value.slice none 0 0, Value.slice none 0 0, Value.slice none 0 0] from rfl] at K1
  rw [show (newB true).toArray = #[Value.slice none 0 0, Value.slice none 0 0, Value.slice none 0 0, Value.slice none 0 0, Value.slice none 0 0, Value.slice none 0 0, Value.slice none 0 0, Value.slice none 0 0, Value.slice none 0 0, Value.slice none 0 0, Value.slice none 0 0, Value.int .i64 0, Value.bool true, Value.slice none 0 0, Value.slice none 0 0, Value.slice none 0 0, Value.slice none 0 0, Value.slice none 0 0, Value.slice none 0 0] from rfl] at K2
  subst hw1
  go_enter Tryd.func6, Tryd.ntmps6
  go_wp2_with (first
    | (go_at_call 7; have mk := K1; refine K1.out.mono ?_; rintro e w2 ⟨rfl, hb⟩; have D2 := Lib.hid hb; obtain ⟨q0, q1⟩ := CE.out _ hb; obtain ⟨a2, a3, _, _⟩ := box_all2 q0; obtain ⟨b2, b3, _, _⟩ := box_all2 q1; clear K1 mk hb q0 q1)
    | (go_at_call 7; refine (K2.out w2 D2.out).mono ?_; rintro e w3 ⟨rfl, hb⟩; have D3 := Lib.hid hb; obtain ⟨q0, q1⟩ := CE.out _ hb; obtain ⟨a4, a5, _, _⟩ := box_all2 q0; clear hb q0 q1)
    | (go_at_call 8; refine (KT.out w3 D3.out).mono ?_; rintro e w4 ⟨rfl, hb⟩; have D4 := Lib.hid (B0.out.trans ((D3.out.trans (hb.mono D3.out.size)).mono B0.out.size)); clear hb))
  go_ret
  exact ⟨rfl, D4.out⟩
set_option maxRecDepth 100000 in
theorem tableBinds_any (ta tb : Tb) (sa : Option Addr) (sl sc : Nat) (xs : List Aq) (w : World) (h : AskG w ta tb sa sl xs) :
    Calls Tryd.prog 3 #[ta.val, tb.val, .slice sa sl sc] w fun e w' => e = .returned (.bool true) ∧ Below w.heap.size w w' := by
  have hB0 := two_boxes w (.slice ta.an ta.ln ta.cn) (.slice ta.ar ta.lr ta.cr) (.slice tb.an tb.ln tb.cn) (.slice tb.ar tb.lr tb.cr) 25
  have B0 := Lib.hid hB0
  have K := Lib.hid (asks_any 1 2 askK_binds ta tb sa sl sc xs _ (h.later hB0))
  obtain ⟨q0, q1⟩ := two_cells (Below.refl _ ((w.alloc (.cells #[.slice ta.an ta.ln ta.cn, .slice ta.ar ta.lr ta.cr] 25)).alloc (.cells #[.slice tb.an tb.ln tb.cn, .slice tb.ar tb.lr tb.cr] 25)))
  obtain ⟨a0, a1, _, _⟩ := box_all2 q0
  obtain ⟨b0, b1, _, _⟩ := box_all2 q1
  obtain ⟨an, ln, cn, tss, ar, lr, cr, trs⟩ := ta
  obtain ⟨bn, mn, dn, uss, br, mr, dr, urs⟩ := tb
  clear h hB0 q0 q1
  simp only [Tb.val] at *
  go_enter Tryd.func3, Tryd.ntmps3
  go_wp2_with (go_at_call 6; refine K.out.mono ?_; rintro e w2 ⟨rfl, hb⟩; have D2 := Lib.hid (B0.out.trans (hb.mono B0.out.size)); clear hb)
  go_ret
  exact ⟨rfl, D2.out⟩
end Go.Proofs.YtglgdfgdfkeogaaDoor

namespace Go.Proofs.YtglgdfgdfkeogaaDoor
open Go.RowKit
set_option linter.unusedVariables false
set_option linter.unusedSimpArgs false

set_option maxRecDepth 100000 in
set_option maxHeartbeats 8000000 in
theorem ask_miss (B bk : Nat) (late : Bool) (K : Nat) (ta tb : Tb) (ss : List ByteArray) (ra : List (List Cl)) (na : Option Addr) (nn nc : Nat) (ns : List ByteArray) (N : Int) (w : World) (h : BkS w B bk late K []) (hA : TbIs w ta ss ra) (hN : NL w na nn ns) (hn0 : na = none → nn = 0 ∧ nc = 0) (hl : nn ≤ 1048576) (G : Gl B bk w) (hB : B ≤ w.heap.size) (hK : K ≤ 30000000) :
    Calls Tryd.prog 10 #[ta.val, tb.val, .agg #[.int .i64 6, .slice na nn nc, .int .i64 N], .pointer (some ⟨bk, 0, none⟩)] w fun e w' => AskE B bk late K w e w' := by
  obtain ⟨hb0, hce⟩ := askW_all w ta tb 6 na nn nc N
  have CE := Lib.hid hce
  obtain ⟨w1, hw1⟩ : ∃ u, askW w ta tb 6 na nn nc N = u := ⟨_, rfl⟩
  rw [hw1] at hb0 CE
  have B0 := Lib.hid hb0
  have nl : ns.length = nn := hN.1
  have KO := Lib.hid (fun (W : World) (b : Below w.heap.size w W) => ownNames_any na nn nc ns W (hN.later b) hn0)
  have KB := Lib.hid (fun (W : World) (b : Below w.heap.size w W) (x : Option Addr) (m c : Nat) (k : NL W x m ns) (hm : m ≤ 1048576) => missing_any ta ss ra x m c ns N W (hA.later b) k (by omega))
  have KR := Lib.hid (fun (W : World) (b : Below w.heap.size w W) => rMissing_any ta ss ra na nn nc ns N W (hA.later b) (hN.later b) (by omega))
  have KI := Lib.hid (fun (W : World) (b : Below w.heap.size w W) (Bx : Nat) (x : Option Addr) (m c : Nat) (k : NO W Bx na (.slice x m c) nn ns) => intactNames_any Bx na x nn m nc c ns W (hN.later b) hn0 k)
  have NF := Lib.hid (p := ∀ (Bx : Nat) (W : World) (x : Option Addr) (m c : Nat), NO W Bx na (.slice x m c) nn ns → m = nn ∧ NL W x nn ns) (fun Bx W x m c k => k.nl nl hN.2.1 hN.2.2.1)
  have FT := Lib.hid (p := (if missE ss ra ns N = 0 then missP ss ra ns (N + 1).toNat else []).length ≤ 900000000000) (by
    split
    · rename_i e
      have hb : ¬ (N < 0 ∨ 3660 < N) := fun q => by unfold missE at e; rw [if_pos q] at e; omega
      have := missP_le ss ra ns (N + 1).toNat
      have h2 : (N + 1).toNat * ns.length ≤ 3661 * 1048576 := Nat.mul_le_mul (by omega) (by omega)
      omega
    · simp)
  have HS := Lib.hid h
  have GG := Lib.hid (p := ∀ W, Below w.heap.size w W → Gl B bk W ∧ B ≤ W.heap.size) (fun W b => ⟨G.fr (Fr.below b hB), Nat.le_trans hB b.size⟩)
  obtain ⟨E, hE⟩ : ∃ E, missE ss ra ns N = E := ⟨_, rfl⟩
  unfold MsE at KB KR
  simp only [hE] at KB KR FT
  generalize (if E = 0 then missP ss ra ns (N + 1).toNat else []) = ps at KB KR FT
  have c1 := CE.out w1 (Below.refl _ _)
  obtain ⟨a0, a1, b0, b1, x0, x1, x2⟩ := c1
  clear h hA hN hn0 hb0 hce G hE
  unfold askW at hw1
  obtain ⟨an, ln, cn, tss, ar, lr, cr, trs⟩ := ta
  obtain ⟨bn, mn, dn, uss, br, mr, dr, urs⟩ := tb
  simp only [Tb.val] at *
  subst hw1
  go_enter Tryd.func10, Tryd.ntmps10
  go_wp2_with (first
    | (go_at_call 20; refine (KO.out _ B0.out).mono ?_; rintro e w2 ⟨ia, im, ic, rfl, hO, hb⟩; have D2 := Lib.hid hb; have E2 := Lib.hid (B0.out.trans (hb.mono B0.out.size)); have O2 := Lib.hid hO; obtain ⟨em, hnl⟩ := NF.out _ _ _ _ _ hO; subst em; have N2 := Lib.hid hnl; obtain ⟨a0, a1, b0, b1, x0, x1, x2⟩ := CE.out _ hb; clear hO hb hnl)
    | (go_at_call 28; refine (KB.out _ E2.out _ _ _ N2.out hl).mono ?_; rintro e w3 ⟨v3, rfl, hR, hb⟩; obtain ⟨la, lc, hv⟩ := own_form2 hR; subst hv; have R3 := Lib.hid hR; have D3 := Lib.hid hb; have T3 := Lib.hid (D2.out.trans (hb.mono D2.out.size)); have E3 := Lib.hid (E2.out.trans (hb.mono E2.out.size)); obtain ⟨a0, a1, b0, b1, x0, x1, x2⟩ := CE.out _ T3.out; clear hR hb)
    | (go_at_call 29; refine (KR.out _ E3.out).mono ?_; rintro e w4 ⟨v4, rfl, hR, hb⟩; obtain ⟨ka, kc, hv⟩ := own_form2 hR; subst hv; have R4 := Lib.hid hR; have D4 := Lib.hid (D3.out.trans (hb.mono D3.out.size)); have T4 := Lib.hid (T3.out.trans (hb.mono T3.out.size)); have E4 := Lib.hid (E3.out.trans (hb.mono E3.out.size)); have L4 := Lib.hid (own_back R3.out hb); obtain ⟨a0, a1, b0, b1, x0, x1, x2⟩ := CE.out _ T4.out; clear hR hb))
  have KS := Lib.hid (samePairs_any la ka ps.length lc kc ps w4 (pl_of_own L4.out (by have := FT.out; omega)) (pl_of_own R4.out (by have := FT.out; omega)))
  go_wp2_with (first
    | (go_at_call 30; refine KS.out.mono ?_; rintro e w5 ⟨rfl, q5, hq5⟩; have B5 := Lib.hid (p := Below w4.heap.size w4 w5) (by rw [hq5]; exact drewN_below w4 q5); have D5 := Lib.hid (D4.out.trans (B5.out.mono D4.out.size)); have E5 := Lib.hid (E4.out.trans (B5.out.mono E4.out.size)); have T5 := Lib.hid (T4.out.trans (B5.out.mono T4.out.size)); obtain ⟨a0, a1, b0, b1, x0, x1, x2⟩ := CE.out _ T5.out; clear hq5)
    | (go_at_call 21; refine (KI.out _ E5.out _ _ _ _ (O2.out.later D5.out)).mono ?_; rintro e w6 ⟨rfl, q6, hq6⟩; have B6 := Lib.hid (p := Below w5.heap.size w5 w6) (by rw [hq6]; exact drewN_below w5 q6); have D6 := Lib.hid (D5.out.trans (B6.out.mono D5.out.size)); have E6 := Lib.hid (E5.out.trans (B6.out.mono E5.out.size)); have L6 := Lib.hid (own_back (own_back L4.out B5.out) B6.out); clear hq6))
  obtain ⟨Y, y1, y2, y3⟩ := (HS.out.below E2.out).keepO D6.out L6.out
  have KW := Lib.hid (pairs_X B bk late K Y [] la ps.length lc ps w6 y1 (by omega) (GG.out _ E6.out).2 (own_mono L6.out (GG.out _ E2.out).2) y2 FT.out)
  have F6 := Lib.hid (Fr.below (bk := bk) E6.out hB)
  clear y1 y2 y3
  go_wp2_with (go_at_call 31; refine KW.out.mono ?_; rintro e w7 ⟨rfl, hS, hF⟩; have S7 := Lib.hid hS; have F7 := Lib.hid (F6.out.trans hF); clear hS hF)
  go_ret
  exact ⟨rfl, S7.out.mono (by omega), F7.out⟩
end Go.Proofs.YtglgdfgdfkeogaaDoor

namespace Go.Proofs.YtglgdfgdfkeogaaDoor
open Go.RowKit
set_option linter.unusedVariables false
set_option linter.unusedSimpArgs false

set_option maxRecDepth 100000 in
set_option maxHeartbeats 8000000 in
theorem ask_agree (B bk : Nat) (late : Bool) (K : Nat) (ta tb : Tb) (ss tt : List ByteArray) (ra rb : List (List Cl)) (na : Option Addr) (nn nc : Nat) (N : Int) (w : World) (h : BkS w B bk late K []) (hA : TbIs w ta ss ra) (hT : TbIs w tb tt rb) (hsum : ta.ln + tb.ln ≤ 8796093022000) (hB : B ≤ w.heap.size) :
    Calls Tryd.prog 10 #[ta.val, tb.val, .agg #[.int .i64 3, .slice na nn nc, .int .i64 N], .pointer (some ⟨bk, 0, none⟩)] w fun e w' => AskE B bk late K w e w' := by
  obtain ⟨hb0, hce⟩ := askW_all w ta tb 3 na nn nc N
  have CE := Lib.hid hce
  obtain ⟨w1, hw1⟩ : ∃ u, askW w ta tb 3 na nn nc N = u := ⟨_, rfl⟩
  rw [hw1] at hb0 CE
  have B0 := Lib.hid hb0
  have KA := Lib.hid (fun (W : World) (b : Below w.heap.size w W) => agreeT_any ta.an ta.ar tb.an tb.ar ta.ln ta.cn ta.lr ta.cr tb.ln tb.cn tb.lr tb.cr ta.ss tb.ss ta.rs tb.rs N W (hA.nl.later b) (hA.rl.later b) (hT.nl.later b) (hT.rl.later b))
  have KR := Lib.hid (fun (W : World) (b : Below w.heap.size w W) => rAgree_any ta.an ta.ar tb.an tb.ar ta.ln ta.cn ta.lr ta.cr tb.ln tb.cn tb.lr tb.cr ta.ss tb.ss ta.rs tb.rs N W (hA.nl.later b) (hA.rl.later b) (hT.nl.later b) (hT.rl.later b) hA.nn hT.nn hsum)
  obtain ⟨O, hO⟩ : ∃ O : Bool, O = true ↔ AgreeP ta.ss (ta.rs.map (·.cs)) tb.ss (tb.rs.map (·.cs)) N := ⟨@decide _ (Classical.propDecidable _), by
    by_cases q : AgreeP ta.ss (ta.rs.map (·.cs)) tb.ss (tb.rs.map (·.cs)) N
    · exact ⟨fun _ => q, fun _ => @decide_eq_true _ (Classical.propDecidable _) q⟩
    · exact ⟨fun z => @of_decide_eq_true _ (Classical.propDecidable _) z, fun z => absurd z q⟩⟩
  have same : ∀ v : Bool, (v = true ↔ AgreeP ta.ss (ta.rs.map (·.cs)) tb.ss (tb.rs.map (·.cs)) N) → v = O := fun v hv => by
    cases v <;> cases O
    · rfl
    · exact absurd (hv.2 (hO.1 rfl)) (by simp)
    · exact absurd (hO.2 (hv.1 rfl)) (by simp)
    · rfl
  have K1 := Lib.hid (p := ∀ W, Below w.heap.size w W → Calls Tryd.prog 24 #[.agg #[.slice ta.an ta.ln ta.cn, .slice ta.ar ta.lr ta.cr], .agg #[.slice tb.an tb.ln tb.cn, .slice tb.ar tb.lr tb.cr], .int .i64 N] W fun e w' => e = .returned (.bool O) ∧ Below W.heap.size W w') (fun W b => (KA.out W b).mono (fun e w' q => by
    obtain ⟨⟨v, e1, hv⟩, hb⟩ := q
    exact ⟨by rw [e1, same v hv], hb⟩))
  have K2 := Lib.hid (p := ∀ W, Below w.heap.size w W → Calls Tryd.prog 25 #[.agg #[.slice ta.an ta.ln ta.cn, .slice ta.ar ta.lr ta.cr], .agg #[.slice tb.an tb.ln tb.cn, .slice tb.ar tb.lr tb.cr], .int .i64 N] W fun e w' => e = .returned (.bool O) ∧ Below W.heap.size W w') (fun W b => (KR.out W b).mono (fun e w' q => by
    obtain ⟨⟨v, e1, hv⟩, hb⟩ := q
    exact ⟨by rw [e1, same v hv], hb⟩))
  have HS := Lib.hid h
  have c1 := CE.out w1 (Below.refl _ _)
  have ST := Lib.hid (p := ∀ W, Below w1.heap.size w1 W → W.cell? ⟨w.heap.size, 0, none⟩ = some (.slice ta.an ta.ln ta.cn) ∧ W.cell? ⟨w.heap.size, 1, none⟩ = some (.slice ta.ar ta.lr ta.cr) ∧ W.cell? ⟨w.heap.size + 1, 0, none⟩ = some (.slice tb.an tb.ln tb.cn) ∧ W.cell? ⟨w.heap.size + 1, 1, none⟩ = some (.slice tb.ar tb.lr tb.cr) ∧ W.cell? ⟨w.heap.size + 1 + 1, 2, none⟩ = some (.int .i64 N)) (fun W b => by
    have c := CE.out W b
    exact ⟨c.a0, c.a1, c.b0, c.b1, c.x2⟩)
  obtain ⟨a0, a1, b0, b1, x0, x1, x2⟩ := c1
  clear h hA hT hb0 hce KA KR hO same
  unfold askW at hw1
  obtain ⟨an, ln, cn, tss, ar, lr, cr, trs⟩ := ta
  obtain ⟨bn, mn, dn, uss, br, mr, dr, urs⟩ := tb
  simp only [Tb.val] at *
  subst hw1
  have F0' := Lib.hid (p := Below (((w.alloc (.cells #[.slice an ln cn, .slice ar lr cr] 25)).alloc (.cells #[.slice bn mn dn, .slice br mr dr] 25)).alloc (.cells #[.int .i64 3, .slice na nn nc, .int .i64 N] 40)).heap.size (((w.alloc (.cells #[.slice an ln cn, .slice ar lr cr] 25)).alloc (.cells #[.slice bn mn dn, .slice br mr dr] 25)).alloc (.cells #[.int .i64 3, .slice na nn nc, .int .i64 N] 40)) (((w.alloc (.cells #[.slice an ln cn, .slice ar lr cr] 25)).alloc (.cells #[.slice bn mn dn, .slice br mr dr] 25)).alloc (.cells #[.int .i64 3, .slice na nn nc, .int .i64 N] 40)).drew) (Below.refl (((w.alloc (.cells #[.slice an ln cn, .slice ar lr cr] 25)).alloc (.cells #[.slice bn mn dn, .slice br mr dr] 25)).alloc (.cells #[.int .i64 3, .slice na nn nc, .int .i64 N] 40)).heap.size (((w.alloc (.cells #[.slice an ln cn, .slice ar lr cr] 25)).alloc (.cells #[.slice bn mn dn, .slice br mr dr] 25)).alloc (.cells #[.int .i64 3, .slice na nn nc, .int .i64 N] 40))).drew
  go_enter Tryd.func10, Tryd.ntmps10
  go_upto_region 16 with fail
  go_region_held3 (fun w' => w'.cell? ⟨w.heap.size, 0, none⟩ = some (.slice an ln cn) ∧ w'.cell? ⟨w.heap.size, 1, none⟩ = some (.slice ar lr cr) ∧ w'.cell? ⟨w.heap.size + 1, 0, none⟩ = some (.slice bn mn dn) ∧ w'.cell? ⟨w.heap.size + 1, 1, none⟩ = some (.slice br mr dr) ∧ w'.cell? ⟨w.heap.size + 1 + 1, 2, none⟩ = some (.int .i64 N)) (first | exact ⟨a0, a1, b0, b1, x2⟩ | exact ST.out _ F4.out | exact ST.out _ F3.out | exact ST.out _ F0'.out) (first
    | (go_at_call 24; refine (K1.out _ (B0.out.trans (F0'.out.mono B0.out.size))).mono ?_; rintro e w3 ⟨rfl, hb⟩; have F3 := Lib.hid (F0'.out.trans (hb.mono F0'.out.size)); clear hb)
    | (go_at_call 25; refine (K2.out _ (B0.out.trans (F3.out.mono B0.out.size))).mono ?_; rintro e w4 ⟨rfl, hb⟩; have F4 := Lib.hid (F3.out.trans (hb.mono F3.out.size)); clear hb))
  have E4 := Lib.hid (B0.out.trans (F4.out.mono B0.out.size))
  go_wp2
  go_ret
  exact ⟨rfl, (HS.out.below E4.out).mono (by omega), Fr.below E4.out hB⟩
end Go.Proofs.YtglgdfgdfkeogaaDoor

namespace Go.Proofs.YtglgdfgdfkeogaaDoor
open Go.RowKit
set_option linter.unusedVariables false
set_option linter.unusedSimpArgs false

/-- The table that is being laid. -/
structure OvS (w3 ws : World) (T : Nat) (vn vr : Value) (ns : List ByteArray) (qs : List Rw) : Prop where
  hT : ws.heap[T]? = some (.cells #[vn, vr] 25)
  nm : ws.ownsRow (T + 1) 9 1 vn ns.length (ns.map Value.string)
  rw : RwA ws (T + 1) vr qs
  bel : Below T w3 ws
theorem OvS.below {w3 ws W : World} {T : Nat} {vn vr : Value} {ns : List ByteArray} {qs : List Rw} (h : OvS w3 ws T vn vr ns qs) (b : Below ws.heap.size ws W) : OvS w3 W T vn vr ns qs :=
  ⟨(b.block T (blk_lt h.hT)).trans h.hT, own_back h.nm b, h.rw.below b, h.bel.trans (b.mono (Nat.le_of_lt (blk_lt h.hT)))⟩
theorem OvS.lt {w3 ws : World} {T : Nat} {vn vr : Value} {ns : List ByteArray} {qs : List Rw} (h : OvS w3 ws T vn vr ns qs) : T + 1 ≤ ws.heap.size := blk_lt h.hT
theorem OvS.fldN {w3 ws W : World} {T : Nat} {vn vr : Value} {ns : List ByteArray} {qs : List Rw} (h : OvS w3 ws T vn vr ns qs) (g : ws.grownBy W vn.ownBlock) : W.cell? ⟨T, 0, none⟩ = some vn ∧ W.frozen? ⟨T, 0, none⟩ = false := by
  have nT : vn.ownBlock ≠ some T := fun e => by have := (h.nm.lt T e).1; omega
  obtain ⟨a, _, b, _⟩ := box_all2 ((g.block T (blk_lt h.hT) (fun e => nT e.symm)).trans h.hT)
  exact ⟨a, b⟩
theorem OvS.fldR {w3 ws W : World} {T : Nat} {vn vr : Value} {ns : List ByteArray} {qs : List Rw} (h : OvS w3 ws T vn vr ns qs) (g : ws.grownBy W vr.ownBlock) : W.cell? ⟨T, 1, none⟩ = some vr ∧ W.frozen? ⟨T, 1, none⟩ = false := by
  have nT : vr.ownBlock ≠ some T := fun e => by have := (h.rw.own.lt T e).1; omega
  obtain ⟨_, a, _, b⟩ := box_all2 ((g.block T (blk_lt h.hT) (fun e => nT e.symm)).trans h.hT)
  exact ⟨a, b⟩
/-- Its names have grown. -/
theorem OvS.names {w3 ws W : World} {T : Nat} {vn vr v' : Value} {ns ns' : List ByteArray} {qs : List Rw} (h : OvS w3 ws T vn vr ns qs) (o : W.ownsRow (T + 1) 9 1 v' ns'.length (ns'.map Value.string)) (g : ws.grownBy W vn.ownBlock) : OvS w3 (W.setCell ⟨T, 0, none⟩ v') T v' vr ns' qs := by
  have nT : vn.ownBlock ≠ some T := fun e => by have := (h.nm.lt T e).1; omega
  have nT' : v'.ownBlock ≠ some T := fun e => by have := (o.lt T e).1; omega
  have hT' := (g.block T (blk_lt h.hT) (fun e => nT e.symm)).trans h.hT
  have gs := grT_set W T 0 v'
  refine ⟨Joins.block_setCell (i := 0) hT' v', own_keep o (fun b e => gs.block b (by obtain ⟨cur, q⟩ := own_blk o e; exact blk_lt q) (by intro q; injection q with q; exact nT' (q ▸ e))), ⟨?_, fun q hq => ⟨?_, (h.rw.ok q hq).2⟩⟩, ?_⟩
  · have := h.rw.own.kept g (own_apart h.rw.own h.nm (by decide))
    exact own_keep this (fun b e => gs.block b (by obtain ⟨cur, q⟩ := own_blk this e; exact blk_lt q) (by intro q; injection q with q; have := (this.lt b e).1; omega))
  · have := (h.rw.ok q hq).1.kept g (own_apart (h.rw.ok q hq).1 h.nm (by decide))
    exact own_keep this (fun b e => gs.block b (by obtain ⟨cur, q⟩ := own_blk this e; exact blk_lt q) (by intro q; injection q with q; have := (this.lt b e).1; omega))
  · exact (h.bel.grown g (by have := blk_lt h.hT; omega) (fun k e => by have := (h.nm.lt k e).1; omega)).setCell (p := ⟨T, 0, none⟩) (Nat.le_refl _) _
/-- A row more. -/
theorem OvS.row {w3 ws W : World} {T : Nat} {vn vr v' : Value} {ns : List ByteArray} {qs : List Rw} {q : Rw} (h : OvS w3 ws T vn vr ns qs) (k : ws.ownsRow (T + 1) 53 2 (qv q) q.cs.length (clv q.cs)) (hn : q.n = q.cs.length) (o : W.ownsRow (T + 1) 49 1 v' (qs.length + 1) (qs.map qv ++ [qv q])) (g : ws.grownBy W vr.ownBlock) : OvS w3 (W.setCell ⟨T, 1, none⟩ v') T vn v' ns (qs ++ [q]) := by
  have nT : vr.ownBlock ≠ some T := fun e => by have := (h.rw.own.lt T e).1; omega
  have hT' := (g.block T (blk_lt h.hT) (fun e => nT e.symm)).trans h.hT
  have gs := grT_set W T 1 v'
  have R := h.rw.push k hn o g
  have N := h.nm.kept g (own_apart h.nm h.rw.own (by decide))
  have kp : ∀ {E : TypeId} {s n : Nat} {v : Value} {xs : List Value}, W.ownsRow (T + 1) E s v n xs → (W.setCell ⟨T, 1, none⟩ v').ownsRow (T + 1) E s v n xs := fun {E s n v xs} p => own_keep p (fun b e => gs.block b (by obtain ⟨cur, q⟩ := own_blk p e; exact blk_lt q) (by intro q; injection q with q; have := (p.lt b e).1; omega))
  refine ⟨Joins.block_setCell (i := 1) hT' v', kp N, ⟨kp R.own, fun p hp => ⟨kp (R.ok p hp).1, (R.ok p hp).2⟩⟩, ?_⟩
  exact (h.bel.grown g (by have := blk_lt h.hT; omega) (fun k e => by have := (h.rw.own.lt k e).1; omega)).setCell (p := ⟨T, 1, none⟩) (Nat.le_refl _) _
/-- The cell of an overlay. -/
def ovCl (ss : List ByteArray) (ra : List (List Cl)) (tt : List ByteArray) (rb : List (List Cl)) (d : Nat) (s : ByteArray) : Cl := if (cellT tt rb s d).h then cellT tt rb s d else cellT ss ra s d
theorem ov_cells {ss tt : List ByteArray} {ra rb : List (List Cl)} (g : Gd ss ra) (k : Gd tt rb) (hn : (ovN ss tt).length ≤ 64) {d : Nat} (hd : d < max ra.length rb.length) : (ovR ss ra tt rb)[d]? = some ((ovN ss tt).map (ovCl ss ra tt rb d)) := by
  have gd := ov_gd g k hn
  have e := ovR_get (ss := ss) (tt := tt) (ra := ra) (rb := rb) hd
  have hl : d < (ovR ss ra tt rb).length := by
    rcases Nat.lt_or_ge d (ovR ss ra tt rb).length with q | q
    · exact q
    · rw [List.getElem?_eq_none q] at e; cases e
  rw [List.getElem?_eq_getElem hl]
  congr 1
  have rl : (ovR ss ra tt rb)[d].length = (ovN ss tt).length := gd.rw _ (List.getElem_mem hl)
  refine List.ext_getElem (by rw [List.length_map]; exact rl) fun i h1 h2 => ?_
  have hi : i < (ovN ss tt).length := by omega
  rw [List.getElem_map]
  have c : colF (ovN ss tt) (ovN ss tt)[i] 0 = (i : Int) := by
    refine Col.only (colF_col _ _) (.inr ⟨i, rfl, hi, by simp [List.getD, hi], fun j hj e => ?_⟩)
    have hj' : j < (ovN ss tt).length := by omega
    have nd := gd.nd
    rw [List.nodup_iff_pairwise_ne, List.pairwise_iff_getElem] at nd
    exact nd j i hj' hi hj (by simpa [List.getD, hj'] using e)
  have r := ov_raw g k (ovN ss tt)[i] d
  have r1 : rawT (ovN ss tt) (ovR ss ra tt rb) (ovN ss tt)[i] d = (ovR ss ra tt rb)[d][i] := by
    unfold rawT
    rw [c, if_neg (by omega), Int.toNat_natCast]
    simp [List.getD, hl, h1]
  rw [← r1, r]
  unfold ovCl
  rw [cell_raw k, cell_raw g]
theorem ovN_none {ss tt : List ByteArray} {i : Nat} (nd : tt.Nodup) (hi : i < tt.length) : colF (ovN ss (tt.take i)) (tt.getD i default) 0 < 0 ↔ colF ss (tt.getD i default) 0 < 0 := by
  have e1 : ∀ l : List ByteArray, colF l (tt.getD i default) 0 < 0 ↔ ¬ tt.getD i default ∈ l := fun l => by
    rw [← colF_mem (ss := l)]; omega
  rw [e1, e1, ovN_mem]
  have : tt.getD i default ∉ tt.take i := fun q => by
    have sp := take_split hi
    rw [sp] at nd
    have := (List.nodup_append.1 nd).2.2
    exact this _ q _ (List.mem_cons_self ..) rfl
  exact ⟨fun h q => h (.inl q), fun h q => q.elim h this⟩
end Go.Proofs.YtglgdfgdfkeogaaDoor
