/-
  WALK: a way through a segment's code.
-/
import Derived.Test.YteedkcmjhdabeaaDoorMF
namespace Go.Proofs.YteedkcmjhdabeaaDoor
open Go.RowKit
set_option linter.unusedVariables false
set_option linter.unusedSimpArgs false
/-- The sorts on a stack as they lie in memory. -/
def stZ (l : List Nat) : List Int := (l.map (fun x : Nat => (x : Int))).reverse
theorem stZ_len (l : List Nat) : (stZ l).length = l.length := by simp [stZ]
theorem stZ_cons (x : Nat) (l : List Nat) : stZ (x :: l) = stZ l ++ [(x : Int)] := by simp [stZ]
theorem stZ_at (l : List Nat) {j : Nat} (h : j < l.length) : (stZ l).getD (l.length - 1 - j) 0 = ((l.getD j 0 : Nat) : Int) := by
  unfold stZ
  have e : l.length - 1 - j < (l.map (fun x : Nat => (x : Int))).reverse.length := by simp; omega
  simp only [List.getD, List.getElem?_eq_getElem e, Option.getD_some, List.getElem_reverse, List.getElem_map, List.length_map]
  have e2 : l.length - 1 - (l.length - 1 - j) = j := by omega
  simp only [e2]
  simp [h]
theorem stZ_drop (l : List Nat) (j : Nat) : stZ (l.drop j) = (stZ l).take (l.length - j) := by
  unfold stZ
  rw [List.map_drop, List.reverse_drop, List.length_map]
structure WyR (w wr : World) (sg : Sg) (st fu ba : Int) (k : Nat) (s : Vs) (v u : Value) (L : List (Int × Int)) : Prop where
  sb : BkP wr w.heap.size #[.int .i64 sg.day, .slice sg.ca sg.code.length sg.cc] 36
  pb : BkP wr (w.heap.size + 1) #[.int .i64 st, .int .i64 fu, .int .i64 ba] 29
  stk : OwZ wr w.heap.size v (stZ s.st)
  slo : OwSl wr w.heap.size u L
  sl : ∀ y : Nat, sOf L (y : Int) = (s.sl y : Int)
  at_ : ∃ t, vL sg.day sg.code k = some t ∧ Cov s t
  be : Below w.heap.size w wr
theorem WyR.lat {w wr V : World} {sg : Sg} {st fu ba : Int} {k : Nat} {s : Vs} {v u : Value} {L : List (Int × Int)} (h : WyR w wr sg st fu ba k s v u L) (b : Below wr.heap.size wr V) : WyR w V sg st fu ba k s v u L :=
  ⟨h.sb.lat b, h.pb.lat b, h.stk.lat b, h.slo.lat b, h.sl, h.at_, h.be.trans (b.mono h.be.size)⟩
/-- What stands in the boxes, and the slots. -/
structure WyB (w wr : World) (sg : Sg) (st fu ba : Int) (u : Value) (L : List (Int × Int)) : Prop where
  sb : BkP wr w.heap.size #[.int .i64 sg.day, .slice sg.ca sg.code.length sg.cc] 36
  pb : BkP wr (w.heap.size + 1) #[.int .i64 st, .int .i64 fu, .int .i64 ba] 29
  slo : OwSl wr w.heap.size u L
  be : Below w.heap.size w wr
theorem WyR.b {w wr : World} {sg : Sg} {st fu ba : Int} {k : Nat} {s : Vs} {v u : Value} {L : List (Int × Int)} (h : WyR w wr sg st fu ba k s v u L) : WyB w wr sg st fu ba u L := ⟨h.sb, h.pb, h.slo, h.be⟩
theorem WyB.lat {w wr V : World} {sg : Sg} {st fu ba : Int} {u : Value} {L : List (Int × Int)} (h : WyB w wr sg st fu ba u L) (b : Below wr.heap.size wr V) : WyB w V sg st fu ba u L := ⟨h.sb.lat b, h.pb.lat b, h.slo.lat b, h.be.trans (b.mono h.be.size)⟩
theorem WyB.grow {w wr V : World} {sg : Sg} {st fu ba : Int} {u : Value} {L : List (Int × Int)} (h : WyB w wr sg st fu ba u L) {v : Value} {l : List Int} (o : OwZ wr w.heap.size v l) (g : wr.grownBy V v.ownBlock) : WyB w V sg st fu ba u L :=
  ⟨h.sb.grown g (fun e => own_neB o h.sb (by decide) e.symm), h.pb.grown g (fun e => own_neB o h.pb (by decide) e.symm), h.slo.grown g (own_neO h.slo o (by decide)), h.be.grown g h.be.size (fun k e => (o.own k e).1)⟩
theorem WyB.slot {w wr V : World} {sg : Sg} {st fu ba : Int} {u u' : Value} {L L' : List (Int × Int)} (h : WyB w wr sg st fu ba u L) (g : wr.grownBy V u.ownBlock) (o : OwSl V w.heap.size u' L') {v : Value} {l : List Int} (z : OwZ wr w.heap.size v l) : WyB w V sg st fu ba u' L' ∧ OwZ V w.heap.size v l :=
  ⟨⟨h.sb.grown g (fun e => own_neB h.slo h.sb (by decide) e.symm), h.pb.grown g (fun e => own_neB h.slo h.pb (by decide) e.symm), o, h.be.grown g h.be.size (fun k e => (World.ownsRow.lt h.slo k e).1)⟩, z.grown g (own_neO z h.slo (by decide))⟩
theorem wy_make {w V : World} {sg : Sg} {st fu ba : Int} {k : Nat} {s : Vs} {v u : Value} {L : List (Int × Int)} (h : WyB w V sg st fu ba u L) (so : OwZ V w.heap.size v (stZ s.st)) (sl : ∀ y : Nat, sOf L (y : Int) = (s.sl y : Int)) (at_ : ∃ t, vL sg.day sg.code k = some t ∧ Cov s t) : WyR w V sg st fu ba k s v u L := ⟨h.sb, h.pb, so, h.slo, sl, at_, h.be⟩
/-- The stack, cut. -/
theorem stk_cut {w : World} {B l0 c0 : Nat} {a0 : Option Addr} {st : List Nat} (h : OwZ w B (.slice a0 l0 c0) (stZ st)) (hl : st.length = l0) {j : Nat} (hj : j ≤ l0) : OwZ w B (.slice a0 (l0 - j) c0) (stZ (st.drop j)) := by
  by_cases e : l0 = 0
  · have j0 : j = 0 := by omega
    subst j0
    rw [List.drop_zero, Nat.sub_zero]
    exact h
  · obtain ⟨a, cap, q, _, f⟩ := h.form
    obtain ⟨g, rfl, _, _⟩ := f (by intro z; have q := congrArg List.length z; rw [stZ_len, hl] at q; simp at q; omega)
    injection q with q1 q2 q3
    subst q1 q3
    have := h.cut (k := l0 - j) (by rw [stZ_len]; omega)
    rw [stZ_drop, hl]
    exact this
theorem stk_at {w : World} {B l0 c0 : Nat} {a0 : Option Addr} {st : List Nat} (h : OwZ w B (.slice a0 l0 c0) (stZ st)) (hl : st.length = l0) (h0 : 0 < l0) : ∃ g, a0 = some ⟨g, 0, none⟩ ∧ ∀ j, j < l0 → w.cell? ⟨g, l0 - 1 - j, none⟩ = some (.int .i64 ((st.getD j 0 : Nat) : Int)) := by
  obtain ⟨a, cap, q, _, f⟩ := h.form
  obtain ⟨g, rfl, _, _⟩ := f (by intro z; have q := congrArg List.length z; rw [stZ_len, hl] at q; simp at q; omega)
  injection q with q1 q2 q3
  subst q1 q3
  refine ⟨g, rfl, fun j hj => ?_⟩
  rw [h.cell (i := l0 - 1 - j) (by rw [stZ_len]; omega), ← hl, stZ_at st (by omega)]
theorem wy_start {w : World} {sg : Sg} {st fu ba : Int} (h : (vRun sg.day sg.code sg.code.length).1 = 0) : WyR w ((w.alloc (.cells #[.int .i64 sg.day, .slice sg.ca sg.code.length sg.cc] 36)).alloc (.cells #[.int .i64 st, .int .i64 fu, .int .i64 ba] 29)) sg st fu ba 0 ⟨[], fun _ => 0⟩ (.slice none 0 0) (.slice none 0 0) [] := by
  have e : (w.alloc (.cells #[.int .i64 sg.day, .slice sg.ca sg.code.length sg.cc] 36)).heap.size = w.heap.size + 1 := by simp
  have k := heapN (w.alloc (.cells #[.int .i64 sg.day, .slice sg.ca sg.code.length sg.cc] 36)) (.cells #[.int .i64 st, .int .i64 fu, .int .i64 ba] 29)
  rw [e] at k
  obtain ⟨t, t1, t2⟩ := vL_start h
  exact ⟨BkP.lat (heapN _ _) (allocBP _ _), k, OwZ.nil _ _, World.ownsRow_nil _ _ _ _, fun y => rfl, ⟨t, t1, t2⟩, alloc2 _ _ _⟩
/-- What is known at a place, for the walk. -/
theorem wy_now {sg : Sg} (h : (vRun sg.day sg.code sg.code.length).1 = 0) (ok : SgOk sg) {k : Nat} (hk : k < sg.code.length) {s t : Vs} (ht : vL sg.day sg.code k = some t) (c : Cov s t) :
    WayF sg.day s (sg.code.getD k default) ∧ htF sg k = s.st.length ∧ (¬ ((sg.code.getD k default).o = 26 ∨ (sg.code.getD k default).o = 0) → k + 1 < sg.code.length ∧ ∃ u, vL sg.day sg.code (k + 1) = some u ∧ Cov (vDo sg.day s (sg.code.getD k default)).2 u) ∧
      (isJ (sg.code.getD k default) → k + 1 + (sg.code.getD k default).a.toNat < sg.code.length ∧ ∃ u, vL sg.day sg.code (k + 1 + (sg.code.getD k default).a.toNat) = some u ∧ Cov (vDo sg.day s (sg.code.getD k default)).2 u) := by
  obtain ⟨t', e', d, a, b⟩ := vL_step h hk
  rw [ht] at e'
  injection e' with e'
  subst e'
  obtain ⟨o1, o2⟩ := ok.ok k hk
  obtain ⟨d1, d2⟩ := vDo_cov c d
  refine ⟨way_facts o1 d1, ?_, fun q => ?_, fun q => ?_⟩
  · unfold htF vHt
    have : (vRun sg.day sg.code sg.code.length).2.2 k = some t := ht
    rw [this]
    simp only
    rw [c.1]
  · obtain ⟨u, u1, u2⟩ := a q
    refine ⟨?_, u, u1, d2.trans u2⟩
    rcases Nat.lt_or_ge (k + 1) sg.code.length with z | z
    · exact z
    · exact absurd (o2.2 (by omega)) (fun y => q (.inr y))
  · obtain ⟨z, u, u1, u2⟩ := b q
    exact ⟨z, u, u1, d2.trans u2⟩
theorem ht_le {sg : Sg} (k : Nat) : htF sg k ≤ sg.code.length := by
  unfold htF vHt
  cases e : (vRun sg.day sg.code sg.code.length).2.2 k with
  | none => simp
  | some s => exact vRun_high (day := sg.day) (code := sg.code) sg.code.length k s e
/-- A list of truths, where it lies. -/
def BoF (w : World) (a : Option Addr) (n : Nat) : Prop := n = 0 ∨ ∃ x o, a = some ⟨x, o, none⟩ ∧ x < w.heap.size ∧ ∀ i, i < n → ∃ b, w.cell? ⟨x, o + i, none⟩ = some (.bool b)
set_option maxRecDepth 100000 in
set_option maxHeartbeats 3200000 in
theorem way_any {w : World} {sg : Sg} {hb chn chc : Nat} {cha : Option Addr} {st fu ba : Int} (hI : IR w sg.ca sg.code.length sg.cc sg.code) (ok : SgOk sg) (h0 : (vRun sg.day sg.code sg.code.length).1 = 0) (hR : Rws w) (hH : BkP w hb (htA (htF sg) sg.code.length sg.code.length) 3) (hst : ∀ k, k < sg.code.length → (htF sg k : Int) ≤ st ∧ ((sg.code.getD k default).o = 3 → (sg.code.getD k default).b ≤ ba)) (hC : BoF w cha chn) :
    Calls Tryd.prog 10 #[.agg #[.int .i64 sg.day, .slice sg.ca sg.code.length sg.cc], .slice (some ⟨hb, 0, none⟩) sg.code.length sg.code.length, .agg #[.int .i64 st, .int .i64 fu, .int .i64 ba], .slice cha chn chc] w fun e w' => e = .returned (.bool true) ∧ Below w.heap.size w w' := by
  have WS := Lib.hid (wy_start (w := w) (st := st) (fu := fu) (ba := ba) h0)
  have two := ok.two
  have big := ok.len
  have WN := Lib.hid (fun k hk s t ht c => wy_now h0 ok (k := k) hk (s := s) (t := t) ht c)
  have OK := Lib.hid (fun k hk => (ok.ok k hk))
  have HS := Lib.hid hst
  have HT := Lib.hid (fun k => ht_le (sg := sg) k)
  obtain ⟨cx, co, hsa, _, hcell⟩ := hI.2.2.2.2.oneP (by omega)
  have QC := Lib.hid (p := ∀ V, Below w.heap.size w V → ∀ k, k < sg.code.length → V.cell? ⟨cx, co + k * 3, none⟩ = some (.int .i64 (sg.code.getD k default).o) ∧ V.cell? ⟨cx, co + k * 3 + 1, none⟩ = some (.int .i64 (sg.code.getD k default).a) ∧ V.cell? ⟨cx, co + k * 3 + 2, none⟩ = some (.int .i64 (sg.code.getD k default).b)) (fun V b k hk => by
    obtain ⟨cx', co', hsa', _, hcc⟩ := (hI.later b).2.2.2.2.oneP (by omega)
    rw [hsa] at hsa'
    simp only [Option.some.injEq, Addr.mk.injEq] at hsa'
    obtain ⟨rfl, rfl, _⟩ := hsa'
    have q0 := hcc k hk 0 (by omega)
    have q1 := hcc k hk 1 (by omega)
    have q2 := hcc k hk 2 (by omega)
    simp only [icell, Nat.add_zero, List.getD_cons_zero, List.getD_cons_succ] at q0 q1 q2
    exact ⟨q0, q1, q2⟩)
  have HH := Lib.hid (p := ∀ V, Below w.heap.size w V → ∀ k, k < sg.code.length → V.cell? ⟨hb, k, none⟩ = some (.int .i64 (htF sg k : Int))) (fun V b k hk => by
    rw [(hH.lat b).cell, htA_at _ _ _ _ hk, if_pos hk])
  have HC := Lib.hid (p := chn = 0 ∨ ∃ x o, cha = some ⟨x, o, none⟩ ∧ ∀ V, Below w.heap.size w V → ∀ i, i < chn → ∃ b, V.cell? ⟨x, o + i, none⟩ = some (.bool b)) (by
    rcases hC with q | ⟨x, o, q1, q2, q3⟩
    · exact .inl q
    · exact .inr ⟨x, o, q1, fun V b i hi => by obtain ⟨z, hz⟩ := q3 i hi; exact ⟨z, (b.cell (p := ⟨x, o + i, none⟩) q2).trans hz⟩⟩)
  have KE := Lib.hid (p := ∀ V, Below w.heap.size w V → ∀ i : In, i.okP → Calls Tryd.prog 18 #[.int .i64 i.o] V fun e w' => e = .returned (.tuple #[.int .i64 (tkA i.o.toNat : Int), .int .i64 (ptA i.o.toNat : Int), .int .i64 0]) ∧ Below V.heap.size V w') (fun V b i hi => effect_any ⟨.inl ⟨i.o.toNat, by have := hi.2.1; have := hi.1; omega, by have := hi.1; omega, rfl, rfl, rfl, rfl, rfl, rfl, rfl⟩⟩ V (hR.below b))
  clear hI ok h0 hR hH hst hC hcell
  obtain ⟨day, ca, cc, code⟩ := sg
  simp only at *
  subst hsa
  obtain ⟨n, hn⟩ : ∃ n, code.length = n := ⟨_, rfl⟩
  have HN := Lib.hid hn
  rw [hn] at QC HH OK HS HT WN two big ⊢
  rw [hn] at WS
  clear hn
  go_enter Tryd.func10, Tryd.ntmps10
  go_wp2
  go_loopw [9, 10, 11, 12, 13] (fun v u ak at_ sp wr => ∃ (k m q : Nat) (s : Vs) (L : List (Int × Int)), at_ = .int .i64 (k : Int) ∧ sp = .int .i64 (m : Int) ∧ ak = .int .i64 (q : Int) ∧ m ≤ k ∧ k < n ∧ q ≤ m ∧ L.length ≤ m ∧ WyR w wr ⟨day, some ⟨cx, co, none⟩, cc, code⟩ st fu ba k s v u L) (fun _ _ _ _ sp _ => n - (intOf sp).toNat)
  case atStart => exact ⟨0, 0, 0, _, _, rfl, rfl, rfl, by omega, by omega, by omega, by simp, WS.out⟩
  case round =>
    clear WS
    rename World => wr
    obtain ⟨k, m, q, s, L, rfl, rfl, rfl, hmk, hk, hqm, hL, hW⟩ := hrel
    obtain ⟨t, t1, t2⟩ := hW.at_
    obtain ⟨WF, hht, n1, nJ⟩ := WN.out k hk s t t1 t2
    obtain ⟨okI, okZ⟩ := OK.out k hk
    obtain ⟨hs1, hs2⟩ := HS.out k hk
    obtain ⟨q0, q1, q2⟩ := QC.out wr hW.be k hk
    have QCk := Lib.hid (fun V b => QC.out V b k hk)
    have hh := HH.out wr hW.be k hk
    have sb0 := (hW.sb.cell 0)
    have sb1 := (hW.sb.cell 1)
    have pb0 := (hW.pb.cell 0)
    simp only [List.getElem?_toArray, List.getElem?_cons_zero, List.getElem?_cons_succ] at sb0 sb1 pb0
    rw [HN.out] at sb1
    have l0n := HT.out k
    rw [hht] at hh hs1 l0n
    clear hht t1 t2 t
    generalize code.getD k default = i at *
    obtain ⟨a0, c0, hv, hcap, _⟩ := hW.stk.form
    rw [stZ_len] at hv hcap
    obtain ⟨l0, hl0⟩ : ∃ l0, s.st.length = l0 := ⟨_, rfl⟩
    rw [hl0] at hv hcap hh hs1 l0n
    subst hv
    have LL := Lib.hid hl0
    clear hl0
    have kc : (k : Int) < (n : Int) := by omega
    have k0 : ¬ (k : Int) < 0 := by omega
    have mc : (m : Int) < (n : Int) := by omega
    have nn : ((l0 : Int) != (l0 : Int)) = false := by simp
    have st0 : ¬ st < (l0 : Int) := by omega
    have mw : IntKind.i64.wrap ((m : Int) + 1) = (m : Int) + 1 := by simp [IntKind.wrap, IntKind.bits, IntKind.signed]; omega
    have kw : IntKind.i64.wrap ((k : Int) + 1) = (k : Int) + 1 := by simp [IntKind.wrap, IntKind.bits, IntKind.signed]; omega
    have qw : IntKind.i64.wrap ((q : Int) + 1) = (q : Int) + 1 := by simp [IntKind.wrap, IntKind.bits, IntKind.signed]; omega
    have nw : IntKind.i64.wrap ((n : Int) - 1) = (n : Int) - 1 := by simp [IntKind.wrap, IntKind.bits, IntKind.signed]; omega
    have WW := Lib.hid hW
    have EF := Lib.hid (fun V b => KE.out V b i okI)
    clear hW KE
    by_cases io : i.o = 0
    · have z := WF.z io
      have l00 := LL.out
      rw [z] at l00
      simp only [List.length_nil] at l00
      subst l00
      have kn := okZ.1 io
      have kz : ((k : Int) == (n : Int) - 1) = true := by simp; omega
      have Bz := Lib.hid WW.out.be
      have sb1a : ∀ o, (wr.alloc o).cell? ⟨w.heap.size, 1, none⟩ = some (.slice (some ⟨cx, co, none⟩) n cc) := fun o => (Below.cell (allocBP wr o) (p := ⟨w.heap.size, 1, none⟩) WW.out.sb.lt).trans sb1
      obtain ⟨io', ia, ib⟩ := i
      simp only at *
      subst io
      clear kn WF z n1 nJ okI okZ hs1 hs2
      go_wp2
      go_ret
      exact ⟨rfl, Bz.out.alloc Bz.out.size _⟩
    · have ioe : (i.o == 0) = false := by simpa using io
      obtain ⟨tw1, tw2, tw3, tw4, tw5, tw6, tw7, tw8, tw9, tw10⟩ := way_tab i.o.toNat (by have := okI.1; have := okI.2.1; omega)
      have tkl := WF.tk
      rw [LL.out] at tkl
      have SO := Lib.hid WF.so
      have IE := Lib.hid (p := i.o.toNat = i.o.toNat) rfl
      obtain ⟨tk, htk⟩ : ∃ tk, tkA i.o.toNat = tk := ⟨_, rfl⟩
      obtain ⟨pt, hpt⟩ : ∃ pt, ptA i.o.toNat = pt := ⟨_, rfl⟩
      have TK := Lib.hid htk
      have PT1 := Lib.hid hpt
      rw [htk, hpt] at EF
      rw [htk] at tkl SO tw9
      rw [hpt] at tw10
      clear htk hpt tw1 tw2 tw3 tw4 tw5 tw6 tw7 tw8
      have tkc : ¬ (l0 : Int) < (tk : Int) := by omega
      have tS := tkS_nn i.o
      have TKS := Lib.hid (takes_any i.o)
      have PUS := Lib.hid (puts_any i.o)
      have a0L := Lib.hid (p := 0 < l0 → ∃ g, a0 = some ⟨g, 0, none⟩ ∧ ∀ V, Below wr.heap.size wr V → ∀ j, j < l0 → V.cell? ⟨g, l0 - 1 - j, none⟩ = some (.int .i64 ((s.st.getD j 0 : Nat) : Int))) (fun h0 => by
        obtain ⟨g, g1, _⟩ := stk_at WW.out.stk LL.out h0
        refine ⟨g, g1, fun V b j hj => ?_⟩
        obtain ⟨g', g2, g3⟩ := stk_at (WW.out.stk.lat b) LL.out h0
        rw [g1] at g2
        simp only [Option.some.injEq, Addr.mk.injEq, and_true] at g2
        subst g2
        exact g3 j hj)
      have WFH := Lib.hid WF
      have N1 := Lib.hid n1
      have NJ := Lib.hid nJ
      have HS2 := Lib.hid hs2
      have OKI := Lib.hid okI
      have OKZ := Lib.hid okZ
      have hmk' := hmk
      have A0 := okI.2.2.1
      clear WF n1 nJ hs2 okI okZ sb0
      obtain ⟨io', ia, ib⟩ := i
      simp only at *
      have BA := Lib.hid (p := Below w.heap.size w (wr.alloc (.cells #[.int .i64 io', .int .i64 ia, .int .i64 ib] 38))) (WW.out.be.alloc WW.out.be.size _)
      have WB := Lib.hid (p := ∀ V, Below (wr.alloc (.cells #[.int .i64 io', .int .i64 ia, .int .i64 ib] 38)).heap.size (wr.alloc (.cells #[.int .i64 io', .int .i64 ia, .int .i64 ib] 38)) V → Below wr.heap.size wr V ∧ BkP V wr.heap.size #[.int .i64 io', .int .i64 ia, .int .i64 ib] 38) (fun V b => ⟨(allocBP _ _).trans (b.mono (by simp)), BkP.lat (heapN _ _) b⟩)
      go_wp2_with (go_at_call 18; refine (EF.out _ BA.out).mono ?_; rintro e w1 ⟨rfl, h1⟩; obtain ⟨x1, x2⟩ := WB.out w1 h1; have BV := Lib.hid x1; have IB := Lib.hid x2; clear h1 x1 x2)
      have BI := BV.out
      have i0 := IB.out.cell 0
      have i1 := IB.out.cell 1
      have i2 := IB.out.cell 2
      simp only [List.getElem?_toArray, List.getElem?_cons_zero, List.getElem?_cons_succ] at i0 i1 i2
      clear q0 q1 q2 hh sb1 pb0 EF BA WB BI
      go_loopw [9, 18, 19] (fun sv tp kk wy => ∃ j : Nat, j ≤ tk ∧ kk = .int .i64 (j : Int) ∧ sv = .slice a0 (l0 - j) c0 ∧ tp = .int .i64 (if j = 0 then 0 else ((s.st.getD (j - 1) 0 : Nat) : Int)) ∧ wy = w1) (fun _ _ kk _ => tk - (intOf kk).toNat)
      case atStart => exact ⟨0, by omega, rfl, rfl, rfl, rfl⟩
      case round =>
        obtain ⟨j, hj, rfl, rfl, rfl, hwy⟩ := hrel
        have hwy' := hwy.symm
        subst hwy'
        by_cases hjt : j < tk
        · have jc : (j : Int) < (tk : Int) := by omega
          have jw : IntKind.i64.wrap ((j : Int) + 1) = (j : Int) + 1 := by simp [IntKind.wrap, IntKind.bits, IntKind.signed]; omega
          obtain ⟨g, rfl, hg⟩ := a0L.out (by omega)
          have cg := hg w1 BV.out j (by omega)
          have so := SO.out j hjt
          obtain ⟨lj, hlj⟩ : ∃ lj, l0 - j = lj := ⟨_, rfl⟩
          obtain ⟨ll, hll⟩ : ∃ ll, l0 - 1 - j = ll := ⟨_, rfl⟩
          have nx := Lib.hid (p := l0 - (j + 1) = ll) (by omega)
          rw [hlj]
          rw [hll] at cg
          have ew : IntKind.i64.wrap ((lj : Int) - 1) = (ll : Int) := by simp [IntKind.wrap, IntKind.bits, IntKind.signed]; omega
          have l1 : ¬ (ll : Int) < 0 := by omega
          have l2 : (ll : Int) < (lj : Int) := by omega
          have l3 : ¬ (c0 : Int) < (ll : Int) := by omega
          have l4 : ll ≤ c0 := by omega
          clear hlj hll hg
          obtain ⟨x, hx⟩ : ∃ x, s.st.getD j 0 = x := ⟨_, rfl⟩
          have XE := Lib.hid hx
          rw [hx] at cg so
          clear hx
          by_cases z : tkS io' = 0
          · have z1 : (tkS io' != 0) = false := by simp [z]
            clear so z
            go_wp2_with (go_at_call 19; refine (TKS.out _).mono ?_; rintro e w2 ⟨rfl, hw2⟩; have hw2' := hw2.symm; subst hw2'; clear hw2)
            all_goals
              refine ⟨⟨_, _, _, _, ⟨j + 1, by omega, rfl, rfl, rfl⟩, rfl, by rw [nx.out], ?_, by go_num⟩, by simp [intOf]; omega⟩
              have xe := XE.out
              simp only [List.getD_eq_getElem?_getD] at xe
              simp [xe]
          · have so' := so z
            have z1 : (tkS io' != 0) = true := by simpa using z
            have z2 : ((x : Int) != tkS io') = false := by simpa using so'
            clear so z so'
            go_wp2_with (go_at_call 19; refine (TKS.out _).mono ?_; rintro e w2 ⟨rfl, hw2⟩; have hw2' := hw2.symm; subst hw2'; clear hw2)
            all_goals
              refine ⟨⟨_, _, _, _, ⟨j + 1, by omega, rfl, rfl, rfl⟩, rfl, by rw [nx.out], ?_, by go_num⟩, by simp [intOf]; omega⟩
              have xe := XE.out
              simp only [List.getD_eq_getElem?_getD] at xe
              simp [xe]
        · obtain rfl : j = tk := by omega
          have S1 := Lib.hid (stk_cut (WW.out.stk.lat BV.out) LL.out tkl)
          have WB1 := Lib.hid (WW.out.b.lat BV.out)
          have SLH := Lib.hid WW.out.sl
          obtain ⟨lr, hlr⟩ : ∃ lr, l0 - j = lr := ⟨_, rfl⟩
          have lrn : lr ≤ l0 := by omega
          rw [hlr] at S1 ⊢
          clear hlr
          have jj : ¬ (j : Int) < (j : Int) := by omega
          have hsb0 := WB1.out.sb.cell 0
          have hpb2 := WB1.out.pb.cell 2
          simp only [List.getElem?_toArray, List.getElem?_cons_zero, List.getElem?_cons_succ] at hsb0 hpb2
          have WBB := Lib.hid WB1.out.be
          clear WW
          by_cases p0 : pt = 0
          · have st' := WFH.out.p0 (by rw [PT1.out]; exact p0)
            subst p0
            have n6 : io' ≠ 6 := fun e => by have q := PT1.out; rw [e] at q; revert q; decide
            have n7 : io' ≠ 7 := fun e => by have q := PT1.out; rw [e] at q; revert q; decide
            have n3 : io' ≠ 3 := fun e => by have q := PT1.out; rw [e] at q; revert q; decide
            have sl' := WFH.out.ln n6
            have b6 : (io' == 6) = false := by simpa using n6
            have b7 : (io' == 7) = false := by simpa using n7
            have b3 : (io' == 3) = false := by simpa using n3
            rw [TK.out] at st'
            have MK := Lib.hid (p := ∀ k', (∃ t, vL day code k' = some t ∧ Cov (vDo day s ⟨io', ia, ib⟩).2 t) → WyR w w1 ⟨day, some ⟨cx, co, none⟩, cc, code⟩ st fu ba k' (vDo day s ⟨io', ia, ib⟩).2 (.slice a0 lr c0) u10 L) (fun k' h => wy_make WB1.out (by rw [st']; exact S1.out) (fun y => by rw [sl']; exact SLH.out y) h)
            clear st' sl' n6 n7 n3 S1 WB1 SLH
            by_cases o26 : io' = 26
            · obtain ⟨j1, j2⟩ := NJ.out (.inl o26)
              have b26 : (io' == 26) = true := by simpa using o26
              have b27 : (io' == 27) = false := by simp [o26]
              have aw : IntKind.i64.wrap ((k : Int) + 1 + ia) = (k : Int) + 1 + ia := by simp [IntKind.wrap, IntKind.bits, IntKind.signed]; omega
              clear o26
              go_wp2_with (go_at_call 20; refine (PUS.out _).mono ?_; rintro e w2 ⟨rfl, hw2⟩; have hw2' := hw2.symm; subst hw2'; clear hw2)
              exact ⟨⟨k + 1 + ia.toNat, m + 1, q, _, L, by rw [show ((k + 1 + ia.toNat : Nat) : Int) = (k : Int) + 1 + ia by omega], by rw [show ((m + 1 : Nat) : Int) = (m : Int) + 1 by omega], rfl, by omega, by omega, by omega, by omega, MK.out _ j2⟩, by simp [intOf]; omega⟩
            · have b26 : (io' == 26) = false := by simpa using o26
              obtain ⟨j1, j2⟩ := N1.out (by omega)
              by_cases o27 : io' = 27
              · obtain ⟨j3, j4⟩ := NJ.out (.inr o27)
                have b27 : (io' == 27) = true := by simpa using o27
                have aw : IntKind.i64.wrap ((k : Int) + 1 + ia) = (k : Int) + 1 + ia := by simp [IntKind.wrap, IntKind.bits, IntKind.signed]; omega
                clear o26 o27
                by_cases qc : q < chn
                · have qi : (q : Int) < (chn : Int) := by omega
                  have qz : ¬ (q : Int) < 0 := by omega
                  rcases HC.out with hz | ⟨x, o, rfl, hx⟩
                  · omega
                  obtain ⟨bb, hbb⟩ := hx w1 (WBB.out) q qc
                  clear hx
                  cases bb
                  · go_wp2_with (go_at_call 20; refine (PUS.out _).mono ?_; rintro e w2 ⟨rfl, hw2⟩; have hw2' := hw2.symm; subst hw2'; clear hw2)
                    exact ⟨⟨k + 1, m + 1, q + 1, _, L, by rw [show ((k + 1 : Nat) : Int) = (k : Int) + 1 by omega], by rw [show ((m + 1 : Nat) : Int) = (m : Int) + 1 by omega], by rw [show ((q + 1 : Nat) : Int) = (q : Int) + 1 by omega], by omega, by omega, by omega, by omega, MK.out _ j2⟩, by simp [intOf]; omega⟩
                  · go_wp2_with (go_at_call 20; refine (PUS.out _).mono ?_; rintro e w2 ⟨rfl, hw2⟩; have hw2' := hw2.symm; subst hw2'; clear hw2)
                    exact ⟨⟨k + 1 + ia.toNat, m + 1, q + 1, _, L, by rw [show ((k + 1 + ia.toNat : Nat) : Int) = (k : Int) + 1 + ia by omega], by rw [show ((m + 1 : Nat) : Int) = (m : Int) + 1 by omega], by rw [show ((q + 1 : Nat) : Int) = (q : Int) + 1 by omega], by omega, by omega, by omega, by omega, MK.out _ j4⟩, by simp [intOf]; omega⟩
                · have qi : ¬ (q : Int) < (chn : Int) := by omega
                  go_wp2_with (go_at_call 20; refine (PUS.out _).mono ?_; rintro e w2 ⟨rfl, hw2⟩; have hw2' := hw2.symm; subst hw2'; clear hw2)
                  exact ⟨⟨k + 1, m + 1, q + 1, _, L, by rw [show ((k + 1 : Nat) : Int) = (k : Int) + 1 by omega], by rw [show ((m + 1 : Nat) : Int) = (m : Int) + 1 by omega], by rw [show ((q + 1 : Nat) : Int) = (q : Int) + 1 by omega], by omega, by omega, by omega, by omega, MK.out _ j2⟩, by simp [intOf]; omega⟩
              · have b27 : (io' == 27) = false := by simpa using o27
                clear o26 o27
                go_wp2_with (go_at_call 20; refine (PUS.out _).mono ?_; rintro e w2 ⟨rfl, hw2⟩; have hw2' := hw2.symm; subst hw2'; clear hw2)
                exact ⟨⟨k + 1, m + 1, q, _, L, by rw [show ((k + 1 : Nat) : Int) = (k : Int) + 1 by omega], by rw [show ((m + 1 : Nat) : Int) = (m : Int) + 1 by omega], rfl, by omega, by omega, by omega, by omega, MK.out _ j2⟩, by simp [intOf]; omega⟩
          · have p1 : pt = 1 := by omega
            subst p1
            clear p0
            have n26 : io' ≠ 26 := fun e => by have q := PT1.out; rw [e] at q; revert q; decide
            have n27 : io' ≠ 27 := fun e => by have q := PT1.out; rw [e] at q; revert q; decide
            have b26 : (io' == 26) = false := by simpa using n26
            have b27 : (io' == 27) = false := by simpa using n27
            obtain ⟨j1, j2⟩ := N1.out (by omega)
            by_cases o6 : io' = 6
            · have st' := WFH.out.p6 o6
              have sl' := WFH.out.l6 o6
              have tk6 : j = 1 := by have q := TK.out; rw [o6] at q; revert q; simp; intro q; rw [← q]; decide
              have b6 : (io' == 6) = true := by simpa using o6
              rw [TK.out] at st'
              subst tk6
              simp only [Nat.sub_self, show ((1 : Nat) = 0) = False by simp, if_false] at *
              obtain ⟨x, hx⟩ : ∃ x, s.st.getD 0 0 = x := ⟨_, rfl⟩
              have GEN := Lib.hid (p := ∀ V v u L', WyB w V ⟨day, some ⟨cx, co, none⟩, cc, code⟩ st fu ba u L' → OwZ V w.heap.size v (stZ (s.st.drop 1) ++ [(x : Int)]) → L' = L ++ [(ia, (x : Int))] → WyR w V ⟨day, some ⟨cx, co, none⟩, cc, code⟩ st fu ba (k + 1) (vDo day s ⟨io', ia, ib⟩).2 v u L') (fun V v u L' a b c => wy_make a (by rw [st', hx, stZ_cons]; exact b) (fun y => by
                rw [c, sOf_snoc, sl', hx, SLH.out y]
                simp only [vKeep]
                by_cases z : y = ia.toNat
                · rw [if_pos (by omega), if_pos z]
                · rw [if_neg (by omega), if_neg z]) j2)
              rw [hx]
              clear st' sl' o6 hx j2
              have M1 : True := trivial
              go_wp2_with (first | (go_at_call 20; refine (PUS.out _).mono ?_; rintro e w2 ⟨rfl, hw2⟩; have hw2' := hw2.symm; subst hw2'; clear hw2) | (at_builtin; have qq := M1; refine wp_slot _ ia (x : Int) rfl _ _ rfl w.heap.size _ L rfl rfl WB1.out.slo (by omega) WB1.out.be.size ?_; clear qq M1; intro u3 w3 h3 g3; obtain ⟨y1, y2⟩ := WyB.slot (WB1.out.lat (allocBP _ _)) g3 h3 (S1.out.lat (allocBP _ _)); have W3 := Lib.hid y1; have S3 := Lib.hid y2; have I3 := Lib.hid ((IB.out.lat (allocBP _ _)).grown g3 (fun e => own_neB WB1.out.slo IB.out (by decide) e.symm)); clear h3 g3 y1 y2; have M2 : True := trivial) | (at_builtin; have qq := M2; refine wp_ints _ rfl _ _ rfl w.heap.size w.heap.size (.slice (some ⟨w3.heap.size, 0, none⟩) 0 0) _ [] (stZ (s.st.drop 1)) rfl rfl (OwZ.made w3 w.heap.size 0 #[] W3.out.be.size (by unfold maxLen; omega) rfl) (S3.out.lat (allocBP _ _)) (by simp only [stZ_len, List.length_nil, List.length_drop]; have := LL.out; omega) (W3.out.be.alloc W3.out.be.size _).size ?_; clear qq M2; intro v5 w5 h5 g5; have W5 := Lib.hid ((W3.out.lat (allocBP _ _)).grow (OwZ.made w3 w.heap.size 0 #[] W3.out.be.size (by unfold maxLen; omega) rfl) g5); have I5 := Lib.hid ((I3.out.lat (allocBP _ _)).grown g5 (fun e => own_neB (OwZ.made w3 w.heap.size 0 #[] W3.out.be.size (by unfold maxLen; omega) rfl) (I3.out.lat (allocBP _ _)) (by decide) e.symm)); have S5 := Lib.hid h5; clear h5 g5; have M3 : True := trivial) | (at_builtin; have qq := M3; refine wp_ints _ rfl _ _ rfl w.heap.size w.heap.size v5 _ ([] ++ stZ (s.st.drop 1)) [(x : Int)] rfl rfl (S5.out.lat (allocBP _ _)) (OwZ.lit w5 w.heap.size ((x : Int)) W5.out.be.size) (by simp only [stZ_len, List.length_append, List.length_cons, List.length_nil, List.length_drop]; have := LL.out; omega) (W5.out.be.alloc W5.out.be.size _).size ?_; clear qq M3; intro v6 w6 h6 g6; have W6 := Lib.hid ((W5.out.lat (allocBP _ _)).grow (S5.out.lat (allocBP _ _)) g6); have z0 := ((I5.out.lat (allocBP _ _)).grown g6 (fun e => own_neB S5.out I5.out (by decide) e.symm)).cell 0; simp only [List.getElem?_toArray, List.getElem?_cons_zero] at z0; rw [List.nil_append] at h6; have S6 := Lib.hid h6; clear h6 g6))
              exact ⟨⟨k + 1, m + 1, q, _, L ++ [(ia, (x : Int))], by rw [show ((k + 1 : Nat) : Int) = (k : Int) + 1 by omega], by rw [show ((m + 1 : Nat) : Int) = (m : Int) + 1 by omega], rfl, by omega, by omega, by omega, by simp; omega, GEN.out w6 v6 u3 _ W6.out S6.out rfl⟩, by simp [intOf]; omega⟩
            · have sl' := WFH.out.ln o6
              have b6 : (io' == 6) = false := by simpa using o6
              have PU := Lib.hid (p := ∃ x : Nat, (io' = 7 → sOf L ia = (x : Int) ∧ x ≠ 0) ∧ (io' ≠ 7 → puS io' = (x : Int)) ∧ (vDo day s ⟨io', ia, ib⟩).2.st = x :: s.st.drop j) (by
                by_cases o7 : io' = 7
                · refine ⟨s.sl ia.toNat, fun _ => ⟨?_, WFH.out.gt o7⟩, fun q => absurd o7 q, by rw [WFH.out.p7 o7, TK.out]⟩
                  have := SLH.out ia.toNat
                  rwa [show ((ia.toNat : Nat) : Int) = ia by omega] at this
                · obtain ⟨x, h1, h2⟩ := WFH.out.p1 o6 o7 (by rw [PT1.out]; omega)
                  exact ⟨x, fun q => absurd q o7, fun _ => h1.symm, by rw [h2, TK.out]⟩)
              obtain ⟨x, hx7, hxp, st'⟩ := PU.out
              have GEN := Lib.hid (p := ∀ V v, WyB w V ⟨day, some ⟨cx, co, none⟩, cc, code⟩ st fu ba u10 L → OwZ V w.heap.size v (stZ (s.st.drop j) ++ [(x : Int)]) → WyR w V ⟨day, some ⟨cx, co, none⟩, cc, code⟩ st fu ba (k + 1) (vDo day s ⟨io', ia, ib⟩).2 v u10 L) (fun V v a b => wy_make a (by rw [st', stZ_cons]; exact b) (fun y => by rw [sl']; exact SLH.out y) j2)
              have M2 : True := trivial
              clear st' sl' j2 PU
              by_cases o7 : io' = 7
              · obtain ⟨x1, x2⟩ := hx7 o7
                have b7 : (io' == 7) = true := by simpa using o7
                have xz : ((x : Int) == 0) = false := by simp; omega
                have KS := Lib.hid (sortOf_any WB1.out.slo (by omega) ia)
                rw [x1] at KS
                clear hx7 hxp o7 x1 x2 o6
                go_wp2_with (first | (go_at_call 20; refine (PUS.out _).mono ?_; rintro e w2 ⟨rfl, hw2⟩; have hw2' := hw2.symm; subst hw2'; clear hw2) | (go_at_call 21; refine KS.out.mono ?_; rintro e w2 ⟨rfl, hw2⟩; have hw2' := hw2.symm; subst hw2'; clear hw2) | (at_builtin; have qq := M2; refine wp_ints _ rfl _ _ rfl w.heap.size w.heap.size (.slice (some ⟨w1.heap.size, 0, none⟩) 0 0) _ [] (stZ (s.st.drop j)) rfl rfl (OwZ.made w1 w.heap.size 0 #[] WB1.out.be.size (by unfold maxLen; omega) rfl) (S1.out.lat (allocBP _ _)) (by simp only [stZ_len, List.length_nil, List.length_drop]; have := LL.out; omega) (WB1.out.be.alloc WB1.out.be.size _).size ?_; clear qq M2; intro v5 w5 h5 g5; have W5 := Lib.hid ((WB1.out.lat (allocBP _ _)).grow (OwZ.made w1 w.heap.size 0 #[] WB1.out.be.size (by unfold maxLen; omega) rfl) g5); have I5 := Lib.hid ((IB.out.lat (allocBP _ _)).grown g5 (fun e => own_neB (OwZ.made w1 w.heap.size 0 #[] WB1.out.be.size (by unfold maxLen; omega) rfl) (IB.out.lat (allocBP _ _)) (by decide) e.symm)); have S5 := Lib.hid h5; clear h5 g5; have M3 : True := trivial) | (at_builtin; have qq := M3; refine wp_ints _ rfl _ _ rfl w.heap.size w.heap.size v5 _ ([] ++ stZ (s.st.drop j)) [(x : Int)] rfl rfl (S5.out.lat (allocBP _ _)) (OwZ.lit w5 w.heap.size ((x : Int)) W5.out.be.size) (by simp only [stZ_len, List.length_append, List.length_cons, List.length_nil, List.length_drop]; have := LL.out; omega) (W5.out.be.alloc W5.out.be.size _).size ?_; clear qq M3; intro v6 w6 h6 g6; have W6 := Lib.hid ((W5.out.lat (allocBP _ _)).grow (S5.out.lat (allocBP _ _)) g6); have z0 := ((I5.out.lat (allocBP _ _)).grown g6 (fun e => own_neB S5.out I5.out (by decide) e.symm)).cell 0; simp only [List.getElem?_toArray, List.getElem?_cons_zero] at z0; rw [List.nil_append] at h6; have S6 := Lib.hid h6; clear h6 g6))
                exact ⟨⟨k + 1, m + 1, q, _, L, by rw [show ((k + 1 : Nat) : Int) = (k : Int) + 1 by omega], by rw [show ((m + 1 : Nat) : Int) = (m : Int) + 1 by omega], rfl, by omega, by omega, by omega, by omega, GEN.out w6 v6 W6.out S6.out⟩, by simp [intOf]; omega⟩
              · have b7 : (io' == 7) = false := by simpa using o7
                have xp := hxp o7
                rw [xp] at PUS
                clear hx7 hxp o7 o6 xp
                by_cases o3 : io' = 3
                · have b3 : (io' == 3) = true := by simpa using o3
                  have d1 : ¬ day < ib := by have := WFH.out.ob o3; simp only at this; omega
                  have d2 : ¬ ba < ib := by have := HS2.out o3; omega
                  clear o3
                  go_wp2_with (first | (go_at_call 20; refine (PUS.out _).mono ?_; rintro e w2 ⟨rfl, hw2⟩; have hw2' := hw2.symm; subst hw2'; clear hw2) | (at_builtin; have qq := M2; refine wp_ints _ rfl _ _ rfl w.heap.size w.heap.size (.slice (some ⟨w1.heap.size, 0, none⟩) 0 0) _ [] (stZ (s.st.drop j)) rfl rfl (OwZ.made w1 w.heap.size 0 #[] WB1.out.be.size (by unfold maxLen; omega) rfl) (S1.out.lat (allocBP _ _)) (by simp only [stZ_len, List.length_nil, List.length_drop]; have := LL.out; omega) (WB1.out.be.alloc WB1.out.be.size _).size ?_; clear qq M2; intro v5 w5 h5 g5; have W5 := Lib.hid ((WB1.out.lat (allocBP _ _)).grow (OwZ.made w1 w.heap.size 0 #[] WB1.out.be.size (by unfold maxLen; omega) rfl) g5); have I5 := Lib.hid ((IB.out.lat (allocBP _ _)).grown g5 (fun e => own_neB (OwZ.made w1 w.heap.size 0 #[] WB1.out.be.size (by unfold maxLen; omega) rfl) (IB.out.lat (allocBP _ _)) (by decide) e.symm)); have S5 := Lib.hid h5; clear h5 g5; have M3 : True := trivial) | (at_builtin; have qq := M3; refine wp_ints _ rfl _ _ rfl w.heap.size w.heap.size v5 _ ([] ++ stZ (s.st.drop j)) [(x : Int)] rfl rfl (S5.out.lat (allocBP _ _)) (OwZ.lit w5 w.heap.size ((x : Int)) W5.out.be.size) (by simp only [stZ_len, List.length_append, List.length_cons, List.length_nil, List.length_drop]; have := LL.out; omega) (W5.out.be.alloc W5.out.be.size _).size ?_; clear qq M3; intro v6 w6 h6 g6; have W6 := Lib.hid ((W5.out.lat (allocBP _ _)).grow (S5.out.lat (allocBP _ _)) g6); have z0 := ((I5.out.lat (allocBP _ _)).grown g6 (fun e => own_neB S5.out I5.out (by decide) e.symm)).cell 0; simp only [List.getElem?_toArray, List.getElem?_cons_zero] at z0; rw [List.nil_append] at h6; have S6 := Lib.hid h6; clear h6 g6))
                  exact ⟨⟨k + 1, m + 1, q, _, L, by rw [show ((k + 1 : Nat) : Int) = (k : Int) + 1 by omega], by rw [show ((m + 1 : Nat) : Int) = (m : Int) + 1 by omega], rfl, by omega, by omega, by omega, by omega, GEN.out w6 v6 W6.out S6.out⟩, by simp [intOf]; omega⟩
                · have b3 : (io' == 3) = false := by simpa using o3
                  clear o3
                  go_wp2_with (first | (go_at_call 20; refine (PUS.out _).mono ?_; rintro e w2 ⟨rfl, hw2⟩; have hw2' := hw2.symm; subst hw2'; clear hw2) | (at_builtin; have qq := M2; refine wp_ints _ rfl _ _ rfl w.heap.size w.heap.size (.slice (some ⟨w1.heap.size, 0, none⟩) 0 0) _ [] (stZ (s.st.drop j)) rfl rfl (OwZ.made w1 w.heap.size 0 #[] WB1.out.be.size (by unfold maxLen; omega) rfl) (S1.out.lat (allocBP _ _)) (by simp only [stZ_len, List.length_nil, List.length_drop]; have := LL.out; omega) (WB1.out.be.alloc WB1.out.be.size _).size ?_; clear qq M2; intro v5 w5 h5 g5; have W5 := Lib.hid ((WB1.out.lat (allocBP _ _)).grow (OwZ.made w1 w.heap.size 0 #[] WB1.out.be.size (by unfold maxLen; omega) rfl) g5); have I5 := Lib.hid ((IB.out.lat (allocBP _ _)).grown g5 (fun e => own_neB (OwZ.made w1 w.heap.size 0 #[] WB1.out.be.size (by unfold maxLen; omega) rfl) (IB.out.lat (allocBP _ _)) (by decide) e.symm)); have S5 := Lib.hid h5; clear h5 g5; have M3 : True := trivial) | (at_builtin; have qq := M3; refine wp_ints _ rfl _ _ rfl w.heap.size w.heap.size v5 _ ([] ++ stZ (s.st.drop j)) [(x : Int)] rfl rfl (S5.out.lat (allocBP _ _)) (OwZ.lit w5 w.heap.size ((x : Int)) W5.out.be.size) (by simp only [stZ_len, List.length_append, List.length_cons, List.length_nil, List.length_drop]; have := LL.out; omega) (W5.out.be.alloc W5.out.be.size _).size ?_; clear qq M3; intro v6 w6 h6 g6; have W6 := Lib.hid ((W5.out.lat (allocBP _ _)).grow (S5.out.lat (allocBP _ _)) g6); have z0 := ((I5.out.lat (allocBP _ _)).grown g6 (fun e => own_neB S5.out I5.out (by decide) e.symm)).cell 0; simp only [List.getElem?_toArray, List.getElem?_cons_zero] at z0; rw [List.nil_append] at h6; have S6 := Lib.hid h6; clear h6 g6))
                  exact ⟨⟨k + 1, m + 1, q, _, L, by rw [show ((k + 1 : Nat) : Int) = (k : Int) + 1 by omega], by rw [show ((m + 1 : Nat) : Int) = (m : Int) + 1 by omega], rfl, by omega, by omega, by omega, by omega, GEN.out w6 v6 W6.out S6.out⟩, by simp [intOf]; omega⟩
end Go.Proofs.YteedkcmjhdabeaaDoor
