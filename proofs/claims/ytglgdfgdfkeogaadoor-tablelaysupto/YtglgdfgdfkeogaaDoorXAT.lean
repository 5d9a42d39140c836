import Derived.Test.YtglgdfgdfkeogaaDoorXAS
import Derived.Test.YtglgdfgdfkeogaaDoorXAN
import Derived.Deep.Cut
import Derived.Deep.CutRange
import Derived.Deep.DeepCutAuto
namespace Go.Proofs.YtglgdfgdfkeogaaDoor
open Go.RowKit
set_option linter.unusedVariables false
set_option linter.unusedSimpArgs false

theorem BkS.permX {W : World} {B bk : Nat} {late : Bool} {N : Nat} {X X' : List (Nat × Obj)} (h : BkS W B bk late N X) (p : X.Perm X') : BkS W B bk late N X' := by
  obtain ⟨vs, g, sE, SR, SN, SP, mark, h1, h2⟩ := h
  refine ⟨vs, g, sE, SR, SN, SP, mark, ⟨BkI.perm h1.I.b h1.I.nd ?_ h1.I.ev, h1.l⟩, h2⟩
  exact List.Perm.append_left _ (List.Perm.append_left _ (List.Perm.append_left _ (List.Perm.append_left _ p)))
theorem BkS.mono {W : World} {B bk : Nat} {late : Bool} {N M : Nat} {X : List (Nat × Obj)} (h : BkS W B bk late N X) (k : N ≤ M) : BkS W B bk late M X := by
  obtain ⟨vs, g, sE, SR, SN, SP, mark, h1, h2, h3⟩ := h
  exact ⟨vs, g, sE, SR, SN, SP, mark, h1, h2.mono (by omega) k, h3⟩
/-- New blocks of two kinds are kept. -/
theorem BkS.keep2 {W0 W : World} {B bk : Nat} {late : Bool} {N : Nat} {X : List (Nat × Obj)} (h : BkS W0 B bk late N X) (b : Below W0.heap.size W0 W) (L M : List (Nat × Obj)) (hL : ∀ p ∈ L, W.heap[p.1]? = some p.2 ∧ W0.heap.size ≤ p.1) (hM : ∀ p ∈ M, W.heap[p.1]? = some p.2 ∧ W0.heap.size ≤ p.1) (ne : ∀ p ∈ L, ∀ q ∈ M, p.1 ≠ q.1) : ∃ Y Z, BkS W B bk late N (Y ++ (Z ++ X)) ∧ (∀ p ∈ L, p ∈ Y) ∧ ∀ p ∈ M, p ∈ Z := by
  obtain ⟨vs, g, sE, SR, SN, SP, mark, h1, h2⟩ := h
  have h3 := h1.below b
  obtain ⟨Z, k1, k2, k3, k4⟩ := h3.I.b.leaveS M (fun p hp => ⟨(hM p hp).1, h1.I.b.o.new (hM p hp).2⟩)
  obtain ⟨Y, m1, m2, m3, m4⟩ := k1.leaveS L (fun p hp => ⟨(hL p hp).1, by
    have f := h1.I.b.o.new (hL p hp).2
    refine ⟨f.1, f.2.1, fun q hq e => ?_⟩
    rcases List.mem_append.1 hq with r | r
    · exact ne p hp q (k3 q r) e.symm
    · exact f.2.2 q r e⟩)
  refine ⟨Y, Z, ⟨vs, g, sE, SR, SN, SP, mark, ⟨BkI.perm m1 (m4 (k4 h3.I.nd)) ?_ h3.I.ev, h3.l⟩, h2⟩, m2, k2⟩
  have := (perm_out (sE ++ (restS SR 0 ++ (restS SN 0 ++ restS SP 0))) (Y ++ Z) X).symm
  simpa [List.append_assoc] using this
theorem RawV.imp {w : World} {g : Bg} {L L' : Prop} (h : RawV w g L) (k : L' → L) : RawV w g L' := by
  refine ⟨h.lr, h.ln, h.lp, fun m hm => ?_, fun m hm => ?_, fun m hm => ?_⟩
  · obtain ⟨a, n, c, b, m', d, rs, qs, e1, e2, e3, e4, e5⟩ := h.r m hm
    exact ⟨a, n, c, b, m', d, rs, qs, e1, e2, e3, e4, fun z => e5 (k z)⟩
  · obtain ⟨a, n, c, b, m', d, rs, qs, e1, e2, e3, e4, e5⟩ := h.n m hm
    exact ⟨a, n, c, b, m', d, rs, qs, e1, e2, e3, e4, fun z => e5 (k z)⟩
  · obtain ⟨a, n, c, b, m', d, rs, qs, e1, e2, e3, e4, e5⟩ := h.p m hm
    exact ⟨a, n, c, b, m', d, rs, qs, e1, e2, e3, e4, fun z => e5 (k z)⟩
/-- kept. -/
theorem kept_S (B bk : Nat) (late : Bool) (N : Nat) (X : List (Nat × Obj)) (w : World) (h : BkS w B bk late N X) (hN : N ≤ 40000000) (G : Gl B bk w) (hB : B ≤ w.heap.size) :
    Calls Tryd.prog 12 #[.pointer (some ⟨bk, 0, none⟩)] w fun e w' => e = .returned (.bool true) ∧ Below w.heap.size w w' := by
  obtain ⟨vs, g, sE, SR, SN, SP, mark, h1, h2, h3⟩ := h
  exact kept_any B bk vs g _ mark late w h1.I.b (h1.view.imp (fun _ => ⟨rfl, rfl, rfl⟩)) (h1.I.ev.more (fun p hp => List.mem_append.2 (.inl hp))) G.ot (Nat.lt_of_lt_of_le G.lt.1 hB) ⟨by have := h2.rr; omega, by have := h2.rn; omega, by have := h2.rp; omega⟩ ⟨by have := h2.r; omega, by have := h2.o; omega, by have := h2.n; omega, by have := h2.p; omega⟩
set_option maxRecDepth 100000 in
set_option maxHeartbeats 4000000 in
theorem table_X (B bk : Nat) (late : Bool) (N : Nat) (an ar : Option Addr) (ln cn lr cr : Nat) (ns : List ByteArray) (qs : List Rw) (w0 w : World) (h : BkS w0 B bk late N []) (b : Below w0.heap.size w0 w) (hN : N ≤ 30000000) (hB : B ≤ w0.heap.size) (o1 : w.ownsRow w0.heap.size 9 1 (.slice an ln cn) ln (ns.map Value.string)) (o2 : RwO w w0.heap.size (.slice ar lr cr) qs) (G : Gl B bk w)
    (hn : ln ≤ 1000000) (hs : ∀ s ∈ ns, s.size ≤ 140737488351232) (hr : lr ≤ 4096) (hq : ∀ q ∈ qs, q.cs.length ≤ 2000000 ∧ ∀ c ∈ q.cs, (Lit.int .i64 c.v).wf = true) :
    Calls Tryd.prog 23 #[.pointer (some ⟨bk, 0, none⟩), .agg #[.slice an ln cn, .slice ar lr cr]] w fun e w' => e = .returned (.tuple #[]) ∧ BkS w' B bk late (N + 2) [] ∧ Fr B bk w w' := by
  have hl : ∀ q ∈ qs, q.cs.length ≤ 2000000 := fun q hq' => (hq q hq').1
  have hBw : B ≤ w.heap.size := Nat.le_trans hB b.size
  have tyN : ∀ p ∈ blkL w (.slice an ln cn), w.heap[p.1]? = some p.2 ∧ w0.heap.size ≤ p.1 ∧ ∃ cur, w.heap[p.1]? = some (.cells cur 9) := fun p hp => by
    obtain ⟨e1, e2⟩ := blkL_is o1 p hp
    exact ⟨e2, (o1.lt _ e1).1, own_blk o1 e1⟩
  have tyR : ∀ p ∈ blkL w (.slice ar lr cr) ++ qs.flatMap (fun q => blkL w (qv q)), w.heap[p.1]? = some p.2 ∧ w0.heap.size ≤ p.1 ∧ ((∃ cur, w.heap[p.1]? = some (.cells cur 49)) ∨ ∃ cur, w.heap[p.1]? = some (.cells cur 53)) := fun p hp => by
    rcases List.mem_append.1 hp with r | r
    · obtain ⟨e1, e2⟩ := blkL_is o2.own p r
      exact ⟨e2, (o2.own.lt _ e1).1, .inl (own_blk o2.own e1)⟩
    · obtain ⟨q, hq', r⟩ := List.mem_flatMap.1 r
      obtain ⟨e1, e2⟩ := blkL_is (q_own (o2.ok q hq') (hl q hq')) p r
      exact ⟨e2, ((q_own (o2.ok q hq') (hl q hq')).lt _ e1).1, .inr (own_blk (q_own (o2.ok q hq') (hl q hq')) e1)⟩
  obtain ⟨Y, Z, k1, k2, k3⟩ := h.keep2 b (blkL w (.slice ar lr cr) ++ qs.flatMap (fun q => blkL w (qv q))) (blkL w (.slice an ln cn)) (fun p hp => ⟨(tyR p hp).1, (tyR p hp).2.1⟩) (fun p hp => ⟨(tyN p hp).1, (tyN p hp).2.1⟩) (fun p hp q hq' e => by
    obtain ⟨_, _, cur, t1⟩ := tyN q hq'
    rcases (tyR p hp).2.2 with ⟨cu, t2⟩ | ⟨cu, t2⟩
    · exact blk_ty t2 t1 (by decide) e
    · exact blk_ty t2 t1 (by decide) e)
  obtain ⟨wb, hwb⟩ : ∃ u, w.alloc (.cells #[.slice an ln cn, .slice ar lr cr] 25) = u := ⟨_, rfl⟩
  have bb : Below w.heap.size w wb := by rw [← hwb]; exact below_al w _
  have hbx : wb.heap[w.heap.size]? = some (.cells #[.slice an ln cn, .slice ar lr cr] 25) := by rw [← hwb]; exact World.alloc_heap_new w _
  obtain ⟨V, j1, j2⟩ := k1.keep bb [(w.heap.size, .cells #[.slice an ln cn, .slice ar lr cr] 25)] (fun p hp => by
    rw [List.mem_singleton.1 hp]
    exact ⟨hbx, Nat.le_refl _⟩)
  have j3 : BkS wb B bk late N (Y ++ (V ++ Z)) := j1.permX (by
    have := perm_out V Y Z
    simpa using this)
  have O2 := RwO.mono (o2.below bb) hB
  have Gb := G.fr (Fr.below (bk := bk) bb hBw)
  have ob : ∀ q ∈ qs, ∀ z, q.a = some ⟨z, 0, none⟩ → (qv q).ownBlock = some z := fun q _ z e => by unfold qv; rw [e]; rfl
  have KR := Lib.hid (rows_X B bk late N Y (V ++ Z) ar lr cr qs wb j3 (by omega) (Nat.le_trans hBw bb.size) O2 (fun z e => by
    obtain ⟨obj, m, _⟩ := blkL_has o2.own e
    exact List.mem_map.2 ⟨_, k2 _ (List.mem_append.2 (.inl m)), rfl⟩) (fun q hq' z e => by
    obtain ⟨obj, m, _⟩ := blkL_has (q_own (o2.ok q hq') (hl q hq')) (ob q hq' z e)
    exact List.mem_map.2 ⟨_, k2 _ (List.mem_append.2 (.inr (List.mem_flatMap.2 ⟨q, hq', m⟩))), rfl⟩) Gb hr hq)
  have KN := Lib.hid (p := ∀ W, BkS W B bk late (N + 1) (V ++ Z) → Fr B bk wb W → Calls Tryd.prog 33 #[.pointer (some ⟨bk, 0, none⟩), .slice an ln cn] W fun e w' => e = .returned (.tuple #[]) ∧ BkS w' B bk late (N + 1 + 1) [] ∧ Fr B bk W w') (fun W hW fW => by
    have hol := hW.hol
    have oW : W.ownsRow w0.heap.size 9 1 (.slice an ln cn) ln (ns.map Value.string) := own_keep o1 (fun z hz => by
      obtain ⟨ob, m, e⟩ := blkL_has o1 hz
      rw [e]
      exact hol _ (List.mem_append.2 (.inr (k3 _ m))))
    exact names_X B bk late (N + 1) (V ++ Z) [] an ln cn ns W (by rw [List.append_nil]; exact hW) (by omega) (Nat.le_trans (Nat.le_trans hBw bb.size) fW.size) (own_mono oW hB) (fun z e => by
      obtain ⟨obj, m, _⟩ := blkL_has o1 e
      exact List.mem_map.2 ⟨_, List.mem_append.2 (.inr (k3 _ m)), rfl⟩) hn hs)
  have BX := Lib.hid (p := ∀ W, BkS W B bk late (N + 1) (V ++ Z) → W.cell? ⟨w.heap.size, 0, none⟩ = some (.slice an ln cn) ∧ W.cell? ⟨w.heap.size, 1, none⟩ = some (.slice ar lr cr)) (fun W hW => by
    have := box_all2 (hW.hol _ (List.mem_append.2 (.inl (j2 _ (List.mem_singleton.2 rfl)))))
    exact ⟨this.1, this.2.1⟩)
  have FB := Lib.hid (Fr.below (bk := bk) bb hBw)
  obtain ⟨x0, x1, _, _⟩ := box_all2 hbx
  clear h b o1 o2 tyN tyR k1 k2 k3 j1 j2 j3 O2 Gb ob hbx bb hs hq hl hB hBw G hN hn hr
  subst hwb
  go_enter Tryd.func23, Tryd.ntmps23
  clear x0 x1
  go_wp2_with (first
    | (go_at_call 22; refine KR.out.mono ?_; rintro e w2 ⟨rfl, hS, hF⟩; have S2 := Lib.hid hS; have F2 := Lib.hid hF; obtain ⟨y0, y1⟩ := BX.out w2 hS; clear hS hF)
    | (go_at_call 33; refine (KN.out w2 S2.out F2.out).mono ?_; rintro e w3 ⟨rfl, hS, hF⟩; have S3 := Lib.hid hS; have F3 := Lib.hid hF; clear hS hF))
  go_end0
  exact ⟨rfl, S3.out.mono (by omega), (FB.out.trans F2.out).trans F3.out⟩
end Go.Proofs.YtglgdfgdfkeogaaDoor

namespace Go.Proofs.YtglgdfgdfkeogaaDoor
open Go.RowKit
set_option linter.unusedVariables false
set_option linter.unusedSimpArgs false

/-- The book is late no more. -/
theorem Bk.unlate {W : World} {B bk : Nat} {vs : List Value} {g : Bg} {sn : List (Nat × Obj)} {mark : Int} {late : Bool} (h : Bk W B bk vs g sn mark late) (l : Bool) : Bk (W.setCell ⟨bk, 12, none⟩ (.bool l)) B bk (vs.set 12 (.bool l)) g sn mark l := by
  refine ⟨h.o.set 12 _ (fun f hf => (g.keys f hf).2), ?_, ?_⟩
  · rw [← h.mt]
    simp only [List.getD]
    rw [List.getElem?_set_ne (by omega)]
  · have : 12 < vs.length := by rw [h.o.hl]; omega
    simp [List.getD, this]
def StE (B bk : Nat) (SR SN SP : List (List (Nat × Obj))) (i j k : Nat) (N M : Nat) (w : World) : Prop := ∃ vs g sE mark, BkL w B bk vs g sE SR SN SP i j k [] mark false ∧ Sz g mark N M
theorem own_some {W : World} {B n c s : Nat} {E : TypeId} {a : Option Addr} {xs : List Value} (h : W.ownsRow B E s (.slice a n c) n xs) : n = 0 ∨ ∃ z, a = some ⟨z, 0, none⟩ := by
  rcases h.2 with ⟨e, e0⟩ | ⟨g, cap, cur, e, _⟩
  · exact .inl e0
  · injection e with e1; exact .inr ⟨g, e1⟩
theorem settle_r (B bk : Nat) (SR SN SP : List (List (Nat × Obj))) (i j k N M : Nat) (vs : List Value) (g : Bg) (sE : List (Nat × Obj)) (mark : Int) (w : World) (h : BkL w B bk vs g sE SR SN SP i j k [] mark false) (hs : Sz g mark N M) (hi : i < SR.length) (hN : N ≤ 900000000000) (hB : B ≤ w.heap.size) (G : Gl B bk w) (v : Value) (hv : g.rr.getD i default = v) :
    Calls Tryd.prog 22 #[.pointer (some ⟨bk, 0, none⟩), v] w fun e w' => e = .returned (.tuple #[]) ∧ StE B bk SR SN SP (i + 1) j k (N + 5000) M w' ∧ Fr B bk w w' := by
  obtain ⟨a, n, c, qs, B1, qs1, e1, e2, e3, e4, e5, e6, e7, e8⟩ := h.l.r i hi
  rw [hv] at e1 e5
  subst e1
  have sg := e5 (by omega)
  have p : (sE ++ (restS SR i ++ (restS SN j ++ (restS SP k ++ [])))).Perm (SR.getD i [] ++ (sE ++ (restS SR (i + 1) ++ (restS SN j ++ (restS SP k ++ []))))) := by
    rw [restS_at hi, List.append_assoc]
    exact perm_out sE (SR.getD i []) _
  obtain ⟨b, nd, fz, hol⟩ := h.I.b.take h.I.nd p
  have ro := sg.1 w hol
  refine (rows_I B bk vs g sE _ mark N M a n c qs w ⟨b, nd, h.I.ev⟩ hs hN hB ro ⟨fun z e => fz z (sg.2.1 z e), fun q hq z e => fz z (sg.2.2 q hq z e)⟩ G.ot G.lt (by omega) (fun q hq => (e4 q hq).1)).mono ?_
  rintro e w' ⟨rfl, vs', g', sE', mark', k1, k2, k3, k4, k5, k6⟩
  refine ⟨rfl, ⟨vs', g', sE', mark', ⟨k1, ?_⟩, k4.mono (by omega) (Nat.le_refl _)⟩, k6⟩
  have l := h.l.same k3 k2
  refine ⟨l.r1, l.r2, l.n1, l.n2, l.p1, l.p2, fun m hm => ?_, l.n, l.p⟩
  by_cases q : m = i
  · subst q
    rw [k3.rr, k3.wr, hv]
    exact ⟨a, n, c, qs, B1, qs1, rfl, e2, e3, e4, fun z => absurd (Nat.lt_succ_self m) z, fun _ => ⟨k5, own_some (by have := ro.own; rwa [e2] at this)⟩, fun W hW => e7 W (hW.sub k2), e8⟩
  · exact (l.r m hm).more (fun p hp => hp) (by omega)
theorem settle_n (B bk : Nat) (SR SN SP : List (List (Nat × Obj))) (i j k N M : Nat) (vs : List Value) (g : Bg) (sE : List (Nat × Obj)) (mark : Int) (w : World) (h : BkL w B bk vs g sE SR SN SP i j k [] mark false) (hs : Sz g mark N M) (hi : j < SN.length) (hN : N ≤ 900000000000) (hB : B ≤ w.heap.size) (v : Value) (hv : g.rn.getD j default = v) :
    Calls Tryd.prog 33 #[.pointer (some ⟨bk, 0, none⟩), v] w fun e w' => e = .returned (.tuple #[]) ∧ StE B bk SR SN SP i (j + 1) k (N + 5000) M w' ∧ Fr B bk w w' := by
  obtain ⟨a, n, c, ss, B1, e1, e2, e3, e4, e5, e6, e7⟩ := h.l.n j hi
  rw [hv] at e1 e5
  subst e1
  have sg := e5 (by omega)
  have p : (sE ++ (restS SR i ++ (restS SN j ++ (restS SP k ++ [])))).Perm (SN.getD j [] ++ (sE ++ (restS SR i ++ (restS SN (j + 1) ++ (restS SP k ++ []))))) := by
    rw [restS_at hi]
    have := perm_out (sE ++ restS SR i) (SN.getD j []) (restS SN (j + 1) ++ (restS SP k ++ []))
    simpa [List.append_assoc] using this
  obtain ⟨b, nd, fz, hol⟩ := h.I.b.take h.I.nd p
  have ro := sg.1 w hol
  refine (names_I B bk vs g sE _ mark N M a n c _ w ⟨b, nd, h.I.ev⟩ hs hN hB ro (fun z e => fz z (sg.2 z e)) e3).mono ?_
  rintro e w' ⟨rfl, vs', g', sE', mark', k1, k2, k3, k4, k5, k6⟩
  refine ⟨rfl, ⟨vs', g', sE', mark', ⟨k1, ?_⟩, k4.mono (by omega) (Nat.le_refl _)⟩, k6⟩
  have l := h.l.same k3 k2
  refine ⟨l.r1, l.r2, l.n1, l.n2, l.p1, l.p2, l.r, fun m hm => ?_, l.p⟩
  by_cases q : m = j
  · subst q
    rw [k3.rn, k3.wn, hv]
    exact ⟨a, n, c, ss, B1, rfl, e2, e3, e4, fun z => absurd (Nat.lt_succ_self m) z, fun _ => ⟨k5, own_some ro⟩, fun W hW => e7 W (hW.sub k2)⟩
  · exact (l.n m hm).more (fun p hp => hp) (by omega)
theorem settle_p (B bk : Nat) (SR SN SP : List (List (Nat × Obj))) (i j k N M : Nat) (vs : List Value) (g : Bg) (sE : List (Nat × Obj)) (mark : Int) (w : World) (h : BkL w B bk vs g sE SR SN SP i j k [] mark false) (hs : Sz g mark N M) (hi : k < SP.length) (hN : N ≤ 900000000000) (hB : B ≤ w.heap.size) (v : Value) (hv : g.rp.getD k default = v) :
    Calls Tryd.prog 31 #[.pointer (some ⟨bk, 0, none⟩), v] w fun e w' => e = .returned (.tuple #[]) ∧ StE B bk SR SN SP i j (k + 1) (N + 5000) M w' ∧ Fr B bk w w' := by
  obtain ⟨a, n, c, ss, B1, e1, e2, e3, e5, e6, e7⟩ := h.l.p k hi
  rw [hv] at e1 e5
  subst e1
  have sg := e5 (by omega)
  have p : (sE ++ (restS SR i ++ (restS SN j ++ (restS SP k ++ [])))).Perm (SP.getD k [] ++ (sE ++ (restS SR i ++ (restS SN j ++ (restS SP (k + 1) ++ []))))) := by
    rw [restS_at hi]
    have := perm_out (sE ++ (restS SR i ++ restS SN j)) (SP.getD k []) (restS SP (k + 1) ++ [])
    simpa [List.append_assoc] using this
  obtain ⟨b, nd, fz, hol⟩ := h.I.b.take h.I.nd p
  have ro := sg.1 w hol
  refine (pairs_I B bk vs g sE _ mark N M a n c ss w ⟨b, nd, h.I.ev⟩ hs hN hB ro (fun z e => fz z (sg.2 z e)) (by omega)).mono ?_
  rintro e w' ⟨rfl, vs', g', sE', mark', k1, k2, k3, k4, k5, k6⟩
  refine ⟨rfl, ⟨vs', g', sE', mark', ⟨k1, ?_⟩, k4.mono (by omega) (Nat.le_refl _)⟩, k6⟩
  have l := h.l.same k3 k2
  refine ⟨l.r1, l.r2, l.n1, l.n2, l.p1, l.p2, l.r, l.n, fun m hm => ?_⟩
  by_cases q : m = k
  · subst q
    rw [k3.rp, k3.wp, hv]
    exact ⟨a, n, c, ss, B1, rfl, e2, e3, fun z => absurd (Nat.lt_succ_self m) z, fun _ => ⟨k5, own_some ro⟩, fun W hW => e7 W (hW.sub k2)⟩
  · exact (l.p m hm).more (fun p hp => hp) (by omega)
/-- A field of the book, and one of its list. -/
theorem BkL.rr_at {W : World} {B bk : Nat} {vs : List Value} {g : Bg} {sE : List (Nat × Obj)} {SR SN SP : List (List (Nat × Obj))} {i j k : Nat} {X : List (Nat × Obj)} {mark : Int} {late : Bool} (h : BkL W B bk vs g sE SR SN SP i j k X mark late) : (∃ a c, W.cell? ⟨bk, 13, none⟩ = some (.slice a SR.length c) ∧ ∀ m, m < SR.length → ∃ z x n d, a = some ⟨z, 0, none⟩ ∧ W.cell? ⟨z, m, none⟩ = some (.slice x n d) ∧ g.rr.getD m default = .slice x n d) ∧ (∃ a c, W.cell? ⟨bk, 15, none⟩ = some (.slice a SN.length c) ∧ ∀ m, m < SN.length → ∃ z x n d, a = some ⟨z, 0, none⟩ ∧ W.cell? ⟨z, m, none⟩ = some (.slice x n d) ∧ g.rn.getD m default = .slice x n d) ∧ (∃ a c, W.cell? ⟨bk, 17, none⟩ = some (.slice a SP.length c) ∧ ∀ m, m < SP.length → ∃ z x n d, a = some ⟨z, 0, none⟩ ∧ W.cell? ⟨z, m, none⟩ = some (.slice x n d) ∧ g.rp.getD m default = .slice x n d) := by
  refine ⟨?_, ?_, ?_⟩
  · obtain ⟨a, c, e, q⟩ := h.I.b.at_list (k := 13) (T := 23) (xs := g.rr) (n := g.rr.length) (by simp [Bg.fs]) rfl
    rw [h.l.r1] at e q
    refine ⟨a, c, e, fun m hm => ?_⟩
    obtain ⟨x, n, d, _, _, _, e1, _⟩ := h.l.r m hm
    rcases q with q | ⟨z, ez, q⟩
    · omega
    · have := q m hm
      rw [e1] at this
      exact ⟨z, x, n, d, ez, this, e1⟩
  · obtain ⟨a, c, e, q⟩ := h.I.b.at_list (k := 15) (T := 22) (xs := g.rn) (n := g.rn.length) (by simp [Bg.fs]) rfl
    rw [h.l.n1] at e q
    refine ⟨a, c, e, fun m hm => ?_⟩
    obtain ⟨x, n, d, _, _, e1, _⟩ := h.l.n m hm
    rcases q with q | ⟨z, ez, q⟩
    · omega
    · have := q m hm
      rw [e1] at this
      exact ⟨z, x, n, d, ez, this, e1⟩
  · obtain ⟨a, c, e, q⟩ := h.I.b.at_list (k := 17) (T := 59) (xs := g.rp) (n := g.rp.length) (by simp [Bg.fs]) rfl
    rw [h.l.p1] at e q
    refine ⟨a, c, e, fun m hm => ?_⟩
    obtain ⟨x, n, d, _, _, e1, _⟩ := h.l.p m hm
    rcases q with q | ⟨z, ez, q⟩
    · omega
    · have := q m hm
      rw [e1] at this
      exact ⟨z, x, n, d, ez, this, e1⟩
set_option maxRecDepth 100000 in
set_option maxHeartbeats 8000000 in
theorem settled_any (B bk : Nat) (K : Nat) (w : World) (h : BkS w B bk true K []) (hK : K ≤ 40000000) (hB : B ≤ w.heap.size) (G : Gl B bk w) :
    Calls Tryd.prog 13 #[.pointer (some ⟨bk, 0, none⟩)] w fun e w' => e = .returned (.bool true) ∧ Fr B bk w w' := by
  obtain ⟨vs, g, sE, SR, SN, SP, mark, h1, h2, _⟩ := h
  have KR := Lib.hid (raw_any B bk vs g _ mark true (0 = 0 ∧ 0 = 0 ∧ 0 = 0) w h1.I.b h1.view ⟨by have := h2.rr; omega, by have := h2.rn; omega, by have := h2.rp; omega⟩)
  have lR : SR.length ≤ K := by have := h2.rr; rw [h1.l.r1] at this; exact this
  have lN : SN.length ≤ K := by have := h2.rn; rw [h1.l.n1] at this; exact this
  have lP : SP.length ≤ K := by have := h2.rp; rw [h1.l.p1] at this; exact this
  have ST := Lib.hid (p := ∀ q, StE B bk SR SN SP 0 0 0 (5000 * K) K ((w.drewN q).setCell ⟨bk, 12, none⟩ (.bool false)) ∧ Fr B bk w ((w.drewN q).setCell ⟨bk, 12, none⟩ (.bool false)) ∧ (w.drewN q).cell? ⟨bk, 12, none⟩ = some (.bool true) ∧ (w.drewN q).frozen? ⟨bk, 12, none⟩ = false) (fun q => by
    have hd := h1.below (drewN_below w q)
    refine ⟨⟨_, g, sE, mark, ⟨⟨hd.I.b.unlate false, hd.I.nd, hd.I.ev⟩, hd.l⟩, h2⟩, (Fr.below (drewN_below w q) hB).trans (Fr.set _), hd.I.b.cells.2.1, (hd.I.b.o.cell 12 (by omega)).2⟩)
  have GG := Lib.hid (p := ∀ W, Fr B bk w W → Gl B bk W ∧ B ≤ W.heap.size) (fun W f => ⟨G.fr f, Nat.le_trans hB f.size⟩)
  clear h1 h2 G
  go_enter Tryd.func13, Tryd.ntmps13
  go_wp2_with (go_at_call 32; refine KR.out.mono ?_; rintro e w1 ⟨⟨o, rfl, hL⟩, q, hq⟩; have ho := hL ⟨rfl, rfl, rfl⟩; subst ho; subst hq; obtain ⟨s1, s2, s3, s4⟩ := ST.out q; have S1 := Lib.hid s1; have F1 := Lib.hid s2; clear hL s1 s2)
  go_loopw [4] (fun t ws => ∃ i : Nat, i ≤ SR.length ∧ t = .int .i64 (i : Int) ∧ RowKit.Hid (StE B bk SR SN SP i 0 0 (5000 * K + 5000 * i) K ws ∧ Fr B bk w ws)) (fun t _ => SR.length - (intOf t).toNat)
  case atStart => exact ⟨0, Nat.zero_le _, rfl, S1.out, F1.out⟩
  case round =>
    obtain ⟨i, hi, rfl, hQ⟩ := hrel
    rename World => ws
    obtain ⟨⟨vs1, g1, sE1, mark1, b1, z1⟩, f1⟩ := hQ.out
    have F2 := Lib.hid f1
    have SX := Lib.hid (p := StE B bk SR SN SP i 0 0 (5000 * K + 5000 * i) K ws) ⟨vs1, g1, sE1, mark1, b1, z1⟩
    obtain ⟨⟨ha, hc, c13, A13⟩, _, _⟩ := b1.rr_at
    clear hQ
    by_cases hlt : i < SR.length
    · have kc : (i : Int) < (SR.length : Int) := by omega
      have kw : IntKind.i64.wrap ((i : Int) + 1) = (i : Int) + 1 := by simp [IntKind.wrap, IntKind.bits, IntKind.signed]; omega
      obtain ⟨z, x, n, d, rfl, d0, ev⟩ := A13 i hlt
      have KC := Lib.hid (settle_r B bk SR SN SP i 0 0 (5000 * K + 5000 * i) K vs1 g1 sE1 mark1 ws b1 z1 hlt (by omega) (GG.out _ f1).2 (GG.out _ f1).1 _ ev)
      clear A13 b1 z1 f1 ev
      go_wp2_with (go_at_call 22; refine KC.out.mono ?_; rintro e w3 ⟨rfl, hS, hF⟩; have S3 := Lib.hid hS; have F3 := Lib.hid (F2.out.trans hF); clear hS hF)
      go_roundw
      case rel => exact ⟨i + 1, by omega, by go_num, S3.out, F3.out⟩
      case measure => simp [intOf]; omega
    · obtain rfl : i = SR.length := by omega
      have kc : ¬ (SR.length : Int) < (SR.length : Int) := by omega
      clear A13 b1 z1 f1
      go_wp2
      clear c13
      go_loopw [5] (fun t ws => ∃ j : Nat, j ≤ SN.length ∧ t = .int .i64 (j : Int) ∧ RowKit.Hid (StE B bk SR SN SP SR.length j 0 (5000 * K + 5000 * SR.length + 5000 * j) K ws ∧ Fr B bk w ws)) (fun t _ => SN.length - (intOf t).toNat)
      case atStart => exact ⟨0, Nat.zero_le _, rfl, SX.out, F2.out⟩
      case round =>
        obtain ⟨j, hj, rfl, hQ⟩ := hrel
        rename World => wt
        obtain ⟨⟨vs1, g1, sE1, mark1, b1, z1⟩, f1⟩ := hQ.out
        have F4 := Lib.hid f1
        have SY := Lib.hid (p := StE B bk SR SN SP SR.length j 0 (5000 * K + 5000 * SR.length + 5000 * j) K wt) ⟨vs1, g1, sE1, mark1, b1, z1⟩
        obtain ⟨_, ⟨ha, hc, c15, A15⟩, _⟩ := b1.rr_at
        clear hQ
        by_cases hlt : j < SN.length
        · have kc : (j : Int) < (SN.length : Int) := by omega
          have kw : IntKind.i64.wrap ((j : Int) + 1) = (j : Int) + 1 := by simp [IntKind.wrap, IntKind.bits, IntKind.signed]; omega
          obtain ⟨z, x, n, d, rfl, d0, ev⟩ := A15 j hlt
          have KC := Lib.hid (settle_n B bk SR SN SP SR.length j 0 (5000 * K + 5000 * SR.length + 5000 * j) K vs1 g1 sE1 mark1 wt b1 z1 hlt (by omega) (GG.out _ f1).2 _ ev)
          clear A15 b1 z1 f1 ev
          go_wp2_with (go_at_call 33; refine KC.out.mono ?_; rintro e w3 ⟨rfl, hS, hF⟩; have S3 := Lib.hid hS; have F3 := Lib.hid (F4.out.trans hF); clear hS hF)
          go_roundw
          case rel => exact ⟨j + 1, by omega, by go_num, S3.out, F3.out⟩
          case measure => simp [intOf]; omega
        · obtain rfl : j = SN.length := by omega
          have kc : ¬ (SN.length : Int) < (SN.length : Int) := by omega
          clear A15 b1 z1 f1
          go_wp2
          clear c15
          go_loopw [6] (fun t ws => ∃ k : Nat, k ≤ SP.length ∧ t = .int .i64 (k : Int) ∧ RowKit.Hid (StE B bk SR SN SP SR.length SN.length k (5000 * K + 5000 * SR.length + 5000 * SN.length + 5000 * k) K ws ∧ Fr B bk w ws)) (fun t _ => SP.length - (intOf t).toNat)
          case atStart => exact ⟨0, Nat.zero_le _, rfl, SY.out, F4.out⟩
          case round =>
            obtain ⟨k, hk, rfl, hQ⟩ := hrel
            rename World => wu
            obtain ⟨⟨vs1, g1, sE1, mark1, b1, z1⟩, f1⟩ := hQ.out
            have F6 := Lib.hid f1
            obtain ⟨_, _, ⟨ha, hc, c17, A17⟩⟩ := b1.rr_at
            clear hQ
            by_cases hlt : k < SP.length
            · have kc : (k : Int) < (SP.length : Int) := by omega
              have kw : IntKind.i64.wrap ((k : Int) + 1) = (k : Int) + 1 := by simp [IntKind.wrap, IntKind.bits, IntKind.signed]; omega
              obtain ⟨z, x, n, d, rfl, d0, ev⟩ := A17 k hlt
              have KC := Lib.hid (settle_p B bk SR SN SP SR.length SN.length k (5000 * K + 5000 * SR.length + 5000 * SN.length + 5000 * k) K vs1 g1 sE1 mark1 wu b1 z1 hlt (by omega) (GG.out _ f1).2 _ ev)
              clear A17 b1 z1 f1 ev
              go_wp2_with (go_at_call 31; refine KC.out.mono ?_; rintro e w3 ⟨rfl, hS, hF⟩; have S3 := Lib.hid hS; have F3 := Lib.hid (F6.out.trans hF); clear hS hF)
              go_roundw
              case rel => exact ⟨k + 1, by omega, by go_num, S3.out, F3.out⟩
              case measure => simp [intOf]; omega
            · obtain rfl : k = SP.length := by omega
              have kc : ¬ (SP.length : Int) < (SP.length : Int) := by omega
              have KK := Lib.hid (kept_any B bk vs1 g1 _ mark1 false wu b1.I.b (b1.view.imp (fun z => by cases z)) (b1.I.ev.more (fun p hp => List.mem_append.2 (.inl hp))) (GG.out _ f1).1.ot (Nat.lt_of_lt_of_le (GG.out _ f1).1.lt.1 (GG.out _ f1).2) ⟨by have := z1.rr; omega, by have := z1.rn; omega, by have := z1.rp; omega⟩ ⟨by have := z1.r; omega, by have := z1.o; omega, by have := z1.n; omega, by have := z1.p; omega⟩)
              have HBu := Lib.hid (GG.out _ f1).2
              clear A17 b1 z1 f1
              go_wp2_with (go_at_call 12; refine KK.out.mono ?_; rintro e w3 ⟨rfl, hB3⟩; have F7 := Lib.hid (F6.out.trans (Fr.below hB3 HBu.out)); clear hB3)
              go_ret
              exact ⟨rfl, F7.out⟩
end Go.Proofs.YtglgdfgdfkeogaaDoor

namespace Go.Proofs.YtglgdfgdfkeogaaDoor
open Go.RowKit
set_option linter.unusedVariables false
set_option linter.unusedSimpArgs false

theorem rl_take {W : World} {a : Option Addr} {n m : Nat} {rs : List Rw} (h : RL W a n rs) (hm : m ≤ n) : RL W a m (rs.take m) := by
  obtain ⟨h1, h2, h3, h4⟩ := h
  refine ⟨by rw [List.length_take]; omega, by omega, fun r hr => h3 r (List.mem_of_mem_take hr), ?_⟩
  rcases h4 with z | ⟨b, o, e, hb, hc⟩
  · exact .inl (by omega)
  · refine .inr ⟨b, o, e, hb, fun i hi => ?_⟩
    rw [hc i (by omega)]
    simp only [List.getD, List.getElem?_take]
    rw [if_pos hi]
theorem tb_take {W : World} {an ar : Option Addr} {ln cn lr cr m : Nat} {tss ss : List ByteArray} {trs : List Rw} {rs : List (List Cl)} (h : TbIs W ⟨an, ln, cn, tss, ar, lr, cr, trs⟩ ss rs) (hm : m ≤ lr) : TbIs W ⟨an, ln, cn, tss, ar, m, cr, trs.take m⟩ ss (rs.take m) :=
  ⟨h.nl, h.nn, rl_take h.rl hm, (fun e => by have := h.rn e; simp only at this ⊢; omega), h.ns, by have := h.rs; simp only at this ⊢; rw [List.map_take, this]⟩
set_option maxRecDepth 100000 in
set_option maxHeartbeats 8000000 in
theorem rCut_any (t : Tb) (ss : List ByteArray) (rs : List (List Cl)) (k : Int) (w : World) (h : TbIs w t ss rs) (hc : t.lr ≤ t.cr) (hk : k ≤ 9223372036854775807) :
    Calls Tryd.prog 17 #[t.val, .int .i64 k] w fun e w' => TabE ss (rs.take k.toNat) (cutE ss rs k) w e w' := by
  obtain ⟨E, hE⟩ : ∃ E, cutE ss rs k = E := ⟨_, rfl⟩
  rw [hE]
  obtain ⟨V, hV⟩ : ∃ V, validE ss rs = V := ⟨_, rfl⟩
  have KV := Lib.hid (fun (W : World) (b : Below w.heap.size w W) => rValid_any t.an t.ar t.ln t.cn t.lr t.cr t.ss t.rs W (h.nl.later b) (h.rl.later b))
  rw [h.rs, h.ns, hV] at KV
  unfold cutE at hE
  rw [hV] at hE
  have hlr := (tb_lens h).2
  obtain ⟨an, ln, cn, tss, ar, lr, cr, trs⟩ := t
  simp only at KV hc
  have HH := Lib.hid h
  have LRL := Lib.hid (p := lr = rs.length) hlr
  obtain ⟨w1, hw1⟩ : ∃ w1, (w.alloc (.cells #[.slice an ln cn, .slice ar lr cr] 25)).alloc (.cells #[.slice none 0 0, .slice none 0 0] 25) = w1 := ⟨_, rfl⟩
  have B0 := Lib.hid (p := Below w.heap.size w w1) (by rw [← hw1]; exact two_boxes w _ _ _ _ _)
  have CE := Lib.hid (p := ∀ W, Below w1.heap.size w1 W → W.heap[w.heap.size]? = some (.cells #[.slice an ln cn, .slice ar lr cr] 25) ∧ W.heap[w.heap.size + 1]? = some (.cells #[.slice none 0 0, .slice none 0 0] 25)) (fun W b => by rw [← hw1] at b; exact two_cells b)
  have FAIL := Lib.hid (p := ∀ (W : World), E ≠ 0 → Below w.heap.size w W → TabE ss (rs.take k.toNat) E w (.returned (.tuple #[.agg #[.slice none 0 0, .slice none 0 0], .int .i64 E])) W) (fun W q b => tabE_nil q b)
  obtain ⟨x0, x1⟩ := CE.out _ (Below.refl _ _)
  obtain ⟨c0, c1, _, _⟩ := box_all2 x0
  obtain ⟨c2, c3, c4, c5⟩ := box_all2 x1
  clear h hlr
  show Calls Tryd.prog 17 #[.agg #[.slice an ln cn, .slice ar lr cr], .int .i64 k] w _
  by_cases hneg : k < 0
  · rw [if_pos hneg] at hE
    subst hE
    have HB1 := Lib.hid x1
    clear x0 x1
    obtain ⟨r0, r1, _, _⟩ := box_all2 (box_set2 (u := .slice none 0 0) (v := .slice none 0 0) HB1.out)
    go_enter Tryd.func17, Tryd.ntmps17
    go_wp2
    refine bodyPost_ret (v := .tuple #[.agg #[.slice none 0 0, .slice none 0 0], .int .i64 1]) (by simp [results, Tryd.results17, go_sem, r0, r1]) rfl ?_
    exact FAIL.out _ (by decide) ((B0.out.setCell (p := ⟨w.heap.size + 1, 0, none⟩) (Nat.le_succ _) _).setCell (p := ⟨w.heap.size + 1, 1, none⟩) (Nat.le_succ _) _)
  · rw [if_neg hneg] at hE
    subst hE
    clear x0 x1
    by_cases h0 : V = 0
    · subst h0
      obtain ⟨m, rfl⟩ : ∃ m : Nat, k = (m : Int) := ⟨k.toNat, by omega⟩
      clear FAIL
      have ARM := Lib.hid True.intro
      by_cases hlt : m < lr
      · have kc : (m : Int) < (lr : Int) := by omega
        have kcap : (m : Int) ≤ (cr : Int) := by omega
        have kcap2 : m ≤ cr := by omega
        clear c2 c3 c4 c5
        go_enter Tryd.func17, Tryd.ntmps17
        go_wp2_with (go_at_call 40; refine (KV.out _ B0.out).mono ?_; rintro e w2 ⟨rfl, hB⟩; have D2 := Lib.hid hB; have E2 := Lib.hid (B0.out.trans (hB.mono B0.out.size)); obtain ⟨x0, x1⟩ := CE.out _ hB; have HA := Lib.hid x0; have HB1 := Lib.hid x1; obtain ⟨y0, y1, y2, y3⟩ := box_all2 x0; obtain ⟨z0, z1, z2, z3⟩ := box_all2 x1; clear hB x0 x1 c0 c1)
        have HB2 : (w2.setCell ⟨w.heap.size, 1, none⟩ (.slice ar m cr)).heap[w.heap.size + 1]? = some (.cells #[.slice none 0 0, .slice none 0 0] 25) := ((grT_set w2 w.heap.size 1 (.slice ar m cr)).block _ (blk_lt HB1.out) (by intro e; injection e with e; omega)).trans HB1.out
        obtain ⟨r0, r1, _, _⟩ := box_all2 (box_set2 (u := .slice an ln cn) (v := .slice ar m cr) HB2)
        refine bodyPost_ret (v := .tuple #[.agg #[.slice an ln cn, .slice ar m cr], .int .i64 0]) (by simp [results, Tryd.results17, go_sem, r0, r1]) rfl ?_
        have BW := ((E2.out.setCell (p := ⟨w.heap.size, 1, none⟩) (Nat.le_refl _) (.slice ar m cr)).setCell (p := ⟨w.heap.size + 1, 0, none⟩) (Nat.le_succ _) (.slice an ln cn)).setCell (p := ⟨w.heap.size + 1, 1, none⟩) (Nat.le_succ _) (.slice ar m cr)
        refine ⟨⟨an, ln, cn, tss, ar, m, cr, trs.take m⟩, rfl, ?_, BW⟩
        rw [if_pos rfl, if_pos rfl, Int.toNat_natCast]
        exact tb_take (HH.out.later BW) (by omega)
      · have kc : ¬ (m : Int) < (lr : Int) := by omega
        clear c2 c3 c4 c5
        go_enter Tryd.func17, Tryd.ntmps17
        go_wp2_with (go_at_call 40; refine (KV.out _ B0.out).mono ?_; rintro e w2 ⟨rfl, hB⟩; have D2 := Lib.hid hB; have E2 := Lib.hid (B0.out.trans (hB.mono B0.out.size)); obtain ⟨x0, x1⟩ := CE.out _ hB; have HA := Lib.hid x0; have HB1 := Lib.hid x1; obtain ⟨y0, y1, y2, y3⟩ := box_all2 x0; obtain ⟨z0, z1, z2, z3⟩ := box_all2 x1; clear hB x0 x1 c0 c1)
        obtain ⟨r0, r1, _, _⟩ := box_all2 (box_set2 (u := .slice an ln cn) (v := .slice ar lr cr) HB1.out)
        refine bodyPost_ret (v := .tuple #[.agg #[.slice an ln cn, .slice ar lr cr], .int .i64 0]) (by simp [results, Tryd.results17, go_sem, r0, r1]) rfl ?_
        have BW := (E2.out.setCell (p := ⟨w.heap.size + 1, 0, none⟩) (Nat.le_succ _) (.slice an ln cn)).setCell (p := ⟨w.heap.size + 1, 1, none⟩) (Nat.le_succ _) (.slice ar lr cr)
        refine ⟨⟨an, ln, cn, tss, ar, lr, cr, trs⟩, rfl, ?_, BW⟩
        rw [if_pos rfl, if_pos rfl, Int.toNat_natCast, List.take_of_length_le (by rw [← LRL.out]; omega)]
        exact HH.out.later BW
    · have v0 : (V == 0) = false := by rw [beq_eq_false_iff_ne]; exact h0
      clear c2 c3 c4 c5
      go_enter Tryd.func17, Tryd.ntmps17
      go_wp2_with (go_at_call 40; refine (KV.out _ B0.out).mono ?_; rintro e w2 ⟨rfl, hB⟩; have E2 := Lib.hid (B0.out.trans (hB.mono B0.out.size)); have HB1 := Lib.hid (CE.out _ hB).2; obtain ⟨y0, y1, y2, y3⟩ := box_all2 HB1.out; clear hB)
      obtain ⟨r0, r1, _, _⟩ := box_all2 (box_set2 (u := .slice none 0 0) (v := .slice none 0 0) HB1.out)
      refine bodyPost_ret (v := .tuple #[.agg #[.slice none 0 0, .slice none 0 0], .int .i64 V]) (by simp [results, Tryd.results17, go_sem, r0, r1]) rfl ?_
      exact FAIL.out _ h0 ((E2.out.setCell (p := ⟨w.heap.size + 1, 0, none⟩) (Nat.le_succ _) _).setCell (p := ⟨w.heap.size + 1, 1, none⟩) (Nat.le_succ _) _)
end Go.Proofs.YtglgdfgdfkeogaaDoor

namespace Go.Proofs.YtglgdfgdfkeogaaDoor
open Go.RowKit
set_option linter.unusedVariables false
set_option linter.unusedSimpArgs false

/-- A cell's box is made behind the call, or ahead of it. -/
structure BxC (w3 W : World) (v : Value) (l : List (ByteArray × Int)) (bx : Nat) (ch : Bool) (cv : Int) : Prop where
  pr : PrS w3 W v l
  hx : W.heap[bx]? = some (.cells #[.bool ch, .int .i64 cv] 53)
theorem bxC_last {w3 wo X : World} {v : Value} {l : List (ByteArray × Int)} {ch : Bool} {cv : Int} (h : PrS w3 wo v l) (h1 : X.os = wo.os) (h2 : X.tape = wo.tape) (h3 : X.output = wo.output) (h4 : X.heap = (wo.alloc (.cells #[.bool ch, .int .i64 cv] 53)).heap) : BxC w3 X v l wo.heap.size ch cv := by
  have bX : Below wo.heap.size wo X := below_eq (below_al wo _) h1 h2 h3 h4
  exact ⟨h.below bX, by rw [h4]; exact World.alloc_heap_new wo _⟩
theorem bxC_first {w3 wo X : World} {v : Value} {l : List (ByteArray × Int)} {bx : Nat} {ch : Bool} {cv : Int} (h : PrS w3 wo v l) (hx : wo.heap[bx]? = some (.cells #[.bool false, .int .i64 0] 53)) (hb : w3.heap.size ≤ bx) (h1 : X.os = wo.os) (h2 : X.tape = wo.tape) (h3 : X.output = wo.output) (h4 : X.heap = ((wo.setCell ⟨bx, 0, none⟩ (.bool ch)).setCell ⟨bx, 1, none⟩ (.int .i64 cv)).heap) : BxC w3 X v l bx ch cv := by
  have o2 : ((wo.setCell ⟨bx, 0, none⟩ (.bool ch)).setCell ⟨bx, 1, none⟩ (.int .i64 cv)).ownsRow w3.heap.size 65 2 v l.length (prV l) := own_keep h.own (fun b e => by
    have nb : ¬ bx = b := fun q => by subst q; exact ty_apart h.own hx (by decide) e
    simp [World.setCell, Array.getElem?_modify, nb])
  have b2 := (h.bel.setCell (p := ⟨bx, 0, none⟩) hb (.bool ch)).setCell (p := ⟨bx, 1, none⟩) hb (.int .i64 cv)
  refine ⟨⟨own_keep o2 (fun b _ => by rw [h4]), below_eq b2 h1 h2 h3 h4⟩, by rw [h4]; exact box_set2 hx⟩
set_option maxRecDepth 100000 in
set_option maxHeartbeats 8000000 in
theorem rMissing_any (t : Tb) (ss : List ByteArray) (rs : List (List Cl)) (a : Option Addr) (n c : Nat) (ns : List ByteArray) (last : Int) (w : World) (h : TbIs w t ss rs) (k : NL w a n ns) (hn : n ≤ 1000000000) :
    Calls Tryd.prog 29 #[t.val, .slice a n c, .int .i64 last] w fun e w' => MsE ss rs ns last w e w' := by
  obtain ⟨V, hV⟩ : ∃ V, validE ss rs = V := ⟨_, rfl⟩
  obtain ⟨N, hN⟩ : ∃ N, ns.all nameB = N := ⟨_, rfl⟩
  obtain ⟨E, hE⟩ : ∃ E, missE ss rs ns last = E := ⟨_, rfl⟩
  unfold MsE
  rw [hE]
  obtain ⟨RR, hRR⟩ : ∃ RR, (if E = 0 then missP ss rs ns (last + 1).toNat else []) = RR := ⟨_, rfl⟩
  rw [hRR]
  have HRR := Lib.hid hRR
  have HE := Lib.hid (p := E = if last < 0 ∨ 3660 < last then 1 else if V = 0 then (if N then 0 else 52) else V) (by rw [← hE, ← hV, ← hN]; rfl)
  have KV := Lib.hid (fun (W : World) (b : Below w.heap.size w W) => rValid_any t.an t.ar t.ln t.cn t.lr t.cr t.ss t.rs W (h.nl.later b) (h.rl.later b))
  rw [h.rs, h.ns, hV] at KV
  have KC := Lib.hid (fun (W : World) (b : Below w.heap.size w W) => rCapitals_any a n c ns W (k.later b))
  rw [hN] at KC
  have GV := Lib.hid (p := V = 0 → Gd ss rs) (fun e => gd_valid (hV.trans e) (fun r hr c hc => by
    rw [← h.rs] at hr
    obtain ⟨q, hq, rfl⟩ := List.mem_map.1 hr
    exact (h.rl.2.2.1 q hq).1.2.2.1 c hc))
  have KL := Lib.hid (fun (W : World) (b : Below w.heap.size w W) (s : ByteArray) (d : Nat) (hd : d ≤ 5864062014640) => rCell_any t.an t.ar t.ln t.cn t.lr t.cr d s t.ss t.rs W (h.nl.later b) (h.rl.later b) hd)
  rw [h.rs, h.ns] at KL
  obtain ⟨an, ln, cn, tss, ar, lr, cr, trs⟩ := t
  simp only at KV KL
  have NSL := Lib.hid (p := ns.length = n) k.1
  have NC := Lib.hid (p := ∀ i, i < n → ∃ x o, a = some ⟨x, o, none⟩ ∧ x < w.heap.size ∧ w.cell? ⟨x, o + i, none⟩ = some (.string (ns.getD i default))) (fun i hi => by
    rcases k.2.2.2 with z | ⟨x, o, z1, z2, z3⟩
    · omega
    · exact ⟨x, o, z1, z2, z3 i hi⟩)
  have B0 := Lib.hid (below_al w (.cells #[.slice an ln cn, .slice ar lr cr] 25))
  have HB0 := Lib.hid (World.alloc_heap_new w (.cells #[.slice an ln cn, .slice ar lr cr] 25))
  obtain ⟨w1, hw1⟩ : ∃ w1, w.alloc (.cells #[.slice an ln cn, .slice ar lr cr] 25) = w1 := ⟨_, rfl⟩
  rw [hw1] at B0 HB0
  obtain ⟨c0, c1, _, _⟩ := box_all2 HB0.out
  have CE := Lib.hid (p := ∀ W, Below w1.heap.size w1 W → W.cell? ⟨w.heap.size, 0, none⟩ = some (.slice an ln cn) ∧ W.cell? ⟨w.heap.size, 1, none⟩ = some (.slice ar lr cr)) (fun W b => by
    obtain ⟨q0, q1, _, _⟩ := box_all2 ((b.block _ (blk_lt HB0.out)).trans HB0.out)
    exact ⟨q0, q1⟩)
  have Q := Lib.hid (p := ∀ w', E ≠ 0 → Below w.heap.size w w' → ∃ v, Ending.returned (.tuple #[.slice none 0 0, .int .i64 E]) = .returned (.tuple #[v, .int .i64 E]) ∧ w'.ownsRow w.heap.size 65 2 v RR.length (prV RR) ∧ Below w.heap.size w w') (fun w' q b => ⟨.slice none 0 0, rfl, by rw [← HRR.out, if_neg q]; exact World.ownsRow_nil _ _ _ _, b⟩)
  clear h k hE hV hN hRR
  show Calls Tryd.prog 29 #[.agg #[.slice an ln cn, .slice ar lr cr], .slice a n c, .int .i64 last] w _
  by_cases hlo : last < 0
  · have e1 : E = 1 := by rw [HE.out, if_pos (.inl hlo)]
    subst e1
    go_enter Tryd.func29, Tryd.ntmps29
    go_wp2
    go_ret2
    exact Q.out _ (by decide) B0.out
  · by_cases hhi : 3660 < last
    · have e1 : E = 1 := by rw [HE.out, if_pos (.inr hhi)]
      subst e1
      go_enter Tryd.func29, Tryd.ntmps29
      go_wp2
      go_ret2
      exact Q.out _ (by decide) B0.out
    · by_cases h0 : V = 0
      · subst h0
        cases N with
        | false =>
          have e5 : E = 52 := by rw [HE.out, if_neg (by omega)]; rfl
          subst e5
          go_enter Tryd.func29, Tryd.ntmps29
          go_wp2_with (first
            | (go_at_call 40; refine (KV.out _ B0.out).mono ?_; rintro e w2 ⟨rfl, hB⟩; have E2 := Lib.hid (B0.out.trans (hB.mono B0.out.size)); clear hB)
            | (go_at_call 41; refine (KC.out _ E2.out).mono ?_; rintro e w3 ⟨rfl, rfl⟩))
          go_ret2
          exact Q.out _ (by decide) E2.out
        | true =>
          have e5 : E = 0 := by rw [HE.out, if_neg (by omega)]; rfl
          subst e5
          have g := Lib.hid (GV.out (by trivial))
          obtain ⟨l, rfl⟩ : ∃ l : Nat, last = (l : Int) := ⟨last.toNat, by omega⟩
          have hl : l ≤ 3660 := by omega
          have RRE := Lib.hid (p := RR = missP ss rs ns (l + 1)) (by rw [← HRR.out]; simp)
          clear Q HE GV HRR hlo hhi
          go_enter Tryd.func29, Tryd.ntmps29
          go_wp2_with (first
            | (go_at_call 40; refine (KV.out _ B0.out).mono ?_; rintro e w2 ⟨rfl, hB⟩; have E2 := Lib.hid (B0.out.trans (hB.mono B0.out.size)); have D2 := Lib.hid hB; clear hB)
            | (go_at_call 41; refine (KC.out _ E2.out).mono ?_; rintro e w3 ⟨rfl, rfl⟩))
          rename World => w2
          clear c0 c1
          go_loopw [10, 11] (fun v t ws => ∃ d : Nat, d ≤ l + 1 ∧ t = .int .i64 (d : Int) ∧ PrS w2 ws v (missP ss rs ns d)) (fun _ t _ => l + 1 - (intOf t).toNat)
          case atStart => exact ⟨0, Nat.zero_le _, rfl, World.ownsRow_nil _ _ _ _, Below.refl _ _⟩
          case round =>
            rename World => wt
            obtain ⟨d, hd, rfl, hP⟩ := hrel
            have PP := Lib.hid hP
            have ET := Lib.hid (E2.out.trans (hP.bel.mono E2.out.size))
            clear hP
            by_cases hdl : d ≤ l
            · have dc : (d : Int) ≤ (l : Int) := by omega
              have kw : IntKind.i64.wrap ((d : Int) + 1) = (d : Int) + 1 := by simp [IntKind.wrap, IntKind.bits, IntKind.signed]; omega
              have LEN := Lib.hid (p := (missP ss rs ns d).length ≤ 3660 * n) (Nat.le_trans (missP_le ss rs ns d) (by rw [NSL.out]; exact Nat.mul_le_mul_right _ (by omega)))
              have P6 := Lib.hid (p := ∀ v, PrS w2 wt v (missP ss rs ns d) → PrS w2 wt v (missP ss rs ns d ++ missD ss rs (ns.take 0) d)) (fun v q => by rw [show missD ss rs (ns.take 0) d = [] from rfl, List.append_nil]; exact q)
              go_wp2
              go_loopw [10, 12] (fun v t ws => ∃ i : Nat, i ≤ n ∧ t = .int .i64 (i : Int) ∧ PrS w2 ws v (missP ss rs ns d ++ missD ss rs (ns.take i) d)) (fun _ t _ => n - (intOf t).toNat)
              case atStart => exact ⟨0, Nat.zero_le _, rfl, P6.out _ PP.out⟩
              case round =>
                rename World => wu
                obtain ⟨i, hi, rfl, hP⟩ := hrel
                obtain ⟨va, vc, hv⟩ := own_form2 hP.own
                subst hv
                have PU := Lib.hid hP
                have EU := Lib.hid (E2.out.trans (hP.bel.mono E2.out.size))
                have FU := Lib.hid (D2.out.trans (hP.bel.mono D2.out.size))
                clear hP
                by_cases hil : i < n
                · obtain ⟨x, o, rfl, hx, hcx⟩ := NC.out i hil
                  have kc : (i : Int) < (n : Int) := by omega
                  have kwi : IntKind.i64.wrap ((i : Int) + 1) = (i : Int) + 1 := by simp [IntKind.wrap, IntKind.bits, IntKind.signed]; omega
                  have NXT := Lib.hid (missD_next (ss := ss) (rs := rs) (d := d) (show i < ns.length by rw [NSL.out]; exact hil))
                  have LN2 := Lib.hid (p := (missP ss rs ns d ++ missD ss rs (ns.take i) d).length ≤ 3661 * n) (by
                    rw [List.length_append]
                    have := missD_le ss rs (ns.take i) d
                    have := LEN.out
                    rw [List.length_take] at *
                    have := NSL.out
                    omega)
                  have KX := Lib.hid (fun (W : World) (b : Below w.heap.size w W) => KL.out W b (ns.getD i default) d (by omega))
                  rw [cell_raw g.out] at KX
                  have ST := Lib.hid (p := ∀ W, Below w1.heap.size w1 W → W.cell? ⟨w.heap.size, 0, none⟩ = some (.slice an ln cn) ∧ W.cell? ⟨w.heap.size, 1, none⟩ = some (.slice ar lr cr) ∧ W.cell? ⟨x, o + i, none⟩ = some (.string (ns.getD i default))) (fun W b => ⟨(CE.out W b).1, (CE.out W b).2, ((B0.out.trans (b.mono B0.out.size)).cell (p := ⟨x, o + i, none⟩) hx).trans hcx⟩)
                  obtain ⟨ml, hml⟩ : ∃ ml, missP ss rs ns d ++ missD ss rs (ns.take i) d = ml := ⟨_, rfl⟩
                  rw [hml] at PU LN2
                  have NX2 := Lib.hid (p := missP ss rs ns d ++ missD ss rs (ns.take (i + 1)) d = ml ++ (if (rawT ss rs (ns.getD i default) d).h then [] else [(ns.getD i default, (d : Int))])) (by rw [NXT.out, ← hml, List.append_assoc])
                  rw [hml]
                  clear hml NXT
                  generalize rawT ss rs (ns.getD i default) d = cc at *
                  generalize ns.getD i default = nm at *
                  obtain ⟨ch, cv⟩ := cc
                  obtain ⟨s0, s1, s2⟩ := ST.out _ FU.out
                  have WL := Lib.hid (p := w1.heap.size ≤ w2.heap.size ∧ w2.heap.size ≤ wu.heap.size) ⟨D2.out.size, PU.out.bel.size⟩
                  go_upto_region 16 with (fail)
                  go_cut [13] (fun v wx => ∃ bx, v = .pointer (some ⟨bx, 0, none⟩) ∧ RowKit.Hid (BxC w2 wx (.slice va ml.length vc) ml bx ch cv))
                  case first =>
                    have ed := Lib.hid EU.out.drew
                    have PD := Lib.hid (PU.out.below (Below.refl _ _).drew)
                    have FD := Lib.hid FU.out.drew
                    go_region_held3 (fun w' => w'.cell? ⟨w.heap.size, 0, none⟩ = some (.slice an ln cn) ∧ w'.cell? ⟨w.heap.size, 1, none⟩ = some (.slice ar lr cr) ∧ w'.cell? ⟨x, o + i, none⟩ = some (.string nm)) (first | exact ST.out _ FU.out | exact ST.out _ FD.out | exact ST.out _ (FD.out.alloc FD.out.size _) | exact ST.out _ F9.out | exact ST.out _ (F9.out.alloc F9.out.size _) | exact ST.out _ (below_eq (F9.out.alloc F9.out.size _) rfl rfl rfl rfl) | exact ST.out _ (below_eq ((F9.out.setCell (p := ⟨_, 0, none⟩) XB.out _).setCell (p := ⟨_, 1, none⟩) XB.out _) rfl rfl rfl rfl)) (first
                      | (go_at_call 42; refine (KX.out _ ed.out).mono ?_; rintro e w9 ⟨rfl, hB⟩; have F9 := Lib.hid (FD.out.trans (hB.mono FD.out.size)); have P9 := Lib.hid (PD.out.below hB); clear hB)
                      | (go_at_call 42; refine (KX.out _ (ed.out.alloc ed.out.size _)).mono ?_; rintro e w9 ⟨rfl, hB⟩; have F9 := Lib.hid ((FD.out.alloc FD.out.size _).trans (hB.mono (FD.out.alloc FD.out.size _).size)); have P9 := Lib.hid ((PD.out.below (below_al _ _)).below hB); have HX := Lib.hid ((hB.block _ (by simp)).trans (World.alloc_heap_new _ _)); have XB := Lib.hid (p := w1.heap.size ≤ wu.heap.size) FU.out.size; obtain ⟨i0, i1, i2, i3⟩ := box_all2 HX.out; (try (change w9.cell? ⟨wu.heap.size, 0, none⟩ = _ at i0; change w9.cell? ⟨wu.heap.size, 1, none⟩ = _ at i1; change w9.frozen? ⟨wu.heap.size, 0, none⟩ = _ at i2; change w9.frozen? ⟨wu.heap.size, 1, none⟩ = _ at i3)); clear hB))
                    all_goals
                      go_wp2
                      go_meet
                      case rel => first
                        | exact ⟨_, rfl, bxC_last P9.out rfl rfl rfl rfl⟩
                        | exact ⟨_, rfl, bxC_first P9.out HX.out WL.out.2 rfl rfl rfl rfl⟩
                  case rest =>
                    obtain ⟨bx, rfl, hX⟩ := hcut
                    rename World => wx
                    have BX := Lib.hid hX.out
                    obtain ⟨y0, y1, _, _⟩ := box_all2 BX.out.hx
                    have EX := Lib.hid (E2.out.trans (BX.out.pr.bel.mono E2.out.size))
                    have cnx := (EX.out.cell (p := ⟨x, o + i, none⟩) hx).trans ((ST.out _ (Below.refl _ _)).2.2 ▸ (B0.out.cell (p := ⟨x, o + i, none⟩) hx).symm ▸ rfl : w.cell? ⟨x, o + i, none⟩ = some (.string nm))
                    clear hX
                    cases ch with
                    | true =>
                      go_wp2
                      go_roundw
                      case rel => exact ⟨i + 1, by omega, by go_num, by rw [NX2.out]; simpa using BX.out.pr⟩
                      case measure => simp [intOf]; omega
                    | false =>
                      have PA := Lib.hid (BX.out.pr.below (below_al wx (.cells #[.string nm, .int .i64 (d : Int)] 65)))
                      go_wp2_with (first
                        | (at_builtin; refine wp_appG Tryd.underlying59 infoP rfl (by decide) _ w2.heap.size PA.out.bel.size (some ⟨wx.heap.size, 0, none⟩) 1 1 [.string nm, .int .i64 (d : Int)] rfl (two_news wx (.string nm) (.int .i64 (d : Int)) 65) (fun e => by cases e) (by simp [Value.oneCell']) rfl _ _ rfl _ _ _ rfl PA.out.own rfl (by have := LN2.out; unfold maxLen; omega) (by have := LN2.out; omega) ?_; intro v2 w5 O2 G2; have M3 := Lib.hid (PA.out.push O2 G2); clear O2 G2))
                      go_roundw
                      case rel => exact ⟨i + 1, by omega, by go_num, by rw [NX2.out]; simpa using M3.out⟩
                      case measure => simp [intOf]; omega
                · have ei : n = i := by omega
                  subst ei
                  have kc : ¬ (n : Int) < (n : Int) := by omega
                  have FIN := Lib.hid (p := missP ss rs ns d ++ missD ss rs (ns.take n) d = missP ss rs ns (d + 1)) (by rw [missP_succ, List.take_of_length_le (by rw [NSL.out]; omega)])
                  rw [FIN.out] at PU
                  go_wp2
                  go_roundw
                  case rel => exact ⟨d + 1, by omega, by go_num, by have := PU.out; simpa [FIN.out] using this⟩
                  case measure => simp [intOf]; omega
            · have ed : d = l + 1 := by omega
              subst ed
              have kd : ¬ ((l + 1 : Nat) : Int) ≤ (l : Int) := by omega
              rw [← RRE.out] at PP
              go_wp2
              go_ret2
              exact ⟨_, rfl, own_mono PP.out.own E2.out.size, ET.out⟩
      · have v0 : (V == 0) = false := by rw [beq_eq_false_iff_ne]; exact h0
        have e5 : E = V := by rw [HE.out, if_neg (by omega), if_neg h0]
        subst e5
        go_enter Tryd.func29, Tryd.ntmps29
        go_wp2_with (first
          | (go_at_call 40; refine (KV.out _ B0.out).mono ?_; rintro e w2 ⟨rfl, hB⟩; have E2 := Lib.hid (B0.out.trans (hB.mono B0.out.size)); clear hB))
        go_ret2
        exact Q.out _ h0 E2.out
end Go.Proofs.YtglgdfgdfkeogaaDoor
