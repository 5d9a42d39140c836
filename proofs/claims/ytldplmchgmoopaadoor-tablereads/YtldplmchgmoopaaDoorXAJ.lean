import Derived.Test.YtldplmchgmoopaaDoorXAH
import Derived.Deep.RegionLaw
namespace Go.Proofs.YtldplmchgmoopaaDoor
open Go.RowKit Go.Shelf Go.Maps
set_option linter.unusedVariables false
set_option linter.unusedSimpArgs false

/-- A row in memory of its own that fills its block. -/
def qv (q : Rw) : Value := .slice q.a q.n q.cap
def qOk (W : World) (B : Nat) (q : Rw) : Prop := ∃ z, q.a = some ⟨z, 0, none⟩ ∧ B ≤ z ∧ q.n = q.cs.length ∧ q.cap = q.cs.length ∧ W.heap[z]? = some (.cells (clv q.cs).toArray 65)
structure RwO (W : World) (B : Nat) (rw : Value) (qs : List Rw) : Prop where
  own : W.ownsRow B 50 1 rw qs.length (qs.map qv)
  ok : ∀ q ∈ qs, qOk W B q
  nd : qs.Pairwise fun p q => p.a ≠ q.a
theorem qOk.stay {W W' : World} {B : Nat} {q : Rw} (h : qOk W B q) (k : ∀ (z : Nat) (cs : Array Value), W.heap[z]? = some (.cells cs 65) → W'.heap[z]? = W.heap[z]?) : qOk W' B q := by
  obtain ⟨z, h1, h2, h3, h4, h5⟩ := h
  exact ⟨z, h1, h2, h3, h4, (k z _ h5).trans h5⟩
theorem blk_lt {W : World} {z : Nat} {o : Obj} (h : W.heap[z]? = some o) : z < W.heap.size := (Array.getElem?_eq_some_iff.1 h).1
theorem blk_ty {W : World} {z q : Nat} {cs ds : Array Value} {t u : TypeId} {f g : Nat × Nat} (h : W.heap[z]? = some (.cells cs t f)) (k : W.heap[q]? = some (.cells ds u g)) (ht : t ≠ u) : z ≠ q := by
  intro e
  subst e
  rw [h] at k
  injection k with k
  injection k with _ k _
  exact ht k
theorem RwO.turn {W W' : World} {B : Nat} {rw : Value} {qs : List Rw} {q : Nat} {ds : Array Value} {t : TypeId} {f : Nat × Nat} (h : RwO W B rw qs) (hq : W.heap[q]? = some (.cells ds t f)) (h1 : t ≠ 50) (h2 : 65 ≠ t) (k : W.grownBy W' (some q)) : RwO W' B rw qs :=
  ⟨h.own.kept k (.inr (ty_apart h.own hq h1)), fun r hr => (h.ok r hr).stay (fun z cs hz => k.block z (blk_lt hz) (by have := blk_ty hz hq h2; simpa using this)), h.nd⟩
theorem RwO.below {W W' : World} {B : Nat} {rw : Value} {qs : List Rw} (h : RwO W B rw qs) (b : Below W.heap.size W W') : RwO W' B rw qs :=
  ⟨own_back h.own b, fun r hr => (h.ok r hr).stay (fun z cs hz => b.block z (blk_lt hz)), h.nd⟩
/-- A row of its own behind others. -/
theorem nd_snoc {W : World} {B z : Nat} {qs : List Rw} {q : Rw} (h : ∀ p ∈ qs, qOk W B p) (nd : qs.Pairwise fun p q => p.a ≠ q.a) (hq : q.a = some ⟨z, 0, none⟩) (hz : W.heap.size ≤ z) : (qs ++ [q]).Pairwise fun p q => p.a ≠ q.a := by
  refine List.pairwise_append.2 ⟨nd, List.pairwise_singleton _ _, fun p hp r hr e => ?_⟩
  rw [List.mem_singleton.1 hr, hq] at e
  obtain ⟨y, e1, _, _, _, hy⟩ := h p hp
  rw [e1] at e
  injection e with e
  injection e with e
  have := blk_lt hy
  omega
/-- The reader behind its head. -/
structure RdS (w0 W : World) (B g mb : Nat) (s : ByteArray) (i p : Nat) (ns : List ByteArray) (qs : List Rw) (nm rw : Value) (D : DataW Unit) : Prop where
  hd : HdS w0 W B g mb s i p ns nm rw D
  ro : RwO W B rw qs
theorem RdS.word {w0 W W' : World} {B g mb : Nat} {s : ByteArray} {i p i' p' : Nat} {ns : List ByteArray} {qs : List Rw} {nm rw : Value} {D : DataW Unit} (h : RdS w0 W B g mb s i p ns qs nm rw D) (hne : mb ≠ g) (hg : B ≤ g) (t : TR W' g s i' p' (.map (some mb)) nm rw) (k : Gr g W W') : RdS w0 W' B g mb s i' p' ns qs nm rw D :=
  ⟨h.hd.word hne hg t k, h.ro.turn h.hd.tr.hb (by decide) (by decide) k⟩
theorem RdS.below {w0 W W' : World} {B g mb : Nat} {s : ByteArray} {i p : Nat} {ns : List ByteArray} {qs : List Rw} {nm rw : Value} {D : DataW Unit} (h : RdS w0 W B g mb s i p ns qs nm rw D) (hg : B ≤ g) (b : Below W.heap.size W W') : RdS w0 W' B g mb s i p ns qs nm rw D :=
  ⟨h.hd.below hg b, h.ro.below b⟩
/-- A block that is neither the reader's nor the names' nor a row's turns. -/
theorem RdS.turn {w0 W W' : World} {B g mb : Nat} {s : ByteArray} {i p : Nat} {ns : List ByteArray} {qs : List Rw} {nm rw : Value} {D : DataW Unit} {y : Nat} {ds : Array Value} {t : TypeId} {f : Nat × Nat} (h : RdS w0 W B g mb s i p ns qs nm rw D) (hB : B ≤ y) (hg : B ≤ g) (hy : W.heap[y]? = some (.cells ds t f)) (h1 : t ≠ 50) (h2 : 65 ≠ t) (h3 : t ≠ 9) (h4 : 55 ≠ t) (k : W.grownBy W' (some y)) : RdS w0 W' B g mb s i p ns qs nm rw D := by
  refine ⟨⟨h.hd.tr.grown k (by have := blk_ty h.hd.tr.hb hy h4; simpa using this), h.hd.mo.kept k ?_, h.hd.si, h.hd.no.kept k (.inr (ty_apart h.hd.no hy h3)), h.hd.bel.grown k (Nat.le_trans hg (Nat.le_of_lt h.hd.tr.lt)) (fun z e => by injection e with e; omega)⟩, h.ro.turn hy h1 h2 k⟩
  obtain ⟨es, ck, hh, _⟩ := h.hd.mo
  intro e
  injection e with e
  subst e
  rw [hh] at hy
  cases hy
/-- The row's cells while they are read: an array of 64. -/
structure ABk (W : World) (y : Nat) (cs : List Cl) : Prop where
  hb : W.heap[y]? = some (.cells (clv (cs ++ List.replicate (64 - cs.length) zCl)).toArray 78)
  le : cs.length ≤ 64
theorem ABk.stay {W W' : World} {y : Nat} {cs : List Cl} (h : ABk W y cs) (k : W'.heap[y]? = W.heap[y]?) : ABk W' y cs := ⟨k.trans h.hb, h.le⟩
theorem ABk.below {W W' : World} {y : Nat} {cs : List Cl} (h : ABk W y cs) (k : Below W.heap.size W W') : ABk W' y cs := h.stay (k.block y (blk_lt h.hb))
theorem ABk.at {W : World} {y : Nat} {cs : List Cl} (h : ABk W y cs) (i : Nat) (hi : i < 64) : CC W y (i * 2) ((cs ++ List.replicate (64 - cs.length) zCl).getD i default) := by
  have hl : i < (cs ++ List.replicate (64 - cs.length) zCl).length := by have := h.le; simp; omega
  refine ⟨?_, ?_⟩
  · have := clv_at _ i hl 0 (by omega)
    rw [Joins.cell_of_block h.hb]
    simpa [Cl.two] using this
  · have := clv_at _ i hl 1 (by omega)
    rw [Joins.cell_of_block h.hb]
    simpa [Cl.two] using this
theorem ABk.cc {W : World} {y : Nat} {cs : List Cl} (h : ABk W y cs) (i : Nat) (hi : i < cs.length) : CC W y (i * 2) (cs.getD i default) := by
  have := h.at i (Nat.lt_of_lt_of_le hi h.le)
  rwa [show (cs ++ List.replicate (64 - cs.length) zCl).getD i default = cs.getD i default by simp only [List.getD]; rw [List.getElem?_append_left hi]] at this
theorem ABk.room {W : World} {y : Nat} {cs : List Cl} (h : ABk W y cs) (hi : cs.length < 64) : CC W y (cs.length * 2) zCl := by
  have := h.at cs.length hi
  rwa [show (cs ++ List.replicate (64 - cs.length) zCl).getD cs.length default = zCl by
    simp only [List.getD]
    rw [List.getElem?_append_right (Nat.le_refl _), Nat.sub_self, List.getElem?_replicate, if_pos (by omega)]
    rfl] at this
theorem ABk.push {W : World} {y : Nat} {cs : List Cl} (h : ABk W y cs) (hi : cs.length < 64) (c : Cl) : ABk ((W.setCell ⟨y, cs.length * 2, none⟩ (.bool c.h)).setCell ⟨y, cs.length * 2 + 1, none⟩ (.int .i64 c.v)) y (cs ++ [c]) := by
  have e := Joins.block_setCell (i := cs.length * 2 + 1) (Joins.block_setCell (i := cs.length * 2) h.hb (.bool c.h)) (.int .i64 c.v)
  refine ⟨e.trans ?_, by simp; omega⟩
  congr 2
  rw [List.setIfInBounds_toArray, List.setIfInBounds_toArray]
  refine congrArg List.toArray ?_
  rw [clv_set _ _ c (by simp; omega)]
  refine congrArg clv ?_
  rw [List.set_append_right _ _ (Nat.le_refl _), Nat.sub_self]
  rw [show 64 - cs.length = (64 - (cs ++ [c]).length) + 1 by simp; omega, List.replicate_succ]
  simp
theorem ABk.rc {W : World} {y : Nat} {cs : List Cl} (h : ABk W y cs) (hw : ∀ c ∈ cs, (Lit.int .i64 c.v).wf = true) : RC W (some ⟨y, 0, none⟩) cs.length cs :=
  ⟨rfl, by have := h.le; omega, hw, .inr ⟨y, 0, rfl, blk_lt h.hb, fun i hi => by rw [Nat.zero_add]; exact h.cc i hi⟩⟩
theorem zero64 : Tryd.zeroCells78 = (clv (([] : List Cl) ++ List.replicate (64 - ([] : List Cl).length) zCl)).toArray := by kernel_rfl
theorem abk_new (w : World) : ABk (w.alloc (.cells Tryd.zeroCells78 78)) w.heap.size [] := ⟨by rw [World.alloc_heap_new, zero64], by simp⟩
/-- A row is appended. -/
theorem RdS.app {w0 W w5 : World} {B g mb : Nat} {s : ByteArray} {i p : Nat} {ns : List ByteArray} {qs : List Rw} {nm rw : Value} {D : DataW Unit} {r : List Cl} {n y cy : Nat} (h : RdS w0 W B g mb s i p ns qs nm rw D) (hg : B ≤ g) (hn : r.length = n)
    (o5 : w5.ownsRow B 50 1 (.slice (some ⟨y, 0, none⟩) (qs.length + 1) cy) (qs.length + 1) (qs.map qv ++ [.slice (some ⟨W.heap.size, 0, none⟩) n n]))
    (g5 : ((W.alloc (.cells (clv r).toArray 65)).alloc (.cells #[.slice (some ⟨W.heap.size, 0, none⟩) n n] 50)).grownBy w5 rw.ownBlock) :
    RdS w0 (w5.setCell ⟨g, 5, none⟩ (.slice (some ⟨y, 0, none⟩) (qs.length + 1) cy)) B g mb s i p ns (qs ++ [⟨some ⟨W.heap.size, 0, none⟩, n, n, r⟩]) nm (.slice (some ⟨y, 0, none⟩) (qs.length + 1) cy) D := by
  have b2 : Below W.heap.size W ((W.alloc (.cells (clv r).toArray 65)).alloc (.cells #[.slice (some ⟨W.heap.size, 0, none⟩) n n] 50)) := ((Below.refl _ W).alloc (Nat.le_refl _) _).alloc (by simp) _
  have h2 := h.below hg b2
  have hz2 : ((W.alloc (.cells (clv r).toArray 65)).alloc (.cells #[.slice (some ⟨W.heap.size, 0, none⟩) n n] 50)).heap[W.heap.size]? = some (.cells (clv r).toArray 65) := (Below.heap_alloc _ _ _ (by simp)).trans (World.alloc_heap_new W _)
  generalize ((W.alloc (.cells (clv r).toArray 65)).alloc (.cells #[.slice (some ⟨W.heap.size, 0, none⟩) n n] 50)) = V at *
  have ng : rw.ownBlock ≠ some g := ty_apart h2.ro.own h2.hd.tr.hb (by decide)
  have t5 : TR w5 g s i p (.map (some mb)) nm rw := h2.hd.tr.grown g5 (Ne.symm ng)
  have m5 : MapOwn w5 mb ns.length D := h2.hd.mo.kept g5 (Ne.symm (map_apart h2.ro.own h2.hd.mo))
  have hgV : B ≤ V.heap.size := Nat.le_trans hg (Nat.le_of_lt h2.hd.tr.lt)
  have b5 : Below B w0 w5 := h2.hd.bel.grown g5 hgV (fun k e => (h2.ro.own.lt k e).1)
  have stC : ∀ (z : Nat) (cs : Array Value), V.heap[z]? = some (.cells cs 65) → w5.heap[z]? = V.heap[z]? := fun z cs hz => g5.block z (blk_lt hz) (fun e => ty_apart h2.ro.own hz (by decide) e.symm)
  have n5 : w5.ownsRow B 9 1 nm ns.length (ns.map Value.string) := by
    refine h2.hd.no.kept g5 ?_
    rcases h2.hd.no.2 with ⟨rfl, _⟩ | ⟨k, c, cur, rfl, _, hk, _⟩
    · exact .inl rfl
    · exact .inr (fun e => ty_apart h2.ro.own hk (by decide) e.symm)
  have sg := grT_set w5 g 5 (.slice (some ⟨y, 0, none⟩) (qs.length + 1) cy)
  have hl : (qs ++ [(⟨some ⟨W.heap.size, 0, none⟩, n, n, r⟩ : Rw)]).length = qs.length + 1 := by simp
  refine ⟨⟨t5.setRw _, m5.kept sg ?_, h.hd.si, n5.kept sg (.inr (ty_apart n5 t5.hb (by decide))), b5.setCell (p := ⟨g, 5, none⟩) hg _⟩, ⟨?_, ?_, nd_snoc h.ro.ok h.ro.nd rfl (Nat.le_refl _)⟩⟩
  · obtain ⟨es, ck, hh, _⟩ := m5
    have := t5.hb
    intro e
    injection e with e
    subst e
    rw [hh] at this
    cases this
  · rw [hl, List.map_append]
    exact o5.kept sg (.inr (ty_apart o5 t5.hb (by decide)))
  · intro q hq
    have st2 : ∀ (z : Nat) (cs : Array Value), w5.heap[z]? = some (.cells cs 65) → (w5.setCell ⟨g, 5, none⟩ (.slice (some ⟨y, 0, none⟩) (qs.length + 1) cy)).heap[z]? = w5.heap[z]? := fun z cs hz => sg.block z (blk_lt hz) (by have := blk_ty hz t5.hb (by decide); simpa using this)
    rcases List.mem_append.1 hq with hq | hq
    · exact ((h2.ro.ok q hq).stay stC).stay st2
    · rw [List.mem_singleton.1 hq]
      refine qOk.stay (W := w5) ⟨W.heap.size, rfl, Nat.le_trans hg (Nat.le_of_lt h.hd.tr.lt), hn.symm, hn.symm, ?_⟩ st2
      exact (stC _ _ hz2).trans hz2
/-- How many rows there are. -/
def rowsN (g : Nat) (w : World) : Nat := match w.cell? ⟨g, 5, none⟩ with | some (.slice _ n _) => n | _ => 0
end Go.Proofs.YtldplmchgmoopaaDoor

namespace Go.Proofs.YtldplmchgmoopaaDoor
open Go.RowKit Go.Shelf Go.Maps
set_option linter.unusedVariables false
set_option linter.unusedSimpArgs false

theorem slice64 (y k : Nat) (hk : k ≤ 64) (W : World) : (Instr.sliceAt 78 (.pointer (some ⟨y, 0, none⟩)) none (some (.int .i64 (k : Int))) none).run Tryd.prog W = .ok (.slice (some ⟨y, 0, none⟩) k 64) W := by
  have e : Tryd.prog.arrayLen 78 = 64 := by kernel_rfl
  have e2 : Tryd.prog.elem 78 = 65 := by kernel_rfl
  obtain ⟨i0, hi, hz0, hz1, hz2⟩ := info_parts infoC
  rw [run_sliceAt_array_h W 78 ⟨y, 0, none⟩ (by kernel_rfl) .i64 (k : Int) (by omega) (by rw [e]; omega), e, e2]
  simp [sizeOf, typeInfo, hi, hz1, slicedAt, Result.andThen, Addr.add]
/-- What row comes to: the place, where it ends, the error, the rows. -/
def rowR (s : ByteArray) (ns : List ByteArray) (rs : List (List Cl)) (u : ByteArray) (i p : Nat) : Nat × Nat × Int × List (List Cl) :=
  match dayP u with
  | none => (p, i, 51, rs)
  | some d =>
    if d < rs.length then (p, i, 51, rs) else if 4096 ≤ d then (p, i, 6, rs) else
    ((cellsP s ns.length i []).1, (cellsP s ns.length i []).2.1, (cellsP s ns.length i []).2.2.1,
      if (cellsP s ns.length i []).2.2.1 = 0 then rs ++ padR (d - rs.length) ns.length ++ [(cellsP s ns.length i []).2.2.2] else rs)
/-- What lies behind row. -/
def RowQ (w0 W : World) (B g mb : Nat) (s : ByteArray) (ns : List ByteArray) (qs : List Rw) (nm : Value) (D : DataW Unit) (d : Nat) (C : Nat × Nat × Int × List Cl) : Prop :=
  ∃ qs' rw', RdS w0 W B g mb s C.2.1 C.1 ns qs' nm rw' D ∧ qs'.map (·.cs) = if C.2.2.1 = 0 then qs.map (·.cs) ++ padR (d - qs.length) ns.length ++ [C.2.2.2] else qs.map (·.cs)
theorem RdS.drew {w0 W : World} {B g mb : Nat} {s : ByteArray} {i p : Nat} {ns : List ByteArray} {qs : List Rw} {nm rw : Value} {D : DataW Unit} (h : RdS w0 W B g mb s i p ns qs nm rw D) (hg : B ≤ g) : RdS w0 W.drew B g mb s i p ns qs nm rw D := h.below hg (Below.refl _ W).drew
theorem rc_nil (w : World) : RC w none 0 [] := ⟨rfl, by omega, (fun c hc => by cases hc), .inl rfl⟩
theorem rowsN_tr {w : World} {g : Nat} {s : ByteArray} {i p n c : Nat} {m nm : Value} {a : Option Addr} (h : TR w g s i p m nm (.slice a n c)) : rowsN g w = n := by unfold rowsN; rw [h.c.2.2.2.2.2]
theorem neE {y g : Nat} (h : y ≠ g) : some y ≠ some g := by simpa using h
set_option maxRecDepth 100000 in
set_option maxHeartbeats 8000000 in
theorem row_main (g mb B : Nat) (s : ByteArray) (i p : Nat) (ns : List ByteArray) (qs : List Rw) (nm rw : Value) (D : DataW Unit) (w0 w : World) (u : ByteArray) (d : Nat) (h : RdS w0 w B g mb s i p ns qs nm rw D) (hne : mb ≠ g) (hg : B ≤ g) (hm : B ≤ mb) (n64 : ns.length ≤ 64)
    (PE : ∀ W, Below B w0 W → Pows W ∧ Ev W) (hd : dayP u = some d) (u1 : 1 ≤ u.size) (u2 : u.size ≤ 1048576) (d1 : ¬ d < qs.length) (d2 : ¬ 4096 ≤ d) (C : Nat × Nat × Int × List Cl) (hC : cellsP s ns.length i [] = C) :
    Calls Tryd.prog 17 #[.pointer (some ⟨g, 0, none⟩), .string u] w fun e w' => e = .returned (.int .i64 C.2.2.1) ∧ RowQ w0 w' B g mb s ns qs nm D d C := by
  have KD := Lib.hid (fun W => dayOf_any u u1 u2 W)
  rw [hd] at KD
  have KW := Lib.hid (fun i p m nm rw W (t : TR W g s i p m nm rw) => word_all g s i p m nm rw W t)
  have sz := h.hd.tr.sz
  have le := h.hd.tr.le
  have PP := Lib.hid PE
  obtain ⟨an, cn, rfl⟩ := rowL_form h.hd.no
  obtain ⟨ar, cr, rfl⟩ := rowL_form h.ro.own
  obtain ⟨n, hn⟩ : ∃ n, ns.length = n := ⟨_, rfl⟩
  obtain ⟨k0, hk0⟩ : ∃ k0, qs.length = k0 := ⟨_, rfl⟩
  have HN := Lib.hid hn
  have HK := Lib.hid hk0
  have CC0 := Lib.hid hC
  rw [hn] at n64 CC0
  rw [hk0] at d1
  obtain ⟨h0, h1, h2, h3, h4, h5⟩ := h.hd.tr.c
  rw [hn] at h4
  rw [hk0] at h5
  have H0 := Lib.hid h
  have L0 := Lib.hid h.hd.tr.lt
  have yg : w.heap.size ≠ g := by have := h.hd.tr.lt; omega
  have yB : B ≤ w.heap.size := Nat.le_trans hg (Nat.le_of_lt h.hd.tr.lt)
  have A0 := Lib.hid (abk_new w)
  have H1 := Lib.hid (h.below hg (below_al w (.cells Tryd.zeroCells78 78)))
  obtain ⟨a0, a1, a2, a3, a4, a5⟩ := H1.out.hd.tr.c
  rw [hn] at a4
  rw [hk0] at a5
  have x1 : ¬ (d : Int) < (k0 : Int) := by omega
  have x2 : ¬ (4096 : Int) ≤ (d : Int) := by omega
  have x3 : decide (d < k0) = false := decide_eq_false d1
  have x4 : decide ((d : Int) < (k0 : Int)) = false := decide_eq_false x1
  obtain ⟨y, hy⟩ : ∃ y, w.heap.size = y := ⟨_, rfl⟩
  rw [hy] at A0 yg yB
  have HY := Lib.hid hy
  clear h PE hd hC hn hk0 u1 hy
  go_enter Tryd.func17, Tryd.ntmps17
  go_wp2_with (go_at_call 32; refine (KD.out _).mono ?_; rintro e w' ⟨rfl, hw'⟩; have hw'' := hw'.symm; subst hw''; clear hw'; unfold dayE)
  rw [HY.out]
  clear h0 h1 h2 h3 h4 h5 a0 a1 a2 a3 a4 a5
  go_loopw [36] (fun t wr => ∃ (k i p : Nat) (cs : List Cl), k ≤ n ∧ t = .int .i64 (k : Int) ∧ RowKit.Hid (cs.length = k) ∧ i ≤ s.size ∧ RowKit.Hid (cellsP s (n - k) i cs = C) ∧ RowKit.Hid (∀ c ∈ cs, (Lit.int .i64 c.v).wf = true) ∧ RdS w0 wr B g mb s i p ns qs (.slice an ns.length cn) (.slice ar qs.length cr) D ∧ ABk wr y cs) (fun t _ => n - (intOf t).toNat)
  case atStart => exact ⟨0, i, p, [], Nat.zero_le _, rfl, rfl, le, CC0.out, (fun c hc => by cases hc), H1.out, A0.out⟩
  case round =>
    rename World => wr
    obtain ⟨k, i, p, cs, hk, rfl, hl, hi, hC, hw, hR, hA⟩ := hrel
    have RR := Lib.hid hR
    have AA := Lib.hid hA
    have LL := Lib.hid hl.out
    have WW := Lib.hid hw.out
    have e2 := wEn_le hi
    have us : (wrd s i).size ≤ 1048576 := by have := wrd_size hi; omega
    by_cases hlt : k < n
    · have kc : (k : Int) < (n : Int) := by omega
      have k64 : (k : Int) < 64 := by omega
      have kw : IntKind.i64.wrap ((k : Int) + 1) = (k : Int) + 1 := by simp [IntKind.wrap, IntKind.bits, IntKind.signed]; omega
      have eN : n - k = (n - (k + 1)) + 1 := by omega
      have KC := Lib.hid (fun W (b : Below B w0 W) => cellOf_all (wrd s i) us W (PP.out W b).1 (PP.out W b).2)
      have RM := Lib.hid (p := ∀ W, ABk W y cs → W.cell? ⟨y, k * 2, none⟩ = some (.bool false) ∧ W.cell? ⟨y, k * 2 + 1, none⟩ = some (.int .i64 0) ∧ W.frozen? ⟨y, k * 2, none⟩ = false ∧ W.frozen? ⟨y, k * 2 + 1, none⟩ = false) (fun W a => by
        have := a.room (by rw [LL.out]; omega)
        rw [LL.out] at this
        exact ⟨this.1, this.2, Joins.unfrozen_of_block a.hb _, Joins.unfrozen_of_block a.hb _⟩)
      have PU := Lib.hid (p := ∀ W c, ABk W y cs → ABk ((W.setCell ⟨y, k * 2, none⟩ (.bool c.h)).setCell ⟨y, k * 2 + 1, none⟩ (.int .i64 c.v)) y (cs ++ [c])) (fun W c a => by
        have := a.push (by rw [LL.out]; omega) c
        rwa [LL.out] at this)
      have TU := Lib.hid (p := ∀ (W : World) (v1 v2 : Value) (i p : Nat), ABk W y cs → RdS w0 W B g mb s i p ns qs (.slice an ns.length cn) (.slice ar qs.length cr) D → RdS w0 ((W.setCell ⟨y, k * 2, none⟩ v1).setCell ⟨y, k * 2 + 1, none⟩ v2) B g mb s i p ns qs (.slice an ns.length cn) (.slice ar qs.length cr) D) (fun W v1 v2 i p a r =>
        (r.turn yB hg a.hb (by decide) (by decide) (by decide) (by decide) (grT_set _ _ _ _)).turn yB hg (Joins.block_setCell a.hb _) (by decide) (by decide) (by decide) (by decide) (grT_set _ _ _ _))
      cases hv : cellV (wrd s i) with
      | none =>
        have R0 := Lib.hid (hC.out.symm.trans (show cellsP s (n - k) i cs = (wPl s i, wEn s i, 51, cs) by rw [eN]; exact cellsP_bad hv))
        have ee : cellE (wrd s i) = .returned (.tuple #[.agg #[.bool false, .int .i64 0], .bool false]) := by unfold cellE; rw [hv]
        rw [ee] at KC
        clear hR hA hC hw hl hv ee
        go_wp2_with (first
          | (go_at_call 14; refine (KW.out _ _ _ _ _ _ RR.out.hd.tr).mono ?_; rintro e w2 ⟨rfl, t2, g2⟩; have R2 := Lib.hid (RR.out.word hne hg t2 g2); have A2 := Lib.hid (AA.out.stay (g2.block y (blk_lt AA.out.hb) (neE yg))); clear t2 g2)
          | (go_at_call 33; refine (KC.out _ R2.out.hd.bel).mono ?_; rintro e w3 ⟨rfl, b3⟩; have R3 := Lib.hid (R2.out.below hg b3); have A3 := Lib.hid (A2.out.below b3); obtain ⟨z0, z1, z2, z3⟩ := RM.out _ A3.out; clear b3))
        go_ret
        rw [R0.out]
        exact ⟨rfl, qs, _, TU.out _ _ _ _ _ A3.out R3.out, by rw [if_neg (by simp)]⟩
      | some c =>
        have R0 := Lib.hid (show cellsP s (n - (k + 1)) (wEn s i) (cs ++ [c]) = C by rw [← hC.out, eN]; exact (cellsP_go hv).symm)
        have ee : cellE (wrd s i) = .returned (.tuple #[.agg #[.bool c.h, .int .i64 c.v], .bool true]) := by unfold cellE; rw [hv]
        rw [ee] at KC
        have W1 := Lib.hid (p := ∀ x ∈ cs ++ [c], (Lit.int .i64 x.v).wf = true) (fun x hx => by
          rcases List.mem_append.1 hx with q | q
          · exact WW.out x q
          · rw [List.mem_singleton.1 q]; exact (cellV_gd hv).2)
        have L1 := Lib.hid (p := (cs ++ [c]).length = k + 1) (by rw [List.length_append, LL.out]; rfl)
        clear hR hA hC hw hl hv ee
        go_wp2_with (first
          | (go_at_call 14; refine (KW.out _ _ _ _ _ _ RR.out.hd.tr).mono ?_; rintro e w2 ⟨rfl, t2, g2⟩; have R2 := Lib.hid (RR.out.word hne hg t2 g2); have A2 := Lib.hid (AA.out.stay (g2.block y (blk_lt AA.out.hb) (neE yg))); clear t2 g2)
          | (go_at_call 33; refine (KC.out _ R2.out.hd.bel).mono ?_; rintro e w3 ⟨rfl, b3⟩; have R3 := Lib.hid (R2.out.below hg b3); have A3 := Lib.hid (A2.out.below b3); obtain ⟨z0, z1, z2, z3⟩ := RM.out _ A3.out; clear b3))
        go_roundw
        case rel => exact ⟨k + 1, wEn s i, wPl s i, cs ++ [c], by omega, by go_num, L1.out, e2, R0.out, W1.out, TU.out _ _ _ _ _ A3.out R3.out, PU.out _ c A3.out⟩
        case measure => simp [intOf]; omega
    · obtain rfl : k = n := by omega
      have C1 : cellsP s 0 i cs = C := by have := hC.out; rwa [Nat.sub_self] at this
      by_cases h0 : wEn s i = wPl s i
      · have R0 := Lib.hid (p := C = (wPl s i, wEn s i, 0, cs)) (by rw [← C1, cellsP, if_pos h0])
        have eW : wrd s i = ⟨#[]⟩ := wrd_none h0
        have E2 := Lib.hid (wEn_le hi)
        have W2 := Lib.hid hw.out
        clear hR hA hC hw hl C1
        go_wp2_with ((go_at_call 14; refine (KW.out _ _ _ _ _ _ RR.out.hd.tr).mono ?_; rintro e w2 ⟨rfl, t2, g2⟩; have R2 := Lib.hid (RR.out.word hne hg t2 g2); have A2 := Lib.hid (AA.out.stay (g2.block y (blk_lt AA.out.hb) (neE yg))); clear t2 g2); rw [eW])
        clear eW
        go_loopw [60] (fun t ws => ∃ (m : Nat) (qs' : List Rw) (ar' : Option Addr) (cr' : Nat), RowKit.Hid (qs'.length = m) ∧ k0 ≤ m ∧ m ≤ d ∧ RowKit.Hid (qs'.map (·.cs) = qs.map (·.cs) ++ padR (m - k0) k) ∧ RdS w0 ws B g mb s (wEn s i) (wPl s i) ns qs' (.slice an ns.length cn) (.slice ar' m cr') D ∧ ABk ws y cs) (fun t ws => d - rowsN g ws)
        case atStart => exact ⟨k0, qs, ar, cr, HK.out, Nat.le_refl _, by omega, by show _ = _; simp [padR], (by have := R2.out; rwa [HK.out] at this), A2.out⟩
        case round =>
          rename World => ws
          obtain ⟨m, qs', ar', cr', hql, m1, m2, hpd, hRS, hAS⟩ := hrel
          have RS := Lib.hid hRS
          have AS := Lib.hid hAS
          have QL := Lib.hid hql.out
          have PQ := Lib.hid hpd.out
          have RN := Lib.hid (p := rowsN g ws = m) (rowsN_tr hRS.hd.tr)
          have QB := Lib.hid (p := m ≤ 5864062014640) (by omega)
          obtain ⟨c0, c1, c2, c3, c4, c5⟩ := hRS.hd.tr.c
          clear hRS hAS hql hpd
          by_cases hmd : m < d
          · have kc : (m : Int) < (d : Int) := by omega
            have PD := Lib.hid (p := ∀ a : Option Addr, (qs' ++ [(⟨a, k, k, ([] : List Cl).take k ++ List.replicate (k - 0) zCl⟩ : Rw)]).map (·.cs) = qs.map (·.cs) ++ padR (m + 1 - k0) k) (fun a => by
              rw [List.map_append, PQ.out, List.append_assoc]
              refine congrArg (qs.map (·.cs) ++ ·) ?_
              rw [show m + 1 - k0 = (m - k0) + 1 by omega]
              unfold padR
              rw [List.replicate_succ']
              simp [zCl])
            have NR := Lib.hid (newRow_any none k 0 0 [] ws.drew (rc_nil _) (by omega))
            obtain ⟨ZR, hZR⟩ : ∃ ZR, (clv (([] : List Cl).take k ++ List.replicate (k - 0) zCl)).toArray = ZR := ⟨_, rfl⟩
            rw [hZR] at NR
            have HZ := Lib.hid hZR
            have S1 := Lib.hid (RS.out.drew hg)
            have T42 := Lib.hid ((S1.out.hd.tr.alloc (.cells ZR 65)).alloc (.cells #[.slice (some ⟨ws.drew.heap.size, 0, none⟩) k k] 50))
            have H42 := Lib.hid (p := ((ws.drew.alloc (.cells ZR 65)).alloc (.cells #[.slice (some ⟨ws.drew.heap.size, 0, none⟩) k k] 50)).heap[ws.drew.heap.size + 1]? = some (.cells #[.slice (some ⟨ws.drew.heap.size, 0, none⟩) k k] 50)) (by
              have := World.alloc_heap_new (ws.drew.alloc (.cells ZR 65)) (.cells #[.slice (some ⟨ws.drew.heap.size, 0, none⟩) k k] 50)
              rw [World.size_alloc] at this
              exact this)
            have O42 := Lib.hid (p := ((ws.drew.alloc (.cells ZR 65)).alloc (.cells #[.slice (some ⟨ws.drew.heap.size, 0, none⟩) k k] 50)).ownsRow B 50 1 (.slice ar' m cr') m (qs'.map qv)) (by
              have := (S1.out.ro.own.alloc (.cells ZR 65)).alloc (.cells #[.slice (some ⟨ws.drew.heap.size, 0, none⟩) k k] 50)
              rwa [QL.out] at this)
            have q5 : (ws.alloc (.cells ZR 65)).cell? ⟨g, 5, none⟩ = some (.slice ar' m cr') := (RS.out.hd.tr.alloc _).c.2.2.2.2.2
            have q6 : ((ws.alloc (.cells ZR 65)).alloc (.cells #[.slice (some ⟨ws.heap.size, 0, none⟩) k k] 50)).cell? ⟨g, 5, none⟩ = some (.slice ar' m cr') := ((RS.out.hd.tr.alloc _).alloc _).c.2.2.2.2.2
            have SZ := Lib.hid (p := B ≤ ((ws.drew.alloc (.cells ZR 65)).alloc (.cells #[.slice (some ⟨ws.drew.heap.size, 0, none⟩) k k] 50)).heap.size) (Nat.le_trans hg (Nat.le_of_lt T42.out.lt))
            have NEG := Lib.hid (p := some g ≠ (Value.slice ar' m cr').ownBlock) (Ne.symm (ty_apart S1.out.ro.own S1.out.hd.tr.hb (by decide)))
            have AS2 := Lib.hid (p := ∀ (w5 : World) (v : Value), ((ws.drew.alloc (.cells ZR 65)).alloc (.cells #[.slice (some ⟨ws.drew.heap.size, 0, none⟩) k k] 50)).grownBy w5 (Value.slice ar' m cr').ownBlock → ABk (w5.setCell ⟨g, 5, none⟩ v) y cs) (fun w5 v G => by
              have yl := blk_lt AS.out.hb
              have b2 : Below ws.heap.size ws ((ws.drew.alloc (.cells ZR 65)).alloc (.cells #[.slice (some ⟨ws.drew.heap.size, 0, none⟩) k k] 50)) := (((Below.refl _ ws).drew).alloc (Nat.le_refl _) _).alloc (by simp) _
              have a2 := AS.out.below b2
              have a3 := a2.stay (G.block y (blk_lt a2.hb) (fun e => ty_apart O42.out a2.hb (by decide) e.symm))
              exact a3.stay ((grT_set w5 g 5 v).block y (blk_lt a3.hb) (neE yg)))
            go_wp2
            go_region_law (first | (go_simp; go_at_call 34; refine NR.out.mono ?_; rintro e w9 ⟨rfl, rfl⟩) | (refine step_rows _ rfl _ _ rfl B (.slice ar' m cr') m (qs'.map qv) rfl O42.out (ws.drew.heap.size + 1) (some ⟨ws.drew.heap.size, 0, none⟩) k k (0, 0) rfl H42.out QB.out SZ.out ?_; intro z cz w5 h1 h2; have O5 := Lib.hid h1; have G5 := Lib.hid h2; have T5 := T42.out.grown h2 NEG.out; have TT5 := Lib.hid T5; obtain ⟨j0, j1, j2, j3, j4, j5⟩ := T5.c; have fk := T5.f 5; clear T5 h1 h2))
            all_goals
              have AP := Lib.hid (S1.out.app (y := z) (cy := cz) (r := (([] : List Cl).take k ++ List.replicate (k - 0) zCl)) (n := k) hg (by simp) (by rw [QL.out]; exact O5.out) (by rw [HZ.out]; exact G5.out))
              rw [QL.out] at AP
              go_wp2
              refine ⟨⟨m + 1, _, _, _, ?_, by omega, by omega, PD.out _, AP.out, AS2.out _ _ G5.out⟩, ?_⟩
              · show _ = m + 1
                rw [List.length_append, QL.out]; rfl
              · rw [rowsN_tr AP.out.hd.tr, RN.out]; omega
          · obtain rfl : m = d := by omega
            have kc : ¬ (m : Int) < (m : Int) := by omega
            have sl64 := slice64 y k n64
            have RCS := Lib.hid (p := RC ws.drew (some ⟨y, 0, none⟩) k cs) (by
              have := (AS.out.below (Below.refl _ ws).drew).rc W2.out
              rwa [LL.out] at this)
            have LST := Lib.hid (p := ∀ a : Option Addr, (qs' ++ [(⟨a, k, k, cs.take k ++ List.replicate (k - k) zCl⟩ : Rw)]).map (·.cs) = if (0 : Int) = 0 then qs.map (·.cs) ++ padR (m - qs.length) ns.length ++ [cs] else qs.map (·.cs)) (fun a => by
              rw [if_pos rfl, List.map_append, PQ.out, HK.out, HN.out]
              have e : cs.take k ++ List.replicate (k - k) zCl = cs := by
                rw [Nat.sub_self, List.take_of_length_le (by rw [LL.out]; omega)]
                simp
              rw [e]
              rfl)
            have NR := Lib.hid (newRow_any (some ⟨y, 0, none⟩) k k 64 cs ws.drew RCS.out (by omega))
            obtain ⟨ZR, hZR⟩ : ∃ ZR, (clv (cs.take k ++ List.replicate (k - k) zCl)).toArray = ZR := ⟨_, rfl⟩
            rw [hZR] at NR
            have HZ := Lib.hid hZR
            have S1 := Lib.hid (RS.out.drew hg)
            have T42 := Lib.hid ((S1.out.hd.tr.alloc (.cells ZR 65)).alloc (.cells #[.slice (some ⟨ws.drew.heap.size, 0, none⟩) k k] 50))
            have H42 := Lib.hid (p := ((ws.drew.alloc (.cells ZR 65)).alloc (.cells #[.slice (some ⟨ws.drew.heap.size, 0, none⟩) k k] 50)).heap[ws.drew.heap.size + 1]? = some (.cells #[.slice (some ⟨ws.drew.heap.size, 0, none⟩) k k] 50)) (by
              have := World.alloc_heap_new (ws.drew.alloc (.cells ZR 65)) (.cells #[.slice (some ⟨ws.drew.heap.size, 0, none⟩) k k] 50)
              rw [World.size_alloc] at this
              exact this)
            have O42 := Lib.hid (p := ((ws.drew.alloc (.cells ZR 65)).alloc (.cells #[.slice (some ⟨ws.drew.heap.size, 0, none⟩) k k] 50)).ownsRow B 50 1 (.slice ar' m cr') m (qs'.map qv)) (by
              have := (S1.out.ro.own.alloc (.cells ZR 65)).alloc (.cells #[.slice (some ⟨ws.drew.heap.size, 0, none⟩) k k] 50)
              rwa [QL.out] at this)
            have q5 : (ws.alloc (.cells ZR 65)).cell? ⟨g, 5, none⟩ = some (.slice ar' m cr') := (RS.out.hd.tr.alloc _).c.2.2.2.2.2
            have q6 : ((ws.alloc (.cells ZR 65)).alloc (.cells #[.slice (some ⟨ws.heap.size, 0, none⟩) k k] 50)).cell? ⟨g, 5, none⟩ = some (.slice ar' m cr') := ((RS.out.hd.tr.alloc _).alloc _).c.2.2.2.2.2
            have SZ := Lib.hid (p := B ≤ ((ws.drew.alloc (.cells ZR 65)).alloc (.cells #[.slice (some ⟨ws.drew.heap.size, 0, none⟩) k k] 50)).heap.size) (Nat.le_trans hg (Nat.le_of_lt T42.out.lt))
            have NEG := Lib.hid (p := some g ≠ (Value.slice ar' m cr').ownBlock) (Ne.symm (ty_apart S1.out.ro.own S1.out.hd.tr.hb (by decide)))
            have AS2 := Lib.hid (p := ∀ (w5 : World) (v : Value), ((ws.drew.alloc (.cells ZR 65)).alloc (.cells #[.slice (some ⟨ws.drew.heap.size, 0, none⟩) k k] 50)).grownBy w5 (Value.slice ar' m cr').ownBlock → ABk (w5.setCell ⟨g, 5, none⟩ v) y cs) (fun w5 v G => by
              have yl := blk_lt AS.out.hb
              have b2 : Below ws.heap.size ws ((ws.drew.alloc (.cells ZR 65)).alloc (.cells #[.slice (some ⟨ws.drew.heap.size, 0, none⟩) k k] 50)) := (((Below.refl _ ws).drew).alloc (Nat.le_refl _) _).alloc (by simp) _
              have a2 := AS.out.below b2
              have a3 := a2.stay (G.block y (blk_lt a2.hb) (fun e => ty_apart O42.out a2.hb (by decide) e.symm))
              exact a3.stay ((grT_set w5 g 5 v).block y (blk_lt a3.hb) (neE yg)))
            go_wp2
            go_region_law (first | (go_simp; go_at_call 34; refine NR.out.mono ?_; rintro e w9 ⟨rfl, rfl⟩) | (refine step_rows _ rfl _ _ rfl B (.slice ar' m cr') m (qs'.map qv) rfl O42.out (ws.drew.heap.size + 1) (some ⟨ws.drew.heap.size, 0, none⟩) k k (0, 0) rfl H42.out QB.out SZ.out ?_; intro z cz w5 h1 h2; have O5 := Lib.hid h1; have G5 := Lib.hid h2; have T5 := T42.out.grown h2 NEG.out; have TT5 := Lib.hid T5; obtain ⟨j0, j1, j2, j3, j4, j5⟩ := T5.c; have fk := T5.f 5; clear T5 h1 h2))
            all_goals
              have AP := Lib.hid (S1.out.app (y := z) (cy := cz) (r := (cs.take k ++ List.replicate (k - k) zCl)) (n := k) hg (by simp [LL.out]) (by rw [QL.out]; exact O5.out) (by rw [HZ.out]; exact G5.out))
              rw [QL.out] at AP
              go_wp2
              go_ret
              rw [R0.out]
              exact ⟨rfl, _, _, AP.out, LST.out _⟩
      · have R0 := Lib.hid (p := C = (wPl s i, wEn s i, 51, cs)) (by rw [← C1, cellsP, if_neg h0])
        have iE := isEmpty_no (show 1 ≤ (wrd s i).size by have := wrd_size hi; have := wEn_ge s i; omega)
        clear hR hA hC hw hl C1
        go_wp2_with (go_at_call 14; refine (KW.out _ _ _ _ _ _ RR.out.hd.tr).mono ?_; rintro e w2 ⟨rfl, t2, g2⟩; have R2 := Lib.hid (RR.out.word hne hg t2 g2); have A2 := Lib.hid (AA.out.stay (g2.block y (blk_lt AA.out.hb) (neE yg))); clear t2 g2)
        go_ret
        rw [R0.out]
        exact ⟨rfl, qs, _, R2.out, by rw [if_neg (by simp)]⟩
end Go.Proofs.YtldplmchgmoopaaDoor

namespace Go.Proofs.YtldplmchgmoopaaDoor
open Go.RowKit Go.Shelf Go.Maps
set_option linter.unusedVariables false
set_option linter.unusedSimpArgs false

/-- What lies behind row, by what it comes to. -/
def RowZ (w0 W : World) (B g mb : Nat) (s : ByteArray) (ns : List ByteArray) (nm : Value) (D : DataW Unit) (R : Nat × Nat × Int × List (List Cl)) : Prop :=
  ∃ qs' rw', RdS w0 W B g mb s R.2.1 R.1 ns qs' nm rw' D ∧ qs'.map (·.cs) = R.2.2.2
set_option maxRecDepth 100000 in
set_option maxHeartbeats 4000000 in
theorem row_any (g mb B : Nat) (s : ByteArray) (i p : Nat) (ns : List ByteArray) (qs : List Rw) (nm rw : Value) (D : DataW Unit) (w0 w : World) (u : ByteArray) (h : RdS w0 w B g mb s i p ns qs nm rw D) (hne : mb ≠ g) (hg : B ≤ g) (hm : B ≤ mb) (n64 : ns.length ≤ 64)
    (PE : ∀ W, Below B w0 W → Pows W ∧ Ev W) (u1 : 1 ≤ u.size) (u2 : u.size ≤ 1048576) (R : Nat × Nat × Int × List (List Cl)) (hR : rowR s ns (qs.map (·.cs)) u i p = R) :
    Calls Tryd.prog 17 #[.pointer (some ⟨g, 0, none⟩), .string u] w fun e w' => e = .returned (.int .i64 R.2.2.1) ∧ RowZ w0 w' B g mb s ns nm D R := by
  have ql : (qs.map (·.cs)).length = qs.length := List.length_map _
  unfold rowR at hR
  have KD := Lib.hid (fun W => dayOf_any u u1 u2 W)
  have Z := Lib.hid (p := ∀ e, RowZ w0 w B g mb s ns nm D (p, i, e, qs.map (·.cs))) (fun e => ⟨qs, rw, h, rfl⟩)
  obtain ⟨ar, cr, rfl⟩ := rowL_form h.ro.own
  obtain ⟨h0, h1, h2, h3, h4, h5⟩ := h.hd.tr.c
  cases hd : dayP u with
  | none =>
    rw [hd] at hR KD
    simp only at hR
    subst hR
    clear h
    go_enter Tryd.func17, Tryd.ntmps17
    go_wp2_with (go_at_call 32; refine (KD.out _).mono ?_; rintro e w' ⟨rfl, hw'⟩; have hw'' := hw'.symm; subst hw''; clear hw'; unfold dayE)
    go_ret
    exact ⟨rfl, Z.out _⟩
  | some d =>
    rw [hd] at hR KD
    simp only at hR
    rw [ql] at hR
    by_cases d1 : d < qs.length
    · rw [if_pos d1] at hR
      subst hR
      have x1 : (d : Int) < (qs.length : Int) := by omega
      clear h hd ql
      generalize qs.length = k0 at *
      go_enter Tryd.func17, Tryd.ntmps17
      go_wp2_with (go_at_call 32; refine (KD.out _).mono ?_; rintro e w' ⟨rfl, hw'⟩; have hw'' := hw'.symm; subst hw''; clear hw'; unfold dayE)
      go_ret
      exact ⟨rfl, Z.out _⟩
    · rw [if_neg d1] at hR
      by_cases d2 : 4096 ≤ d
      · rw [if_pos d2] at hR
        subst hR
        have x1 : ¬ (d : Int) < (qs.length : Int) := by omega
        have x2 : (4096 : Int) ≤ (d : Int) := by omega
        have x3 : decide (d < qs.length) = false := decide_eq_false d1
        have x4 : decide ((d : Int) < (qs.length : Int)) = false := decide_eq_false x1
        clear h hd ql
        generalize qs.length = k0 at *
        go_enter Tryd.func17, Tryd.ntmps17
        go_wp2_with (go_at_call 32; refine (KD.out _).mono ?_; rintro e w' ⟨rfl, hw'⟩; have hw'' := hw'.symm; subst hw''; clear hw'; unfold dayE)
        go_ret
        exact ⟨rfl, Z.out _⟩
      · rw [if_neg d2] at hR
        subst hR
        refine (row_main g mb B s i p ns qs nm _ D w0 w u d h hne hg hm n64 PE hd u1 u2 d1 d2 _ rfl).mono ?_
        rintro e w' ⟨rfl, qs', rw', hq, e2⟩
        exact ⟨rfl, qs', rw', hq, e2⟩
/-- head of another first word. -/
theorem head_bad (g : Nat) (u : ByteArray) (hu : u ≠ wDay) (w : World) :
    Calls Tryd.prog 16 #[.pointer (some ⟨g, 0, none⟩), .string u] w fun e w' => e = .returned (.int .i64 51) ∧ w' = w := by
  have e1 : (u.toList == [100, 97, 121]) = false := by
    rw [list_of, beq_eq_false_iff_ne]
    intro e
    apply hu
    rw [← sOf_list u, e]
    rfl
  go_enter Tryd.func16, Tryd.ntmps16
  go_wp2
  go_ret
  exact ⟨rfl, rfl⟩
theorem name31 {n : ByteArray} (h : nameB n = true) : n.size ≤ 31 := by
  unfold nameB at h
  simp only [Bool.and_eq_true, decide_eq_true_eq] at h
  exact h.1.2
/-- Names in memory of their own, as a list. -/
theorem nl_own {w : World} {B : Nat} {a : Option Addr} {n c : Nat} {ns : List ByteArray} (h : w.ownsRow B 9 1 (.slice a n c) ns.length (ns.map Value.string)) (h1 : ns.length ≤ 64) (h2 : ∀ s ∈ ns, nameB s = true) : n = ns.length ∧ NL w a n ns ∧ (a = none → n = 0 ∧ c = 0) ∧ n ≤ c ∧ c ≤ maxLen := by
  have hw : ∀ s ∈ ns, s.size ≤ 140737488351232 := fun s hs => by have := name31 (h2 s hs); omega
  have hc := h
  rcases h.2 with ⟨e, e0⟩ | ⟨g, cap, cur, e, hB, hg, k1, k2, k3, k4⟩
  · injection e with e1 e2 e3
    subst e1 e2 e3
    exact ⟨e0.symm, ⟨e0, by omega, hw, .inl rfl⟩, fun _ => ⟨rfl, rfl⟩, Nat.le_refl _, by unfold maxLen; omega⟩
  · injection e with e1 e2 e3
    subst e1 e2 e3
    refine ⟨rfl, ⟨rfl, by omega, hw, .inr ⟨g, 0, rfl, (Array.getElem?_eq_some_iff.1 hg).1, fun i hi => ?_⟩⟩, (fun e => by cases e), k1, k2⟩
    rw [Nat.zero_add, World.ownsRow.cellAt hc i (by omega)]
    rw [List.getElem?_map, List.getElem?_eq_getElem hi]
    simp [List.getD, hi]
theorem qok_rc {w : World} {B : Nat} {q : Rw} (h : qOk w B q) (h1 : q.cs.length ≤ 64) (h2 : ∀ c ∈ q.cs, (Lit.int .i64 c.v).wf = true) : RC w q.a q.n q.cs ∧ (q.a = none → q.n = 0 ∧ q.cap = 0) ∧ q.n ≤ q.cap ∧ q.cap ≤ maxLen := by
  obtain ⟨z, e1, e2, e3, e4, e5⟩ := h
  refine ⟨⟨e3.symm, by omega, h2, .inr ⟨z, 0, e1, blk_lt e5, fun i hi => ?_⟩⟩, (fun e => by rw [e1] at e; cases e), by omega, by unfold maxLen; omega⟩
  rw [Nat.zero_add]
  refine ⟨?_, ?_⟩
  · have := clv_at q.cs i (by omega) 0 (by omega)
    rw [Joins.cell_of_block e5]
    simpa [Cl.two] using this
  · have := clv_at q.cs i (by omega) 1 (by omega)
    rw [Joins.cell_of_block e5]
    simpa [Cl.two] using this
/-- Rows in memory of their own, as a list. -/
theorem rl_own {w : World} {B : Nat} {a : Option Addr} {n c : Nat} {qs : List Rw} (h : RwO w B (.slice a n c) qs) (h1 : qs.length ≤ 4096) (h2 : ∀ q ∈ qs, q.cs.length ≤ 64) (h3 : ∀ q ∈ qs, ∀ c ∈ q.cs, (Lit.int .i64 c.v).wf = true) : n = qs.length ∧ RL w a n qs ∧ (a = none → n = 0 ∧ c = 0) ∧ n ≤ c ∧ c ≤ maxLen := by
  have hc := h.own
  have ok : ∀ r ∈ qs, RC w r.a r.n r.cs ∧ (r.a = none → r.n = 0 ∧ r.cap = 0) ∧ r.n ≤ r.cap ∧ r.cap ≤ maxLen := fun r hr => qok_rc (h.ok r hr) (h2 r hr) (h3 r hr)
  rcases h.own.2 with ⟨e, e0⟩ | ⟨g, cap, cur, e, hB, hg, k1, k2, k3, k4⟩
  · injection e with e1 e2 e3
    subst e1 e2 e3
    exact ⟨e0.symm, ⟨e0, by omega, ok, .inl rfl⟩, fun _ => ⟨rfl, rfl⟩, Nat.le_refl _, by unfold maxLen; omega⟩
  · injection e with e1 e2 e3
    subst e1 e2 e3
    refine ⟨rfl, ⟨rfl, by omega, ok, .inr ⟨g, 0, rfl, (Array.getElem?_eq_some_iff.1 hg).1, fun i hi => ?_⟩⟩, (fun e => by cases e), k1, k2⟩
    rw [Nat.zero_add, World.ownsRow.cellAt hc i (by omega)]
    rw [List.getElem?_map, List.getElem?_eq_getElem hi]
    simp [List.getD, hi, qv]
/-- What Parse hands out: a table in memory of its own. -/
structure PsT (B : Nat) (W : World) (t : Tb) (R : PR) : Prop where
  ok : TbOk W t
  ns : t.ss = R.ns
  rs : t.rs.map (·.cs) = R.rs
  no : W.ownsRow B 9 1 (.slice t.an t.ln t.cn) R.ns.length (R.ns.map Value.string)
  ro : RwO W B (.slice t.ar t.lr t.cr) t.rs
theorem psT_of {B : Nat} {W : World} {an ar : Option Addr} {ln cn lr cr : Nat} {ns : List ByteArray} {qs : List Rw} (h1 : W.ownsRow B 9 1 (.slice an ln cn) ns.length (ns.map Value.string)) (h2 : RwO W B (.slice ar lr cr) qs) (g : Gd ns (qs.map (·.cs))) (pl : Nat) (e : Int) : PsT B W ⟨an, ln, cn, ns, ar, lr, cr, qs⟩ ⟨pl, e, ns, qs.map (·.cs)⟩ := by
  obtain ⟨a1, a2, a3, a4⟩ := nl_own h1 g.n64 g.nm
  obtain ⟨b1, b2, b3, b4⟩ := rl_own h2 (by have := g.r4; simpa using this) (fun q hq => by rw [g.rw q.cs (List.mem_map.2 ⟨q, hq, rfl⟩)]; exact g.n64) (fun q hq c hc => (g.st q.cs (List.mem_map.2 ⟨q, hq, rfl⟩) c hc).2)
  exact ⟨⟨a2, a3, b2, b3, a4, b4⟩, rfl, rfl, h1, h2⟩
def nilT : Tb := ⟨none, 0, 0, [], none, 0, 0, []⟩
theorem gd_nil : Gd [] [] := ⟨by simp, fun n h => (by cases h), List.nodup_nil, fun r h => (by cases h), fun r h => (by cases h), by simp⟩
theorem rwO_nil (W : World) (B : Nat) : RwO W B (.slice none 0 0) [] := ⟨World.ownsRow_nil _ _ _ _, (fun q h => by cases h), List.Pairwise.nil⟩
theorem psT_nil (B : Nat) (W : World) (pl : Nat) (e : Int) : PsT B W nilT ⟨pl, e, [], []⟩ := psT_of (World.ownsRow_nil _ _ _ _) (rwO_nil W B) gd_nil pl e
end Go.Proofs.YtldplmchgmoopaaDoor
