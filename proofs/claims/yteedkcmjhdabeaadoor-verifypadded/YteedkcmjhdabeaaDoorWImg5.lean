/-
  COPIES OF PROGRAMS: what stands while one is made.
-/
import Derived.Test.YteedkcmjhdabeaaDoorWImg3
import Derived.Laws.AppendOwn
import Derived.Laws.AppendOwnNone
import Derived.Laws.OwnMore
import Derived.Laws.MakeOwn
import Derived.Maps.AppendAt
import Derived.Deep.AppendLies
import Derived.Deep.RegionLaw
import Derived.Deep.Cut
import Derived.Deep.CutRange
import Derived.Deep.DeepCutAuto
import Derived.OwnWalk
import Derived.Laws.Cover3
namespace Go.Proofs.YteedkcmjhdabeaaDoor
open Go.RowKit
set_option linter.unusedVariables false
set_option linter.unusedSimpArgs false

theorem infoPS : (Tryd.prog.info? 9).map (fun i => (i.zero, i.size, i.bytes)) = some (some (.string ⟨#[]⟩), 1, 16) := by kernel_rfl
theorem infoPN : (Tryd.prog.info? 3).map (fun i => (i.zero, i.size, i.bytes)) = some (some (.int .i64 0), 1, 8) := by kernel_rfl
theorem infoPI : (Tryd.prog.info? 38).map (fun i => (i.zero, i.size, i.bytes)) = some (some (.agg #[.int .i64 0, .int .i64 0, .int .i64 0]), 3, 24) := by kernel_rfl
theorem infoPG : (Tryd.prog.info? 36).map (fun i => (i.zero, i.size, i.bytes)) = some (some (.agg #[.int .i64 0, .slice none 0 0]), 2, 32) := by kernel_rfl
/-- A block, whole. -/
def BkP (w : World) (b : Nat) (cs : Array Value) (t : TypeId) : Prop := w.heap[b]? = some (.cells cs t (0, 0))
theorem BkP.cell {w : World} {b : Nat} {cs : Array Value} {t : TypeId} (h : BkP w b cs t) (k : Nat) : w.cell? ⟨b, k, none⟩ = cs[k]? := by
  unfold BkP at h; simp [World.cell?, h]
theorem BkP.frozen {w : World} {b : Nat} {cs : Array Value} {t : TypeId} (h : BkP w b cs t) (k : Nat) : w.frozen? ⟨b, k, none⟩ = false := by
  unfold BkP at h; simp [World.frozen?, h]
theorem BkP.lt {w : World} {b : Nat} {cs : Array Value} {t : TypeId} (h : BkP w b cs t) : b < w.heap.size := (Array.getElem?_eq_some_iff.1 h).1
theorem BkP.grown {w w' : World} {b : Nat} {cs : Array Value} {t : TypeId} {r : Option Nat} (h : BkP w b cs t) (g : w.grownBy w' r) (hb : some b ≠ r) : BkP w' b cs t := (g.block b h.lt hb).trans h
theorem BkP.set {w : World} {b : Nat} {cs : Array Value} {t : TypeId} (h : BkP w b cs t) (k : Nat) (v : Value) (hk : k < cs.size) : BkP (w.setCell ⟨b, k, none⟩ v) b (cs.set k v) t := by
  unfold BkP at *
  simp only [World.setCell, Array.getElem?_modify, if_true, h, Option.map_some]
  simp [Array.set!, Array.setIfInBounds, hk]
theorem BkP.other {w : World} {b : Nat} {cs : Array Value} {t : TypeId} (h : BkP w b cs t) (p : Nat) (k : Nat) (v : Value) (hp : p ≠ b) : BkP (w.setCell ⟨p, k, none⟩ v) b cs t := by
  unfold BkP at *
  simp only [World.setCell, Array.getElem?_modify, if_neg hp, h]
/-- A row that lies between two places. -/
structure RF where
  lo : Nat
  hi : Nat
  T : TypeId
  k : Nat
  v : Value
  n : Nat
  xs : List Value
structure RF.at (r : RF) (W : World) : Prop where
  own : W.ownsRow r.lo r.T r.k r.v r.n r.xs
  hi : ∀ b, r.v.ownBlock = some b → b < r.hi
theorem row_farP {W W' : World} {B e s n : Nat} {v : Value} {xs : List Value} (h : W.ownsRow B e s v n xs) {r : Option Nat} (g : W.grownBy W' r) (hr : ∀ k q, r = some k → v.ownBlock = some q → k ≠ q) : W'.ownsRow B e s v n xs := by
  refine h.kept g ?_
  rcases hv : v.ownBlock with _ | q
  · exact .inl rfl
  · right
    intro e
    rcases r with _ | k
    · cases e
    · injection e with e
      exact hr k q rfl hv e.symm
theorem RF.at.grown {r : RF} {W W' : World} (h : r.at W) {x : Option Nat} (g : W.grownBy W' x) (hx : ∀ k, x = some k → k < r.lo ∨ r.hi ≤ k) : r.at W' :=
  ⟨row_farP h.own g (fun k q e e2 => by have := h.own.lt q e2; have := h.hi q e2; rcases hx k e with t | t <;> omega), h.hi⟩
def pz : Array Value := #[.slice none 0 0, .slice none 0 0, .slice none 0 0, .int .i64 0, .int .i64 0, .int .i64 0, .int .i64 0, .slice none 0 0]
def Pg.arr (p : Pg) : Array Value := #[.slice p.na p.names.length p.nc, .slice p.ua p.curs.length p.uc, .slice p.pa p.pool.length p.pc, .int .i64 p.hor, .int .i64 p.cells, .int .i64 p.slots, .int .i64 p.stack, .slice p.da p.days.length p.dc]
/-- What stands while a copy is made: the box of the program, that of the answer, that of the copy, the rows of the copy. -/
structure OS (w W : World) (p : Pg) (q : Array Value) (L : List RF) : Prop where
  bel : Below w.heap.size w W
  b0 : BkP W w.heap.size p.arr 26
  b1 : BkP W (w.heap.size + 1) pz 26
  b2 : BkP W (w.heap.size + 1 + 1) q 26
  rows : ∀ r ∈ L, r.at W ∧ w.heap.size + 3 ≤ r.lo ∧ r.hi ≤ W.heap.size
  sz : w.heap.size + 3 ≤ W.heap.size
  qs : q.size = 8
theorem OS.grown {w W W' : World} {p : Pg} {q : Array Value} {L : List RF} (h : OS w W p q L) {x : Option Nat} (g : W.grownBy W' x) (hx : ∀ k, x = some k → W.heap.size ≤ k) : OS w W' p q L :=
  ⟨h.bel.grown g h.bel.size (fun k e => Nat.le_trans h.bel.size (hx k e)), h.b0.grown g (fun e => by have := hx _ e.symm; have := h.b0.lt; omega), h.b1.grown g (fun e => by have := hx _ e.symm; have := h.b1.lt; omega), h.b2.grown g (fun e => by have := hx _ e.symm; have := h.b2.lt; omega),
    fun r hr => ⟨(h.rows r hr).1.grown g (fun k e => .inr (Nat.le_trans (h.rows r hr).2.2 (hx k e))), (h.rows r hr).2.1, Nat.le_trans (h.rows r hr).2.2 g.size⟩, Nat.le_trans h.sz g.size, h.qs⟩
theorem gr_below {W W' : World} (b : Below W.heap.size W W') (r : Option Nat) : W.grownBy W' r := ⟨b.os, b.tape, b.output, b.size, fun k hk _ => b.block k hk⟩
theorem OS.later {w W W' : World} {p : Pg} {q : Array Value} {L : List RF} (h : OS w W p q L) (b : Below W.heap.size W W') : OS w W' p q L := h.grown (gr_below b none) (fun k e => by cases e)
theorem drew1B (W : World) : Below W.heap.size W W.drew := (Below.refl _ _).drew
theorem OS.drew {w W : World} {p : Pg} {q : Array Value} {L : List RF} (h : OS w W p q L) : OS w W.drew p q L := h.later (drew1B W)
theorem OS.alloc {w W : World} {p : Pg} {q : Array Value} {L : List RF} (h : OS w W p q L) (o : Obj) : OS w (W.alloc o) p q L := h.later (allocBP W o)
theorem setCell_gr (W : World) (b j : Nat) (v : Value) : W.grownBy (W.setCell ⟨b, j, none⟩ v) (some b) := by
  refine ⟨rfl, rfl, rfl, by simp, fun i hi hn => ?_⟩
  have hp : ¬ b = i := fun e => hn (by rw [e])
  simp [World.setCell, Array.getElem?_modify, hp]
theorem OS.setQ {w W : World} {p : Pg} {q : Array Value} {L : List RF} (h : OS w W p q L) (j : Nat) (hj : j < q.size) (v : Value) : OS w (W.setCell ⟨w.heap.size + 1 + 1, j, none⟩ v) p (q.set j v) L :=
  ⟨h.bel.grown (setCell_gr W _ j v) h.bel.size (fun k e => by injection e with e; omega), h.b0.other _ _ _ (by omega), h.b1.other _ _ _ (by omega), h.b2.set j v hj,
    fun r hr => ⟨(h.rows r hr).1.grown (setCell_gr W _ j v) (fun k e => by injection e with e; have := (h.rows r hr).2.1; left; omega), (h.rows r hr).2.1, by simpa using (h.rows r hr).2.2⟩, by simpa using h.sz, by simpa using h.qs⟩
theorem OS.add {w W : World} {p : Pg} {q : Array Value} {L : List RF} (h : OS w W p q L) (r : RF) (hr : r.at W) (h1 : w.heap.size + 3 ≤ r.lo) (h2 : r.hi ≤ W.heap.size) : OS w W p q (r :: L) :=
  ⟨h.bel, h.b0, h.b1, h.b2, fun x hx => by
    rcases List.mem_cons.1 hx with rfl | q
    · exact ⟨hr, h1, h2⟩
    · exact h.rows x q, h.sz, h.qs⟩
theorem heapN (w : World) (o : Obj) : (w.alloc o).heap[w.heap.size]? = some o := by show (w.heap.push o)[w.heap.size]? = _; simp
theorem os_start (w : World) (p : Pg) : OS w (((w.alloc (.cells p.arr 26)).alloc (.cells pz 26)).alloc (.cells p.arr 26)) p p.arr [] := by
  have e1 : (w.alloc (.cells p.arr 26)).heap.size = w.heap.size + 1 := by simp
  have e2 : ((w.alloc (.cells p.arr 26)).alloc (.cells pz 26)).heap.size = w.heap.size + 1 + 1 := by simp
  have k0 : (w.alloc (.cells p.arr 26)).heap[w.heap.size]? = some (.cells p.arr 26) := heapN _ _
  have k1 : ((w.alloc (.cells p.arr 26)).alloc (.cells pz 26)).heap[w.heap.size + 1]? = some (.cells pz 26) := by have := heapN (w.alloc (.cells p.arr 26)) (.cells pz 26); rwa [e1] at this
  have k2 : (((w.alloc (.cells p.arr 26)).alloc (.cells pz 26)).alloc (.cells p.arr 26)).heap[w.heap.size + 1 + 1]? = some (.cells p.arr 26) := by have := heapN ((w.alloc (.cells p.arr 26)).alloc (.cells pz 26)) (.cells p.arr 26); rwa [e2] at this
  refine ⟨(alloc2 w _ _).alloc (by simp; omega) _, ?_, ?_, k2, by simp, by simp, rfl⟩
  · exact (Below.heap_alloc _ _ _ (by simp; omega)).trans ((Below.heap_alloc _ _ _ (by simp)).trans k0)
  · exact (Below.heap_alloc _ _ _ (by simp)).trans k1
/-- What an append with the room made ahead leaves. -/
theorem made_rowP (W : World) (B : Nat) (hB : B ≤ W.heap.size) (T : TypeId) (z : Array Value) (k c : Nat) (hz : z.size = k) (hk : 0 < k) (hc : c ≤ maxLen) : (W.alloc (.cells (madeCells z (c * k)) T)).ownsRow B T k (.slice (some ⟨W.heap.size, 0, none⟩) 0 c) 0 [] := by
  refine ⟨by rw [Nat.zero_mul]; rfl, .inr ⟨W.heap.size, c, madeCells z (c * k), rfl, hB, heapN _ _, Nat.zero_le _, hc, by simp [madeCells], by rw [Nat.zero_mul]; rfl⟩⟩
end Go.Proofs.YteedkcmjhdabeaaDoor
