import Derived.Test.YtpfjnnkjoabgbaaGreatDoorXAX
import Derived.Test.YtpfjnnkjoabgbaaGreatDoorXAQ
import Derived.Test.YtpfjnnkjoabgbaaGreatDoorXAB
import Derived.Deep.AppendLies
namespace Go.Proofs.YtpfjnnkjoabgbaaGreatDoor
open Go.RowKit
set_option linter.unusedVariables false
set_option linter.unusedSimpArgs false
/-- The cells of flows. -/
def fo3 (f : Fl) : List Value := [.int .i64 f.d, .string f.c, .int .i64 f.a]
def focs (l : List Fl) : List Value := l.flatMap fo3
theorem focs_len (l : List Fl) : (focs l).length = l.length * 3 := by
  induction l with
  | nil => rfl
  | cons p r ih => simp [focs, fo3] at ih ⊢; omega
theorem focs_append (a b : List Fl) : focs (a ++ b) = focs a ++ focs b := by simp [focs]
theorem infoFo : (Tryz.prog.info? 54).map (fun i => (i.zero, i.size, i.bytes)) = some (some (.agg #[.int .i64 0, .string ⟨#[]⟩, .int .i64 0]), 3, 32) := by kernel_rfl
def OwF (w : World) (B : Nat) (v : Value) (l : List Fl) : Prop := w.ownsRow B 54 3 v l.length (focs l)
/-- What stands fast while a day's code is done (D: the blocks that stay). -/
structure Kx where
  w0 : World
  B : Nat
  rb : Nat
  mb : Nat
  p : Pg
  n : Nds
  today : Int
  cev : Value
  pav : Value
  codev : Value
  rowv : Value
  D : Nat → Prop
def mArr (p : Pg) (n : Nds) (today steps : Int) (cev pav : Value) (ft dy : Int) : Array Value := #[.slice p.na p.names.length p.nc, .slice p.ua p.curs.length p.uc, .slice p.pa p.pool.length p.pc, .int .i64 p.hor, .int .i64 p.cells, .int .i64 p.slots, .int .i64 p.stack, .slice p.da p.days.length p.dc, .int .i64 n.stack, .int .i64 n.fuel, .int .i64 n.back, .int .i64 today, .int .i64 steps, cev, pav, .int .i64 ft, .int .i64 dy]
def rArr (K : Kx) (stv slv flv : Value) (r : Rn) : Array Value := #[.pointer (some ⟨K.mb, 0, none⟩), K.codev, .int .i64 (r.nx : Int), .bool r.en, K.rowv, stv, slv, flv]
/-- A list of accumulators, where it lies. -/
def CeR (w : World) (v : Value) (l : List Int) : Prop := (l = [] ∧ ∃ a c, v = .slice a 0 c ∧ v.ownBlock = none) ∨ OwZ w 0 v l
structure RO (K : Kx) (w : World) (stv slv flv : Value) (steps : Int) (r : Rn) : Prop where
  os : w.os = K.w0.os
  tape : w.tape = K.w0.tape
  out : w.output = K.w0.output
  sz : K.w0.heap.size ≤ w.heap.size
  fr : ∀ k, K.D k → w.heap[k]? = K.w0.heap[k]?
  rb : BkP w K.rb (rArr K stv slv flv r) 83
  rB : K.B ≤ K.rb
  mb : BkP w K.mb (mArr K.p K.n K.today steps K.cev K.pav 0 0) 75
  mB : K.mb < K.B
  st : OwZ w K.B stv r.st.reverse
  sl : OwZ w K.B slv r.sl
  fl : OwF w K.B flv r.fl
  ap : stv.ownBlock = none ∨ stv.ownBlock ≠ slv.ownBlock
  ce : CeR w K.cev r.ce
  cB : ∀ g, K.cev.ownBlock = some g → g < K.B
  r1 : ∀ x ∈ r.st, inR x
  r2 : ∀ x ∈ r.sl, inR x
  r3 : ∀ x ∈ r.ce, inR x
  dl : ∀ k, K.D k → k < K.w0.heap.size
  dr : ¬ K.D K.rb
  dm : ¬ K.D K.mb
  dc : ∀ g, K.cev.ownBlock = some g → ¬ K.D g
  d1 : ∀ g, stv.ownBlock = some g → ¬ K.D g
  d2 : ∀ g, slv.ownBlock = some g → ¬ K.D g
  d3 : ∀ g, flv.ownBlock = some g → ¬ K.D g
def RoE (K : Kx) (w : World) (steps : Int) (r : Rn) : Prop := ∃ stv slv flv, RO K w stv slv flv steps r
theorem RO.BB {K : Kx} {w : World} {stv slv flv : Value} {steps : Int} {r : Rn} (h : RO K w stv slv flv steps r) : K.B ≤ w.heap.size := Nat.le_trans h.rB (Nat.le_of_lt h.rb.lt)
/-- Whatever else is laid or drawn. -/
theorem RO.lat {K : Kx} {w w' : World} {stv slv flv : Value} {steps : Int} {r : Rn} (h : RO K w stv slv flv steps r) (b : Below w.heap.size w w') : RO K w' stv slv flv steps r := by
  refine ⟨b.os.trans h.os, b.tape.trans h.tape, b.output.trans h.out, Nat.le_trans h.sz b.size, fun k hk => (b.block k (Nat.lt_of_lt_of_le (h.dl k hk) h.sz)).trans (h.fr k hk), h.rb.lat b, h.rB, h.mb.lat b, h.mB, h.st.lat b, h.sl.lat b, own_blkG h.fl (fun g hg => b.block g (World.ownsRow.lt h.fl g hg).2), h.ap, ?_, h.cB, h.r1, h.r2, h.r3, h.dl, h.dr, h.dm, h.dc, h.d1, h.d2, h.d3⟩
  rcases h.ce with q | q
  · exact .inl q
  · exact .inr (q.lat b)
theorem RoE.lat {K : Kx} {w w' : World} {steps : Int} {r : Rn} (h : RoE K w steps r) (b : Below w.heap.size w w') : RoE K w' steps r := by
  obtain ⟨a, c, d, h⟩ := h
  exact ⟨a, c, d, h.lat b⟩
/-- One of the run's rows has grown. -/
theorem RO.grow {K : Kx} {w w' : World} {stv slv flv : Value} {steps : Int} {r : Rn} (h : RO K w stv slv flv steps r) {x : Option Nat} (g : w.grownBy w' x) (hx : ∀ k, x = some k → K.B ≤ k) (hd : ∀ k, x = some k → ¬ K.D k) (n1 : some K.rb ≠ x) :
    w'.os = K.w0.os ∧ w'.tape = K.w0.tape ∧ w'.output = K.w0.output ∧ K.w0.heap.size ≤ w'.heap.size ∧ (∀ k, K.D k → w'.heap[k]? = K.w0.heap[k]?) ∧ BkP w' K.rb (rArr K stv slv flv r) 83 ∧ BkP w' K.mb (mArr K.p K.n K.today steps K.cev K.pav 0 0) 75 ∧ CeR w' K.cev r.ce := by
  have no : ∀ k, k < K.B → some k ≠ x := fun k hk e => by have := hx k e.symm; omega
  refine ⟨g.os.trans h.os, g.tape.trans h.tape, g.output.trans h.out, Nat.le_trans h.sz g.size, fun k hk => (g.block k (Nat.lt_of_lt_of_le (h.dl k hk) h.sz) (fun e => hd k e.symm hk)).trans (h.fr k hk), h.rb.grown g n1, h.mb.grown g (no _ h.mB), ?_⟩
  rcases h.ce with q | q
  · exact .inl q
  · exact .inr (q.blk (fun y hy => g.block y (q.own y hy).2 (no y (h.cB y hy))))
theorem bk_block {w : World} {b c : Nat} {k : Nat} {v : Value} (hbc : b ≠ c) : (w.setCell ⟨c, k, none⟩ v).heap[b]? = w.heap[b]? := by
  simp only [World.setCell, Array.getElem?_modify, if_neg (Ne.symm hbc)]
theorem set_size (w : World) (a : Addr) (v : Value) : (w.setCell a v).heap.size = w.heap.size := by simp [World.setCell]
/-- A field of the run is set; its rows stay. -/
theorem RO.field {K : Kx} {w : World} {stv slv flv : Value} {steps : Int} {r : Rn} (h : RO K w stv slv flv steps r) (j : Nat) (v : Value) (hj : j < 8) {r' : Rn} (e : (rArr K stv slv flv r).set! j v = rArr K stv slv flv r') (e1 : r'.st = r.st) (e2 : r'.sl = r.sl) (e3 : r'.ce = r.ce) (e4 : r'.fl = r.fl) : RO K (w.setCell ⟨K.rb, j, none⟩ v) stv slv flv steps r' := by
  have x1 := h.rb.set2 j v (by simpa [rArr] using hj)
  rw [e] at x1
  have rw_ : ∀ {t : TypeId} {k : Nat} {u : Value} {n : Nat} {xs : List Value} {C : Nat}, w.ownsRow C t k u n xs → t ≠ 83 → (w.setCell ⟨K.rb, j, none⟩ v).ownsRow C t k u n xs := fun q ht => own_blkG q (fun g hg => bk_block (fun z => own_neB q h.rb ht (by rw [hg, z])))
  refine ⟨h.os, h.tape, h.out, by rw [set_size]; exact h.sz, fun k hk => (bk_block (fun z => h.dr (by rw [← z]; exact hk))).trans (h.fr k hk), x1, h.rB, h.mb.other _ _ _ (by have := h.mB; have := h.rB; omega), h.mB, by rw [e1]; exact rw_ h.st (by decide), by rw [e2]; exact rw_ h.sl (by decide), by rw [e4]; exact rw_ h.fl (by decide), h.ap, ?_, h.cB, by rw [e1]; exact h.r1, by rw [e2]; exact h.r2, by rw [e3]; exact h.r3, h.dl, h.dr, h.dm, h.dc, h.d1, h.d2, h.d3⟩
  rw [e3]
  rcases h.ce with q | q
  · exact .inl q
  · exact .inr (rw_ q (by decide))
/-- Its stack is another row. -/
theorem RO.stack {K : Kx} {w : World} {stv slv flv : Value} {steps : Int} {r : Rn} (h : RO K w stv slv flv steps r) {w' : World} {x : Option Nat} (g : w.grownBy w' x) (hx : x = none ∨ x = stv.ownBlock) {sv : Value} {l : List Int} (hs : OwZ w' K.B sv l.reverse) (hb : sv.ownBlock = none ∨ sv.ownBlock = stv.ownBlock ∨ (∃ H, w.heap.size ≤ H ∧ sv.ownBlock = some H)) (hr : ∀ x ∈ l, inR x) : RO K (w'.setCell ⟨K.rb, 5, none⟩ sv) sv slv flv steps { r with st := l } := by
  have hB : ∀ k, x = some k → K.B ≤ k := fun k e => by
    rcases hx with q | q
    · rw [q] at e; cases e
    · rw [q] at e; exact (h.st.own k e).1
  have nr : some K.rb ≠ x := fun e => by
    rcases hx with q | q
    · rw [q] at e; cases e
    · rw [q] at e; exact own_neB h.st h.rb (by decide) e.symm
  have hD : ∀ k, x = some k → ¬ K.D k := fun k e => by
    rcases hx with q | q
    · rw [q] at e; cases e
    · rw [q] at e; exact h.d1 k e
  obtain ⟨g1, g2, g3, g4, g5, g6, g7, g8⟩ := h.grow g hB hD nr
  have ns : slv.ownBlock = none ∨ slv.ownBlock ≠ x := by
    rcases hx with q | q
    · rw [q]
      cases e : slv.ownBlock with
      | none => exact .inl rfl
      | some _ => exact .inr (by simp)
    · rw [q]
      rcases h.ap with z | z
      · rw [z]
        cases e : slv.ownBlock with
        | none => exact .inl rfl
        | some _ => exact .inr (by simp)
      · exact .inr (Ne.symm z)
  have nf : flv.ownBlock = none ∨ flv.ownBlock ≠ x := by
    rcases hx with q | q
    · rw [q]
      cases e : flv.ownBlock with
      | none => exact .inl rfl
      | some _ => exact .inr (by simp)
    · rw [q]; exact own_neO h.fl h.st (by decide)
  have s2 : OwZ w' K.B slv r.sl := h.sl.grown g ns
  have f2 : OwF w' K.B flv r.fl := World.ownsRow.kept h.fl g nf
  have x1 := g6.set2 5 sv (by simp [rArr])
  have rw_ : ∀ {t : TypeId} {k : Nat} {u : Value} {n : Nat} {xs : List Value} {C : Nat}, w'.ownsRow C t k u n xs → t ≠ 83 → (w'.setCell ⟨K.rb, 5, none⟩ sv).ownsRow C t k u n xs := fun q ht => own_blkG q (fun g hg => bk_block (fun z => own_neB q g6 ht (by rw [hg, z])))
  refine ⟨g1, g2, g3, by rw [set_size]; exact g4, fun k hk => (bk_block (fun z => h.dr (by rw [← z]; exact hk))).trans (g5 k hk), ?_, h.rB, g7.other _ _ _ (by have := h.mB; have := h.rB; omega), h.mB, rw_ hs (by decide), rw_ s2 (by decide), rw_ f2 (by decide), ?_, ?_, h.cB, hr, h.r2, h.r3, h.dl, h.dr, h.dm, h.dc, ?_, h.d2, h.d3⟩
  · simpa [rArr] using x1
  · rcases hb with q | q | ⟨H, q1, q2⟩
    · exact .inl q
    · rw [q]; exact h.ap
    · right
      rw [q2]
      intro e
      have := (h.sl.own H e.symm).2
      omega
  · rcases g8 with q | q
    · exact .inl q
    · exact .inr (rw_ q (by decide))
  · intro y hy hd
    rcases hb with q | q | ⟨H, q1, q2⟩
    · rw [q] at hy; cases hy
    · rw [q] at hy; exact h.d1 y hy hd
    · rw [q2] at hy
      injection hy with hy
      have := h.dl y hd
      have := h.sz
      omega
theorem run_cells {K : Kx} {w : World} {stv slv flv : Value} {steps : Int} {r : Rn} (h : RO K w stv slv flv steps r) : w.cell? ⟨K.rb, 0, none⟩ = some (.pointer (some ⟨K.mb, 0, none⟩)) ∧ w.cell? ⟨K.rb, 1, none⟩ = some K.codev ∧ w.cell? ⟨K.rb, 2, none⟩ = some (.int .i64 (r.nx : Int)) ∧ w.cell? ⟨K.rb, 3, none⟩ = some (.bool r.en) ∧ w.cell? ⟨K.rb, 4, none⟩ = some K.rowv ∧ w.cell? ⟨K.rb, 5, none⟩ = some stv ∧ w.cell? ⟨K.rb, 6, none⟩ = some slv ∧ w.cell? ⟨K.rb, 7, none⟩ = some flv := box_all8 h.rb
end Go.Proofs.YtpfjnnkjoabgbaaGreatDoor
