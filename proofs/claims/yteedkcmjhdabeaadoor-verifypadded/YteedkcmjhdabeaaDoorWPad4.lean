/-
  VerifyPadded, the program verifies.
-/
import Derived.Test.YteedkcmjhdabeaaDoorWPad3
namespace Go.Proofs.YteedkcmjhdabeaaDoor
open Go.RowKit
set_option linter.unusedVariables false
set_option linter.unusedSimpArgs false
theorem bel_cellP {w V : World} (b : Below w.heap.size w V) {a : Addr} {v : Value} (h : w.cell? a = some v) : V.cell? a = some v := (b.cell (World.block_lt_of_cell? w a h)).trans h
/-- Behind the copy of the days. -/
theorem pd_start {w w2 w9 : World} {p : Pg} {N g cap : Nat} {st fu ba : Int} (hN : p.days.length = N)
    (pb : BkP (w2.alloc (.cells #[.int .i64 st, .int .i64 fu, .int .i64 ba] 29)) w.heap.size p.arr 26)
    (b2 : Below w.heap.size w (w2.alloc (.cells #[.int .i64 st, .int .i64 fu, .int .i64 ba] 29))) (l2 : w.heap.size ≤ w2.heap.size) {W8 : World}
    (h8 : (w2.alloc (.cells #[.int .i64 st, .int .i64 fu, .int .i64 ba] 29)).alloc (.cells #[.slice p.na p.names.length p.nc, .slice p.ua p.curs.length p.uc, .slice p.pa p.pool.length p.pc, .int .i64 p.hor, .int .i64 p.cells, .int .i64 p.slots, .int .i64 (max p.stack 1), .slice p.da N p.dc] 26) = W8)
    (o : w9.ownsRow w.heap.size 36 2 (.slice (some ⟨g, 0, none⟩) N cap) N (flatV N (sgV p.days))) (gr : (W8.alloc (.cells #[] 36)).grownBy w9 (some W8.heap.size)) :
    w9.cell? ⟨w2.heap.size + 1, 7, none⟩ = some (.slice p.da N p.dc) ∧ w9.frozen? ⟨w2.heap.size + 1, 7, none⟩ = false ∧ PdR w (w9.setCell ⟨w2.heap.size + 1, 7, none⟩ (.slice (some ⟨g, 0, none⟩) N cap)) p N w2.heap.size (w2.heap.size + 1) g cap st fu ba (.slice p.na p.names.length p.nc) (.slice p.ua p.curs.length p.uc) (.slice p.pa p.pool.length p.pc) := by
  subst h8
  have s1 : (w2.alloc (.cells #[.int .i64 st, .int .i64 fu, .int .i64 ba] 29)).heap.size = w2.heap.size + 1 := by simp
  have k0 := heapN (w2.alloc (.cells #[.int .i64 st, .int .i64 fu, .int .i64 ba] 29)) (.cells #[.slice p.na p.names.length p.nc, .slice p.ua p.curs.length p.uc, .slice p.pa p.pool.length p.pc, .int .i64 p.hor, .int .i64 p.cells, .int .i64 p.slots, .int .i64 (max p.stack 1), .slice p.da N p.dc] 26)
  rw [s1] at k0
  generalize hW : (w2.alloc (.cells #[.int .i64 st, .int .i64 fu, .int .i64 ba] 29)).alloc (.cells #[.slice p.na p.names.length p.nc, .slice p.ua p.curs.length p.uc, .slice p.pa p.pool.length p.pc, .int .i64 p.hor, .int .i64 p.cells, .int .i64 p.slots, .int .i64 (max p.stack 1), .slice p.da N p.dc] 26 : Obj) = W8 at *
  have q8 : BkP W8 (w2.heap.size + 1) #[.slice p.na p.names.length p.nc, .slice p.ua p.curs.length p.uc, .slice p.pa p.pool.length p.pc, .int .i64 p.hor, .int .i64 p.cells, .int .i64 p.slots, .int .i64 (max p.stack 1), .slice p.da N p.dc] 26 := k0
  have p8 : BkP W8 w.heap.size p.arr 26 := by rw [← hW]; exact pb.lat (allocBP _ _)
  have x8 : BkP W8 w2.heap.size #[.int .i64 st, .int .i64 fu, .int .i64 ba] 29 := by rw [← hW]; exact BkP.lat (heapN _ _) (allocBP _ _)
  have b8 : Below w.heap.size w W8 := by rw [← hW]; exact b2.alloc b2.size _
  have ne : ∀ {b cs t}, BkP W8 b cs t → some b ≠ some W8.heap.size := fun k e => by injection e with e; have := k.lt; omega
  have q9 := (q8.lat (allocBP W8 (.cells #[] 36))).grown gr (ne q8)
  have p9 := (p8.lat (allocBP W8 (.cells #[] 36))).grown gr (ne p8)
  have x9 := (x8.lat (allocBP W8 (.cells #[] 36))).grown gr (ne x8)
  have b9 : Below w.heap.size w w9 := (b8.alloc b8.size _).grown gr (b8.alloc b8.size _).size (fun k e => by injection e with e; have := b8.size; omega)
  have pq : w2.heap.size + 1 ≠ w.heap.size := by omega
  have s7 := q9.set2 7 (.slice (some ⟨g, 0, none⟩) N cap) (by simp)
  refine ⟨by rw [q9.cell]; rfl, q9.frozen 7, ⟨p9.other _ _ _ pq, x9.other _ _ _ (by omega), by simpa using s7, own_blkG o (fun y hy => ?_), b9.setCell (p := ⟨w2.heap.size + 1, 7, none⟩) (by show w.heap.size ≤ w2.heap.size + 1; omega) _, by omega⟩⟩
  have no : y ≠ w2.heap.size + 1 := fun e => own_neB o q9 (by decide) (by rw [hy, e])
  simp only [World.setCell, Array.getElem?_modify, if_neg (Ne.symm no)]
end Go.Proofs.YteedkcmjhdabeaaDoor
