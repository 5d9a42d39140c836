/-
  THE PADDED PROGRAM IN MEMORY.
-/
import Derived.Test.YteedkcmjhdabeaaDoorWPad2
namespace Go.Proofs.YteedkcmjhdabeaaDoor
open Go.RowKit
set_option linter.unusedVariables false
set_option linter.unusedSimpArgs false
/-- The padded program. -/
def padP (p : Pg) (d g cap g2 cap2 : Nat) : Pg := { p with stack := max p.stack 1, da := some ⟨g, 0, none⟩, dc := cap, days := p.days.set d ⟨(p.days.getD d default).day, some ⟨g2, 0, none⟩, cap2, padC (p.days.getD d default).code⟩ }
theorem padP_rel (p : Pg) {d : Nat} (hd : d < p.days.length) (g cap g2 cap2 : Nat) : PadR d p.days (padP p d g cap g2 cap2).days := by
  have at_ : ∀ j, (p.days.set d ⟨(p.days.getD d default).day, some ⟨g2, 0, none⟩, cap2, padC (p.days.getD d default).code⟩).getD j default = if j = d then ⟨(p.days.getD d default).day, some ⟨g2, 0, none⟩, cap2, padC (p.days.getD d default).code⟩ else p.days.getD j default := by
    intro j
    simp only [List.getD, List.getElem?_set]
    by_cases e : j = d
    · subst e
      rw [if_pos rfl, if_pos rfl, if_pos hd]
      rfl
    · rw [if_neg (Ne.symm e), if_neg e]
  refine ⟨by simp [padP], hd, fun j => ?_, fun j hj => ?_, ?_⟩
  · simp only [padP]
    rw [at_]
    split
    · rename_i e; rw [e]
    · rfl
  · simp only [padP]
    rw [at_, if_neg hj]
  · simp only [padP]
    rw [at_, if_pos rfl]
theorem i64_smP {n : Int} (h0 : 0 ≤ n) (h1 : n ≤ 1000) : i64 n := by
  unfold i64
  simp [Lit.wf, IntKind.min, IntKind.max, IntKind.signed, IntKind.bits]
  omega
theorem max_i64 {n : Int} (h : i64 n) : i64 (max n 1) := by
  by_cases e : n ≤ 1
  · rw [show max n 1 = 1 by omega]; exact i64_smP (by omega) (by omega)
  · rw [show max n 1 = n by omega]; exact h
theorem pad_mem {w V : World} {p : Pg} {d xb qb g cap g2 cap2 : Nat} {st fu ba : Int} (hp : PV w p) (hd : d < p.days.length) (hn : 2 ≤ (p.days.getD d default).code.length) (hn2 : (p.days.getD d default).code.length ≤ 262144)
    (h : PdR w V p p.days.length xb qb g cap st fu ba (.slice p.na p.names.length p.nc) (.slice p.ua p.curs.length p.uc) (.slice p.pa p.pool.length p.pc))
    (o : V.ownsRow w.heap.size 38 3 (.slice (some ⟨g2, 0, none⟩) ((p.days.getD d default).code.length + 2) cap2) ((p.days.getD d default).code.length + 2) (flatV ((p.days.getD d default).code.length + 2) (inW (padC (p.days.getD d default).code)))) :
    V.cell? ⟨g, d * 2 + 1, none⟩ = some (.slice (p.days.getD d default).ca (p.days.getD d default).code.length (p.days.getD d default).cc) ∧ V.frozen? ⟨g, d * 2 + 1, none⟩ = false ∧
    PV (V.setCell ⟨g, d * 2 + 1, none⟩ (.slice (some ⟨g2, 0, none⟩) ((p.days.getD d default).code.length + 2) cap2)) (padP p d g cap g2 cap2) ∧
    BkP (V.setCell ⟨g, d * 2 + 1, none⟩ (.slice (some ⟨g2, 0, none⟩) ((p.days.getD d default).code.length + 2) cap2)) qb (padP p d g cap g2 cap2).arr 26 ∧
    BkP (V.setCell ⟨g, d * 2 + 1, none⟩ (.slice (some ⟨g2, 0, none⟩) ((p.days.getD d default).code.length + 2) cap2)) xb #[.int .i64 st, .int .i64 fu, .int .i64 ba] 29 ∧
    Below w.heap.size w (V.setCell ⟨g, d * 2 + 1, none⟩ (.slice (some ⟨g2, 0, none⟩) ((p.days.getD d default).code.length + 2) cap2)) := by
  obtain ⟨⟨cur, k1, k2⟩, b1, b2, b3, b4, b5⟩ := own_row (by omega) (fun i _ => sgV_len p.days i) h.ro
  obtain ⟨⟨cur2, j1, j2⟩, e1, e2, e3, e4, e5⟩ := own_row (by omega) (fun i _ => inW_len _ i) o
  have gg : g ≠ g2 := bk_ne k1 j1 (by decide)
  have be : Below w.heap.size w (V.setCell ⟨g, d * 2 + 1, none⟩ (.slice (some ⟨g2, 0, none⟩) ((p.days.getD d default).code.length + 2) cap2)) := h.be.setCell (p := ⟨g, d * 2 + 1, none⟩) b1 _
  have ks := k1.set2 (d * 2 + 1) (.slice (some ⟨g2, 0, none⟩) ((p.days.getD d default).code.length + 2) cap2) (by omega)
  have c1 := b5 d hd 1 (by omega)
  rw [Nat.zero_add] at c1
  have jc : ∀ i, i < (p.days.getD d default).code.length + 2 → ∀ j, j < 3 → (V.setCell ⟨g, d * 2 + 1, none⟩ (.slice (some ⟨g2, 0, none⟩) ((p.days.getD d default).code.length + 2) cap2)).cell? ⟨g2, 0 + i * 3 + j, none⟩ = some ((inW (padC (p.days.getD d default).code) i).getD j default) := fun i hi j hj => by
    rw [(j1.other g (d * 2 + 1) _ gg).cell, ← j1.cell]
    exact e5 i hi j hj
  have pl := padC_len (p.days.getD d default).code (by omega)
  have gv := hp.days.2.2.2.1 _ (show p.days.getD d default ∈ p.days by simp [List.getD, hd])
  refine ⟨c1, k1.frozen _, ?_, ?_, ?_, be⟩
  · refine ⟨hp.names.later be, hp.curs.later be, hp.pool.later be, hp.hor, hp.cells, hp.slots, max_i64 hp.stack, ?_⟩
    show GL _ (some ⟨g, 0, none⟩) (p.days.set d _).length cap (p.days.set d _)
    rw [List.length_set]
    refine ⟨⟨(fun z => by cases z), b3, b4⟩, by rw [List.length_set], hp.days.2.2.1, ?_, ?_⟩
    · intro s hs
      rcases List.mem_or_eq_of_mem_set hs with q | q
      · exact (hp.days.2.2.2.1 s q).later be
      · subst q
        refine ⟨gv.1, ?_⟩
        show IR _ (some ⟨g2, 0, none⟩) (padC _).length cap2 (padC _)
        rw [pl]
        refine ⟨⟨(fun z => by cases z), e3, e4⟩, pl, by omega, ?_, .inr ⟨g2, 0, rfl, Nat.lt_of_lt_of_le e2 (by rw [show (V.setCell ⟨g, d * 2 + 1, none⟩ (.slice (some ⟨g2, 0, none⟩) ((p.days.getD d default).code.length + 2) cap2)).heap.size = V.heap.size by simp [World.setCell]]; exact Nat.le_refl _), jc⟩⟩
        intro i hi
        unfold padC at hi
        rcases List.mem_append.1 hi with q | q
        · exact gv.2.2.2.2.1 i (List.mem_of_mem_take q)
        · simp only [List.mem_cons, List.not_mem_nil, or_false] at q
          rcases q with rfl | rfl | rfl <;> exact ⟨i64_smP (by decide) (by decide), i64_smP (by decide) (by decide), i64_smP (by decide) (by decide)⟩
    · refine .inr ⟨g, 0, rfl, Nat.lt_of_lt_of_le b2 (by simp [World.setCell]), fun i hi j hj => ?_⟩
      rw [Nat.zero_add, ks.cell, Array.set!_eq_setIfInBounds, Array.getElem?_setIfInBounds]
      dsimp only
      have b := b5 i hi j hj
      rw [Nat.zero_add, k1.cell] at b
      by_cases e : i = d
      · subst e
        have gd : (p.days.set i ⟨(p.days.getD i default).day, some ⟨g2, 0, none⟩, cap2, padC (p.days.getD i default).code⟩).getD i default = ⟨(p.days.getD i default).day, some ⟨g2, 0, none⟩, cap2, padC (p.days.getD i default).code⟩ := by simp [List.getD, hi]
        rw [gd]
        rcases (show j = 0 ∨ j = 1 by omega) with rfl | rfl
        · rw [if_neg (by omega), b]
          rfl
        · rw [if_pos rfl, if_pos (by omega)]
          show some (Value.slice (some ⟨g2, 0, none⟩) _ cap2) = some (Value.slice (some ⟨g2, 0, none⟩) (padC _).length cap2)
          rw [pl]
      · have gd : (p.days.set d ⟨(p.days.getD d default).day, some ⟨g2, 0, none⟩, cap2, padC (p.days.getD d default).code⟩).getD i default = p.days.getD i default := by
          simp only [List.getD, List.getElem?_set]
          rw [if_neg (Ne.symm e)]
        rw [gd, if_neg (by omega), b]
        rfl
  · have q := h.qx.other g (d * 2 + 1) (.slice (some ⟨g2, 0, none⟩) ((p.days.getD d default).code.length + 2) cap2) (bk_ne k1 h.qx (by decide))
    have e : (padP p d g cap g2 cap2).arr = #[.slice p.na p.names.length p.nc, .slice p.ua p.curs.length p.uc, .slice p.pa p.pool.length p.pc, .int .i64 p.hor, .int .i64 p.cells, .int .i64 p.slots, .int .i64 (max p.stack 1), .slice (some ⟨g, 0, none⟩) p.days.length cap] := by simp [Pg.arr, padP]
    rw [e]
    exact q
  · exact h.pr.other g _ _ (bk_ne k1 h.pr (by decide))
end Go.Proofs.YteedkcmjhdabeaaDoor
