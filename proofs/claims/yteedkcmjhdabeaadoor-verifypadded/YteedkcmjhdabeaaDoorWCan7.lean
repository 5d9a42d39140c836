/-
  WALKS: what an instruction names: take, takeCode.
-/
import Derived.Test.YteedkcmjhdabeaaDoorWCan6
import Derived.Test.YteedkcmjhdabeaaDoorWCode4
namespace Go.Proofs.YteedkcmjhdabeaaDoor
open Go.RowKit
set_option linter.unusedVariables false
set_option linter.unusedSimpArgs false
/-- Is what an instruction names there? -/
def inB (p : Pg) (i : In) : Prop := (i.o = 1 → i.a < p.pool.length) ∧ (i.o = 3 → i.a < p.names.length) ∧ (i.o = 28 → i.a < p.curs.length) ∧ (i.o = 4 ∨ i.o = 5 → i.a < p.cells) ∧ (i.o = 6 ∨ i.o = 7 → i.a < p.slots)
def mkB (op : Int) (bs : List Bool) (i : In) : List Bool := if i.o = op then bs.set i.a.toNat true else bs
/-- The marks, where they lie. -/
structure US (W : World) (p : Pg) (B ub gn gu gp : Nat) (bn bu bp : List Bool) : Prop where
  box : BkP W ub #[.slice (some ⟨gn, 0, none⟩) bn.length bn.length, .slice (some ⟨gu, 0, none⟩) bu.length bu.length, .slice (some ⟨gp, 0, none⟩) bp.length bp.length, .int .i64 p.cells, .int .i64 p.slots] 101
  rn : RBo W B gn bn
  ru : RBo W B gu bu
  rp : RBo W B gp bp
  ln : bn.length = p.names.length
  lu : bu.length = p.curs.length
  lp : bp.length = p.pool.length
  ne : gn ≠ gu ∧ gn ≠ gp ∧ gu ≠ gp ∧ ub ≠ gn ∧ ub ≠ gu ∧ ub ≠ gp
  bb : B ≤ ub ∧ B ≤ gn ∧ B ≤ gu ∧ B ≤ gp
theorem US.later {W W' : World} {p : Pg} {B ub gn gu gp : Nat} {bn bu bp : List Bool} (h : US W p B ub gn gu gp bn bu bp) (g : Below W.heap.size W W') : US W' p B ub gn gu gp bn bu bp :=
  ⟨h.box.laterP g, h.rn.later g, h.ru.later g, h.rp.later g, h.ln, h.lu, h.lp, h.ne, h.bb⟩
theorem box_set (W : World) (g i : Nat) (v : Value) {b : Nat} {cs : Array Value} {t : TypeId} (h : BkP W b cs t) (hn : b ≠ g) : BkP (W.setCell ⟨g, i, none⟩ v) b cs t := h.other g i v (fun e => hn e.symm)
theorem US.setN {W : World} {p : Pg} {B ub gn gu gp : Nat} {bn bu bp : List Bool} (h : US W p B ub gn gu gp bn bu bp) (i : Nat) : US (W.setCell ⟨gn, i, none⟩ (.bool true)) p B ub gn gu gp (bn.set i true) bu bp :=
  ⟨by rw [List.length_set]; exact box_set W gn i _ h.box h.ne.2.2.2.1, h.rn.set i, h.ru.far (setCell_gr W gn i _) h.ne.1, h.rp.far (setCell_gr W gn i _) h.ne.2.1, by rw [List.length_set]; exact h.ln, h.lu, h.lp, h.ne, h.bb⟩
theorem US.setU {W : World} {p : Pg} {B ub gn gu gp : Nat} {bn bu bp : List Bool} (h : US W p B ub gn gu gp bn bu bp) (i : Nat) : US (W.setCell ⟨gu, i, none⟩ (.bool true)) p B ub gn gu gp bn (bu.set i true) bp :=
  ⟨by rw [List.length_set]; exact box_set W gu i _ h.box h.ne.2.2.2.2.1, h.rn.far (setCell_gr W gu i _) (fun e => h.ne.1 e.symm), h.ru.set i, h.rp.far (setCell_gr W gu i _) h.ne.2.2.1, h.ln, by rw [List.length_set]; exact h.lu, h.lp, h.ne, h.bb⟩
theorem US.setP {W : World} {p : Pg} {B ub gn gu gp : Nat} {bn bu bp : List Bool} (h : US W p B ub gn gu gp bn bu bp) (i : Nat) : US (W.setCell ⟨gp, i, none⟩ (.bool true)) p B ub gn gu gp bn bu (bp.set i true) :=
  ⟨by rw [List.length_set]; exact box_set W gp i _ h.box h.ne.2.2.2.2.2, h.rn.far (setCell_gr W gp i _) (fun e => h.ne.2.1 e.symm), h.ru.far (setCell_gr W gp i _) (fun e => h.ne.2.2.1 e.symm), h.rp.set i, h.ln, h.lu, by rw [List.length_set]; exact h.lp, h.ne, h.bb⟩
theorem box_all5P {w : World} {x : Nat} {a b c d e : Value} {t : TypeId} (k : w.heap[x]? = some (.cells #[a, b, c, d, e] t)) : w.cell? ⟨x, 0, none⟩ = some a ∧ w.cell? ⟨x, 1, none⟩ = some b ∧ w.cell? ⟨x, 2, none⟩ = some c ∧ w.cell? ⟨x, 3, none⟩ = some d ∧ w.cell? ⟨x, 4, none⟩ = some e := by
  refine ⟨?_, ?_, ?_, ?_, ?_⟩ <;> simp [World.cell?, k]
/-- What take leaves. -/
structure TkE (w : World) (p : Pg) (B ub gn gu gp : Nat) (bn bu bp : List Bool) (i : In) (e : Ending) (w' : World) : Prop where
  say : ∃ b, e = .returned (.bool b) ∧ (b = true ↔ inB p i) ∧ (b = true → US w' p B ub gn gu gp (mkB 3 bn i) (mkB 28 bu i) (mkB 1 bp i))
  bel : Below B w w'
end Go.Proofs.YteedkcmjhdabeaaDoor
