import Derived.Test.YtccjeipkljdhdaaGreatDoorXAO
import Derived.Test.YtccjeipkljdhdaaGreatDoorXAL
namespace Go.Proofs.YtccjeipkljdhdaaGreatDoor
open Go.RowKit
set_option linter.unusedVariables false
set_option linter.unusedSimpArgs false
/-- A row of counts that fills its block. -/
def RNo (W : World) (B g : Nat) (cs : List Int) : Prop := W.ownsRow B 3 1 (.slice (some ⟨g, 0, none⟩) cs.length cs.length) cs.length (intsP cs)
theorem RNo.at {W : World} {B g : Nat} {cs : List Int} (h : RNo W B g cs) (i : Nat) (hi : i < cs.length) : W.cell? ⟨g, i, none⟩ = some (.int .i64 (cs.getD i 0)) ∧ W.frozen? ⟨g, i, none⟩ = false := by
  refine ⟨own_cellsP h i _ ?_, World.ownsRow.frozenAt h i⟩
  have := intsP_at cs [] i hi
  simpa using this
theorem RNo.set {W : World} {B g : Nat} {cs : List Int} (h : RNo W B g cs) (i : Nat) (v : Int) : RNo (W.setCell ⟨g, i, none⟩ (.int .i64 v)) B g (cs.set i v) := by
  have := (World.ownsRow.stored h i (.int .i64 v)).1
  unfold RNo
  rw [List.length_set, show intsP (cs.set i v) = (intsP cs).set i (.int .i64 v) by simp [intsP, List.map_set]]
  exact this
theorem RNo.far {W W' : World} {B g : Nat} {cs : List Int} (h : RNo W B g cs) {x : Nat} (k : W.grownBy W' (some x)) (hx : x ≠ g) : RNo W' B g cs := row_farP h k (fun a q e e2 => by injection e with e; have e3 : g = q := Option.some.inj e2; omega)
theorem RNo.later {W W' : World} {B g : Nat} {cs : List Int} (h : RNo W B g cs) (k : Below W.heap.size W W') : RNo W' B g cs := row_farP h (gr_below k none) (fun a q e => by cases e)
/-- Counts and marks say the same. -/
def Rel (cs : List Int) (bs : List Bool) (M : Nat) : Prop := cs.length = bs.length ∧ ∀ j, j < cs.length → 0 ≤ cs.getD j 0 ∧ cs.getD j 0 ≤ M ∧ (cs.getD j 0 ≠ 0 ↔ bs.getD j false = true)
theorem Rel.set {cs : List Int} {bs : List Bool} {M : Nat} (h : Rel cs bs M) (i : Nat) (hi : i < cs.length) : Rel (cs.set i (cs.getD i 0 + 1)) (bs.set i true) (M + 1) := by
  refine ⟨by simp [h.1], fun j hj => ?_⟩
  rw [List.length_set] at hj
  have hj2 := h.2 j hj
  by_cases e : i = j
  · subst e
    have e1 : (cs.set i (cs.getD i 0 + 1)).getD i 0 = cs.getD i 0 + 1 := by simp [List.getD, hj]
    have e2 : (bs.set i true).getD i false = true := by simp [List.getD, show i < bs.length by rw [← h.1]; exact hj]
    rw [e1, e2]
    refine ⟨by omega, by omega, ⟨fun _ => rfl, fun _ => by omega⟩⟩
  · have e1 : (cs.set i (cs.getD i 0 + 1)).getD j 0 = cs.getD j 0 := by simp [List.getD, List.getElem?_set, e]
    have e2 : (bs.set i true).getD j false = bs.getD j false := by simp [List.getD, List.getElem?_set, e]
    rw [e1, e2]
    exact ⟨hj2.1, by omega, hj2.2.2⟩
theorem Rel.all {cs : List Int} {bs : List Bool} {M : Nat} (h : Rel cs bs M) : (∀ j, j < cs.length → cs.getD j 0 ≠ 0) ↔ bs.all id = true := by
  rw [List.all_eq_true]
  constructor
  · intro q b hb
    obtain ⟨i, hi, rfl⟩ := List.getElem_of_mem hb
    have := (h.2 i (by rw [h.1]; exact hi)).2.2.1 (q i (by rw [h.1]; exact hi))
    simpa [List.getD, hi] using this
  · intro q j hj
    refine (h.2 j hj).2.2.2 ?_
    have hb : j < bs.length := by rw [← h.1]; exact hj
    have := q bs[j] (List.getElem_mem hb)
    simpa [List.getD, hb] using this
end Go.Proofs.YtccjeipkljdhdaaGreatDoor

namespace Go.Proofs.YtccjeipkljdhdaaGreatDoor
open Go.RowKit
set_option linter.unusedVariables false
set_option linter.unusedSimpArgs false
/-- The counts, where they lie. -/
structure UCx (W : World) (p : Pg) (B ub gn gu gp : Nat) (cn cu cp : List Int) : Prop where
  box : BkP W ub #[.slice (some ⟨gn, 0, none⟩) p.names.length p.names.length, .slice (some ⟨gu, 0, none⟩) p.curs.length p.curs.length, .slice (some ⟨gp, 0, none⟩) p.pool.length p.pool.length] 109
  rn : RNo W B gn cn
  ru : RNo W B gu cu
  rp : RNo W B gp cp
  ln : cn.length = p.names.length
  lu : cu.length = p.curs.length
  lp : cp.length = p.pool.length
  ne : gn ≠ gu ∧ gn ≠ gp ∧ gu ≠ gp ∧ ub ≠ gn ∧ ub ≠ gu ∧ ub ≠ gp
  bb : B ≤ ub ∧ B ≤ gn ∧ B ≤ gu ∧ B ≤ gp
theorem UCx.later {W W' : World} {p : Pg} {B ub gn gu gp : Nat} {cn cu cp : List Int} (h : UCx W p B ub gn gu gp cn cu cp) (g : Below W.heap.size W W') : UCx W' p B ub gn gu gp cn cu cp :=
  ⟨h.box.laterP g, h.rn.later g, h.ru.later g, h.rp.later g, h.ln, h.lu, h.lp, h.ne, h.bb⟩
theorem UCx.setN {W : World} {p : Pg} {B ub gn gu gp : Nat} {cn cu cp : List Int} (h : UCx W p B ub gn gu gp cn cu cp) (i : Nat) (v : Int) : UCx (W.setCell ⟨gn, i, none⟩ (.int .i64 v)) p B ub gn gu gp (cn.set i v) cu cp :=
  ⟨box_set W gn i _ h.box h.ne.2.2.2.1, h.rn.set i v, h.ru.far (setCell_gr W gn i _) h.ne.1, h.rp.far (setCell_gr W gn i _) h.ne.2.1, by rw [List.length_set]; exact h.ln, h.lu, h.lp, h.ne, h.bb⟩
theorem UCx.setU {W : World} {p : Pg} {B ub gn gu gp : Nat} {cn cu cp : List Int} (h : UCx W p B ub gn gu gp cn cu cp) (i : Nat) (v : Int) : UCx (W.setCell ⟨gu, i, none⟩ (.int .i64 v)) p B ub gn gu gp cn (cu.set i v) cp :=
  ⟨box_set W gu i _ h.box h.ne.2.2.2.2.1, h.rn.far (setCell_gr W gu i _) (fun e => h.ne.1 e.symm), h.ru.set i v, h.rp.far (setCell_gr W gu i _) h.ne.2.2.1, h.ln, by rw [List.length_set]; exact h.lu, h.lp, h.ne, h.bb⟩
theorem UCx.setP {W : World} {p : Pg} {B ub gn gu gp : Nat} {cn cu cp : List Int} (h : UCx W p B ub gn gu gp cn cu cp) (i : Nat) (v : Int) : UCx (W.setCell ⟨gp, i, none⟩ (.int .i64 v)) p B ub gn gu gp cn cu (cp.set i v) :=
  ⟨box_set W gp i _ h.box h.ne.2.2.2.2.2, h.rn.far (setCell_gr W gp i _) (fun e => h.ne.2.1 e.symm), h.ru.far (setCell_gr W gp i _) (fun e => h.ne.2.2.1 e.symm), h.rp.set i v, h.ln, h.lu, by rw [List.length_set]; exact h.lp, h.ne, h.bb⟩
def UC (W : World) (p : Pg) (B ub gn gu gp : Nat) (bn bu bp : List Bool) (M : Nat) : Prop := ∃ cn cu cp, UCx W p B ub gn gu gp cn cu cp ∧ Rel cn bn M ∧ Rel cu bu M ∧ Rel cp bp M
theorem UC.later {W W' : World} {p : Pg} {B ub gn gu gp : Nat} {bn bu bp : List Bool} {M : Nat} (h : UC W p B ub gn gu gp bn bu bp M) (g : Below W.heap.size W W') : UC W' p B ub gn gu gp bn bu bp M := by
  obtain ⟨cn, cu, cp, h1, h2⟩ := h
  exact ⟨cn, cu, cp, h1.later g, h2⟩
/-- What is not a row of counts stays. -/
structure Fr (w W : World) (gn gu gp : Nat) : Prop where
  sz : w.heap.size ≤ W.heap.size
  blk : ∀ b, b < w.heap.size → b ≠ gn → b ≠ gu → b ≠ gp → W.heap[b]? = w.heap[b]?
theorem Fr.later {w W W' : World} {gn gu gp : Nat} (h : Fr w W gn gu gp) (g : Below W.heap.size W W') : Fr w W' gn gu gp :=
  ⟨Nat.le_trans h.sz g.size, fun b hb n1 n2 n3 => (g.block b (Nat.lt_of_lt_of_le hb h.sz)).trans (h.blk b hb n1 n2 n3)⟩
theorem Fr.set {w W : World} {gn gu gp : Nat} (h : Fr w W gn gu gp) (g i : Nat) (v : Value) (hg : g = gn ∨ g = gu ∨ g = gp) : Fr w (W.setCell ⟨g, i, none⟩ v) gn gu gp := by
  have G := setCell_gr W g i v
  exact ⟨Nat.le_trans h.sz G.size, fun b hb n1 n2 n3 => (G.block b (Nat.lt_of_lt_of_le hb h.sz) (fun e => by injection e with e; rcases hg with r | r | r <;> omega)).trans (h.blk b hb n1 n2 n3)⟩
end Go.Proofs.YtccjeipkljdhdaaGreatDoor

namespace Go.Proofs.YtccjeipkljdhdaaGreatDoor
open Go.RowKit
set_option linter.unusedVariables false
set_option linter.unusedSimpArgs false
end Go.Proofs.YtccjeipkljdhdaaGreatDoor

namespace Go.Proofs.YtccjeipkljdhdaaGreatDoor
open Go.RowKit
set_option linter.unusedVariables false
set_option linter.unusedSimpArgs false
end Go.Proofs.YtccjeipkljdhdaaGreatDoor
