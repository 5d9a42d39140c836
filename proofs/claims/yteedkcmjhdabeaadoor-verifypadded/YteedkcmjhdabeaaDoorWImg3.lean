/-
  WALK: Equal of the program (made by gen_wimg3.py).
-/
import Derived.Test.YteedkcmjhdabeaaDoorWImg2
namespace Go.Proofs.YteedkcmjhdabeaaDoor
open Go.RowKit
set_option linter.unusedVariables false
set_option linter.unusedSimpArgs false
/-- What a program says, without where it lies. -/
def Pg.key (p : Pg) : List ByteArray × List ByteArray × List Int × Int × Int × Int × Int × List (Int × List In) := (p.names, p.curs, p.pool, p.hor, p.cells, p.slots, p.stack, p.days.map Sg.key)
noncomputable instance (p q : Pg) : Decidable (p.key = q.key) := Classical.propDecidable _
theorem key_eq {p q : Pg} (e0 : p.names = q.names) (e1 : p.curs = q.curs) (e2 : p.pool = q.pool) (e3 : p.hor = q.hor) (e4 : p.cells = q.cells) (e5 : p.slots = q.slots) (e6 : p.stack = q.stack) (e7 : p.days.map Sg.key = q.days.map Sg.key) : p.key = q.key := by
  unfold Pg.key; rw [e0, e1, e2, e3, e4, e5, e6, e7]
theorem key_of {p q : Pg} (h : p.key = q.key) : p.names = q.names ∧ p.curs = q.curs ∧ p.pool = q.pool ∧ p.hor = q.hor ∧ p.cells = q.cells ∧ p.slots = q.slots ∧ p.stack = q.stack ∧ p.days.map Sg.key = q.days.map Sg.key := by
  unfold Pg.key at h
  simp only [Prod.mk.injEq] at h
  exact h
def Pg.agg (p : Pg) : Value := .agg #[.slice p.na p.names.length p.nc, .slice p.ua p.curs.length p.uc, .slice p.pa p.pool.length p.pc, .int .i64 p.hor, .int .i64 p.cells, .int .i64 p.slots, .int .i64 p.stack, .slice p.da p.days.length p.dc]
def Pg.box (p : Pg) : Obj := .cells #[.slice p.na p.names.length p.nc, .slice p.ua p.curs.length p.uc, .slice p.pa p.pool.length p.pc, .int .i64 p.hor, .int .i64 p.cells, .int .i64 p.slots, .int .i64 p.stack, .slice p.da p.days.length p.dc] 26
end Go.Proofs.YteedkcmjhdabeaaDoor
