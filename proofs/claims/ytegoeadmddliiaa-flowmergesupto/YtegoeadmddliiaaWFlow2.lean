/-
  WALKS: Compare of flows, the program's and the document's.
-/
import Derived.Test.YtegoeadmddliiaaWFlow1
import Derived.Deep.RegionHeld3
namespace Go.Proofs.Ytegoeadmddliiaa
open Go.RowKit
set_option linter.unusedVariables false
set_option linter.unusedSimpArgs false

def sLt (x y : ByteArray) : Bool := Op.bytesLess x.toList y.toList
def sEq (x y : ByteArray) : Bool := x.toList == y.toList
def cmpI (x y : Int) : Int := if x < y then -1 else if y < x then 1 else 0
def cmpS (x y : ByteArray) : Int := if sLt x y then -1 else if sLt x y || sEq x y then 0 else 1
def orI (a b c : Int) : Int := if a ≠ 0 then a else if b ≠ 0 then b else c
def cmpF (f g : Fl) : Int := orI (cmpI f.d g.d) (cmpS f.c g.c) (cmpI f.a g.a)

theorem isNaN_int (x : Int) (w : World) : Calls Try.prog 14 #[.int .i64 x] w fun e w' => e = .returned (.bool false) ∧ w' = w := by
  go_enter Try.func14, Try.ntmps14
  go_wp2
  go_ret
  exact ⟨rfl, rfl⟩
set_option maxHeartbeats 1000000 in
theorem compare_int (x y : Int) (w : World) : Calls Try.prog 13 #[.int .i64 x, .int .i64 y] w fun e w' => e = .returned (.int .i64 (cmpI x y)) ∧ w' = w := by
  unfold cmpI
  go_enter Try.func13, Try.ntmps13
  go_wp2_with (go_at_call 14; refine (isNaN_int _ _).mono ?_; rintro e w' ⟨rfl, rfl⟩)
  all_goals go_ret
  all_goals refine ⟨ret_i ?_, rfl⟩
  all_goals (simp_all; try omega)
theorem gtrS (t : TypeId) (x y : ByteArray) : binOp .gtr t (.string x) (.string y) = pure (.bool (!(Op.bytesLess x.toList y.toList || (x.toList == y.toList)))) := by simp [binOp, Op.stringOp]
set_option maxHeartbeats 1000000 in
theorem byDay_any (d a d' a' : Int) (c c' : ByteArray) (w : World) :
    Calls Try.prog 11 #[.agg #[.int .i64 d, .string c, .int .i64 a], .agg #[.int .i64 d', .string c', .int .i64 a']] w fun e w' => e = .returned (.int .i64 (cmpI d d')) ∧ w' = (w.alloc (.cells #[.int .i64 d, .string c, .int .i64 a] 36)).alloc (.cells #[.int .i64 d', .string c', .int .i64 a'] 36) := by
  generalize hc : cmpI d d' = C
  go_enter Try.func11, Try.ntmps11
  go_wp2_with (go_at_call 13; refine (compare_int _ _ _).mono ?_; rintro e w' ⟨rfl, rfl⟩; rw [hc])
  all_goals go_ret
  all_goals exact ⟨rfl, rfl⟩

theorem box3 {w w' : World} {B : Nat} (h : Below B w w') (k : Nat) (hk : k < B) (i : Nat) {v : Value} (hv : w.cell? ⟨k, i, none⟩ = some v) : w'.cell? ⟨k, i, none⟩ = some v := (h.cell (p := ⟨k, i, none⟩) hk).trans hv

end Go.Proofs.Ytegoeadmddliiaa
