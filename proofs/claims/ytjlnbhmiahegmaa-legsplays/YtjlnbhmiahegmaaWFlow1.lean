/-
  WALKS: Valid and Compare of flows, the program's and the document's.
-/
import Derived.Test.YtjlnbhmiahegmaaRows
import Derived.Test.YtjlnbhmiahegmaaOpenFlow
import Derived.WalkKit
import Derived.WalkSpells
import Derived.Below
import Derived.BigCall
import Derived.BigGuard
import Derived.BigQuiet
import Derived.Deep.QuietTactic
import Derived.Lib.Hide
namespace Go.Proofs.Ytjlnbhmiahegmaa
open Go.RowKit
set_option linter.unusedVariables false
set_option linter.unusedSimpArgs false

def at8 (s : ByteArray) (i : Nat) : Int := if h : i < s.size then (s[i].toNat : Int) else 0
theorem at8_lt {s : ByteArray} {i : Nat} (h : i < s.size) : at8 s i = (s[i].toNat : Int) := by unfold at8; rw [dif_pos h]
def capB (c : Int) : Bool := decide (65 ≤ c ∧ c ≤ 90)
/-- A currency: three capitals. -/
def curB (s : ByteArray) : Bool := decide (s.size = 3) && (List.range 3).all fun i => capB (at8 s i)
theorem cur_true {s : ByteArray} (h : s.size = 3) (k : ∀ i, i < 3 → capB (at8 s i) = true) : curB s = true := by
  unfold curB; rw [decide_eq_true h, Bool.true_and, List.all_eq_true]; exact fun i hi => k i (List.mem_range.1 hi)
theorem cur_false {s : ByteArray} {i : Nat} (hi : i < 3) (k : capB (at8 s i) = false) : curB s = false := by
  unfold curB
  rw [Bool.and_eq_false_iff]; right
  rw [List.all_eq_false]
  exact ⟨i, List.mem_range.2 hi, by rw [k]; simp⟩
theorem cur_size {s : ByteArray} (h : s.size ≠ 3) : curB s = false := by
  unfold curB; rw [decide_eq_false h, Bool.false_and]
theorem cur_out {s : ByteArray} (h : curB s = true) : s.size = 3 ∧ ∀ i, i < 3 → capB (at8 s i) = true := by
  unfold curB at h
  rw [Bool.and_eq_true, List.all_eq_true] at h
  exact ⟨of_decide_eq_true h.1, fun i hi => h.2 i (List.mem_range.2 hi)⟩

theorem ret_b {a b : Bool} (h : a = b) : Ending.returned (.bool a) = .returned (.bool b) := by rw [h]
theorem ret_i {k : IntKind} {a b : Int} (h : a = b) : Ending.returned (.int k a) = .returned (.int k b) := by rw [h]

/-- What is wrong with a flow: 0, 1, 2. -/
def valI (f : Fl) : Int := if curB f.c = false then 1 else if f.d < 0 ∨ 1073741824 < f.d then 2 else 0

end Go.Proofs.Ytjlnbhmiahegmaa
