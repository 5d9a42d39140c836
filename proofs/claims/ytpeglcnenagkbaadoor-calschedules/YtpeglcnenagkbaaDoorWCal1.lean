/-
  WALKS: the calendar's small functions (cal): isLeap, leapsUpTo, yearStart, monthLength, inCalendar.
-/
import Derived.Test.YtpeglcnenagkbaaDoorRows
import Derived.WalkKit
import Derived.WalkSpells
import Derived.Below
import Derived.BigCall
import Derived.BigGuard
import Derived.BigQuiet
import Derived.Deep.QuietTactic
import Derived.Lib.LaidTab
import Derived.Test.YtpeglcnenagkbaaDoorPlainCal
namespace Go.Proofs.YtpeglcnenagkbaaDoor
open Go.RowKit
open Cal
set_option linter.unusedVariables false
set_option linter.unusedSimpArgs false

def monTab : List Int := [31, 28, 31, 30, 31, 30, 31, 31, 30, 31, 30, 31]
/-- The table of the months' lengths, where the world holds it. -/
def Mon (w : World) : Prop := 1 < w.heap.size ∧ ∀ k : Nat, k < 12 → w.cell? ⟨1, k, none⟩ = some (.int .i64 (monTab.getD k 0))
theorem mon_below {w w' : World} {n : Nat} (hn : w.heap.size ≤ n) (b : Below n w w') (h : Mon w) : Mon w' :=
  ⟨Nat.lt_of_lt_of_le h.1 b.size, fun k hk => by rw [b.cell (p := ⟨1, k, none⟩) (Nat.lt_of_lt_of_le h.1 hn)]; exact h.2 k hk⟩
theorem mon_alloc {w : World} {c} (h : Mon w) : Mon (w.alloc c) := mon_below (Nat.le_refl _) ((Below.refl _ _).alloc (Nat.le_refl _) _) h
theorem below_dr {B : Nat} {a w : World} (h : Below B a w) (n : Nat) : Below B a (w.drewN n) := ⟨h.os, h.tape, h.output, h.size, h.block⟩
theorem bcell {W w1 : World} (hb : Below W.heap.size W w1) : (∀ b o, b < W.heap.size → w1.cell? ⟨b, o, none⟩ = W.cell? ⟨b, o, none⟩) ∧ (∀ b o, b < W.heap.size → w1.frozen? ⟨b, o, none⟩ = W.frozen? ⟨b, o, none⟩) :=
  ⟨fun b o h => hb.cell (p := ⟨b, o, none⟩) h, fun b o h => hb.frozen (p := ⟨b, o, none⟩) h⟩
theorem mon_drew {w : World} {n : Nat} (h : Mon w) : Mon (w.drewN n) := by
  refine ⟨by simpa using h.1, fun k hk => ?_⟩
  have := h.2 k hk
  simpa using this
theorem cellLt {w : World} {a : Addr} {v : Value} (h : w.cell? a = some v) : a.block < w.heap.size := by
  unfold World.cell? at h
  by_cases g : a.block < w.heap.size
  · exact g
  · rw [Array.getElem?_eq_none (by omega)] at h
    simp at h
theorem mon_of_tab {w : World} (h : Lib.TabIs Tryd.prog w "payoff/cal.monthDays" .i64 monTab) : Mon w := by
  have hg : Tryd.prog.globalNamed "payoff/cal.monthDays" = some 1 := by kernel_rfl
  have hc := fun k (hk : k < 12) => h.cell hg k (show k < monTab.length from hk)
  exact ⟨cellLt (hc 0 (by omega)), hc⟩

theorem ret_int {k : IntKind} {a b : Int} (h : a = b) : Ending.returned (.int k a) = .returned (.int k b) := by rw [h]
theorem ret_bool {a b : Bool} (h : a = b) : Ending.returned (.bool a) = .returned (.bool b) := by rw [h]

def lpB (y : Int) : Bool := decide (lp y = 1)
theorem lp_of_true {y : Int} (h : lpB y = true) : lp y = 1 := of_decide_eq_true h
theorem lp_of_false {y : Int} (h : lpB y = false) : lp y = 0 := by have := of_decide_eq_false h; have := lp_01 y; omega
theorem mon_len (y m : Int) (k : Nat) (hk : m = k + 1) (h : k < 12) (hf : m = 2 → lp y = 0) : monTab.getD k 0 = len y m := by
  have hm : k = 0 ∨ k = 1 ∨ k = 2 ∨ k = 3 ∨ k = 4 ∨ k = 5 ∨ k = 6 ∨ k = 7 ∨ k = 8 ∨ k = 9 ∨ k = 10 ∨ k = 11 := by omega
  subst hk
  rcases hm with rfl | rfl | rfl | rfl | rfl | rfl | rfl | rfl | rfl | rfl | rfl | rfl <;> first | rfl | (have := hf rfl; simp [monTab, len, this])

theorem isLeap_any (y : Int) (w : World) (h0 : 0 ≤ y) (h1 : y ≤ 100000) :
    Calls Tryd.prog 62 #[.int .i64 y] w fun e w' => e = .returned (.bool (lpB y)) ∧ w' = w := by
  by_cases a : y % 4 = 0 <;> by_cases b : y % 100 = 0 <;> by_cases c : y % 400 = 0
  all_goals first
    | (exfalso; omega)
    | skip
  all_goals
    have e : lpB y = (decide (y % 4 = 0) && (!decide (y % 100 = 0) || decide (y % 400 = 0))) := by simp [lpB, lp, a, b, c]
    simp only [a, b, c] at e
    simp at e
    go_enter Tryd.func62, Tryd.ntmps62
    go_wp2
    go_ret
    exact ⟨ret_bool (by first | exact e.symm | rfl | simp [e, a, b, c]), rfl⟩

theorem leapsUpTo_any (y : Int) (w : World) (h0 : 0 ≤ y) (h1 : y ≤ 100000) :
    Calls Tryd.prog 63 #[.int .i64 y] w fun e w' => e = .returned (.int .i64 (y / 4 - y / 100 + y / 400)) ∧ w' = w := by
  go_enter Tryd.func63, Tryd.ntmps63
  go_wp2
  go_ret
  exact ⟨rfl, rfl⟩


theorem yearStart_any (y : Int) (w : World) (h0 : 1 ≤ y) (h1 : y ≤ 100000) :
    Calls Tryd.prog 53 #[.int .i64 y] w fun e w' => e = .returned (.int .i64 (ys y)) ∧ w' = w := by
  go_enter Tryd.func53, Tryd.ntmps53
  go_wp2_with (go_at_call 63; refine (leapsUpTo_any _ _ (by omega) (by omega)).mono ?_; rintro e w' ⟨rfl, rfl⟩)
  go_ret
  exact ⟨ret_int (by unfold ys; omega), rfl⟩

theorem monthLength_any (y m : Int) (w : World) (hM : Mon w) (h0 : 0 ≤ y) (h1 : y ≤ 100000) (h2 : 1 ≤ m) (h3 : m ≤ 12) :
    Calls Tryd.prog 52 #[.int .i64 y, .int .i64 m] w fun e w' => e = .returned (.int .i64 (len y m)) ∧ w' = w := by
  obtain ⟨k, hk⟩ : ∃ k : Nat, m = k + 1 := ⟨(m - 1).toNat, by omega⟩
  have hk12 : k < 12 := by omega
  have hc := hM.2 k hk12
  clear hM
  by_cases a : m = 2
  · cases b : lpB y with
    | true =>
      have L : len y m = 29 := by have := lp_of_true b; simp [len, a, this]
      rw [L]; clear L hc hk12 hk
      subst a
      go_enter Tryd.func52, Tryd.ntmps52
      go_wp2_with (go_at_call 62; refine (isLeap_any _ _ (by omega) (by omega)).mono ?_; rintro e w' ⟨rfl, rfl⟩; rw [b])
      go_ret
      exact ⟨rfl, rfl⟩
    | false =>
      have L := mon_len y m k hk hk12 (fun _ => lp_of_false b)
      rw [← L]; clear L
      obtain rfl : k = 1 := by omega
      subst a
      clear hk
      go_enter Tryd.func52, Tryd.ntmps52
      go_wp2_with (go_at_call 62; refine (isLeap_any _ _ (by omega) (by omega)).mono ?_; rintro e w' ⟨rfl, rfl⟩; rw [b])
      go_ret
      exact ⟨rfl, rfl⟩
  · have L := mon_len y m k hk hk12 (fun h => absurd h a)
    rw [← L]; clear L
    subst hk
    go_enter Tryd.func52, Tryd.ntmps52
    go_wp2
    go_ret
    exact ⟨rfl, rfl⟩

def inC (n : Int) : Bool := decide (0 ≤ n ∧ n < 109573)
theorem inCalendar_any (n : Int) (w : World) :
    Calls Tryd.prog 28 #[.int .i64 n] w fun e w' => e = .returned (.bool (inC n)) ∧ w' = w := by
  by_cases a : 0 ≤ n <;> by_cases b : n < 109573
  all_goals
    have e : inC n = (decide (0 ≤ n) && decide (n < 109573)) := by simp [inC, a, b]
    simp only [a, b] at e
    simp at e
    go_enter Tryd.func28, Tryd.ntmps28
    go_wp2
    go_ret
    exact ⟨ret_bool (by first | exact e.symm | rfl | simp [e, a, b]), rfl⟩
end Go.Proofs.YtpeglcnenagkbaaDoor
