/-
  WALKS: lists that are compared (made by gen_wimg1.py).
-/
import Derived.Test.YtnebopckldmmkaaDoorRows
import Derived.Test.YtnebopckldmmkaaDoorOpenP
import Derived.WalkKit
import Derived.WalkSpells
import Derived.BigCall
import Derived.BigGuard
import Derived.BigQuiet
import Derived.Deep.QuietTactic
import Derived.Lib.Hide
import Derived.Lib.Strings
import Derived.Deep.RegionHeld3
namespace Go.Proofs.YtnebopckldmmkaaDoor
open Go.RowKit
set_option linter.unusedVariables false
set_option linter.unusedSimpArgs false

theorem list_eqP {α : Type} {d : α} {xs ys : List α} (h : xs.length = ys.length) (e : ∀ i, i < xs.length → xs.getD i d = ys.getD i d) : xs = ys := by
  apply List.ext_getElem h
  intro i h1 h2
  have := e i h1
  simpa [List.getD, h1, h2] using this
theorem retBP {b c : Bool} (h : b = c) : Ending.returned (.bool b) = Ending.returned (.bool c) := by rw [h]
theorem toList_oneP {x y : ByteArray} (h : x.toList = y.toList) : x = y := by
  rw [Lib.toList_data, Lib.toList_data] at h
  obtain ⟨⟨x⟩⟩ := x; obtain ⟨⟨y⟩⟩ := y
  simp at h; rw [h]
theorem str_neP {x y : ByteArray} (h : x ≠ y) : (x.toList == y.toList) = false := by
  rw [beq_eq_false_iff_ne]
  exact fun e => h (toList_oneP e)
theorem Row.twoP {w : World} {a a' : Option Addr} {n k : Nat} {V V' : Nat → List Value} (h : Row w a n k V) (h' : Row w a' n k V') : 0 < n → ∃ x o y p, a = some ⟨x, o, none⟩ ∧ a' = some ⟨y, p, none⟩ ∧ ∀ i, i < n → ∀ j, j < k → w.cell? ⟨x, o + i * k + j, none⟩ = some ((V i).getD j default) ∧ w.cell? ⟨y, p + i * k + j, none⟩ = some ((V' i).getD j default) := by
  intro h0
  rcases h with h | ⟨x, o, e, _, hc⟩
  · omega
  rcases h' with h' | ⟨y, p, e', _, hc'⟩
  · omega
  exact ⟨x, o, y, p, e, e', fun i hi j hj => ⟨hc i hi j hj, hc' i hi j hj⟩⟩
set_option maxRecDepth 100000 in
set_option maxHeartbeats 1000000 in
theorem sameTexts12_any {w : World} {a a' : Option Addr} {n c n' c' : Nat} {ss ts : List ByteArray} (h : SR w a n c ss) (h' : SR w a' n' c' ts) :
    Calls Tryd.prog 23 #[.slice a n c, .slice a' n' c'] w fun e w' => e = .returned (.bool (decide (ss = ts))) ∧ ∃ q, w' = w.drewN q := by
  obtain ⟨_, l1, b1, _, r1⟩ := h
  obtain ⟨_, l2, b2, _, r2⟩ := h'
  by_cases hn : n = n'
  · subst hn
    have HA := Lib.hid (r1.twoP r2)
    have L1 := Lib.hid l1
    have L2 := Lib.hid l2
    clear l1 l2 r1 r2
    go_enter Tryd.func23, Tryd.ntmps23
    go_wp2
    go_loopw [5] (fun t wr => ∃ k : Nat, k ≤ n ∧ t = .int .i64 k ∧ RowKit.Hid (∀ i, i < k → ss.getD i default = ts.getD i default) ∧ ∃ q, wr = w.drewN q) (fun t _ => n - (intOf t).toNat)
    case atStart => exact ⟨0, by omega, rfl, fun i hi => absurd hi (by omega), 0, rfl⟩
    case round =>
      obtain ⟨k, hk, rfl, hE, q, rfl⟩ := hrel
      by_cases hlt : k < n
      · obtain ⟨x, o, y, p, rfl, rfl, hc⟩ := HA.out (by omega)
        obtain ⟨c0, d0⟩ := hc k hlt 0 (by omega)
        simp only [Nat.mul_one, Nat.add_zero, List.getD_cons_zero] at c0 d0
        have kc : (k : Int) < (n : Int) := by omega
        clear hc
        by_cases e : ss.getD k default = ts.getD k default
        · have NX := Lib.hid (p := ∀ i, i < k + 1 → ss.getD i default = ts.getD i default) (fun i hi => by
            rcases (show i < k ∨ i = k by omega) with r | r
            · exact hE.out i r
            · rw [r]; exact e)
          rw [e] at c0
          generalize ts.getD k default = z at *
          clear e
          go_wp2
          go_quiet (fail)
          go_wp2
          go_roundw
          case rel => exact ⟨k + 1, by omega, by go_num, NX.out, _, by first | rfl | exact World.drewN_drewN _ _ _⟩
          case measure => simp [intOf]; omega
        · have R := Lib.hid (p := decide (ss = ts) = false) (decide_eq_false (fun q => e (by rw [q])))
          have e' := str_neP e
          generalize ss.getD k default = y0 at *
          generalize ts.getD k default = z0 at *
          go_wp2
          go_quiet (fail)
          go_wp2
          go_ret
          exact ⟨retBP R.out.symm, _, by first | rfl | exact World.drewN_drewN _ _ _⟩
      · obtain rfl : k = n := by omega
        have R := Lib.hid (p := decide (ss = ts) = true) (decide_eq_true (list_eqP (by rw [L1.out, L2.out]) (fun i hi => hE.out i (by rw [L1.out] at hi; exact hi))))
        go_wp2
        go_ret
        exact ⟨retBP R.out.symm, _, rfl⟩
  · have R := Lib.hid (p := decide (ss = ts) = false) (decide_eq_false (fun q => hn (by rw [← l1, ← l2, q])))
    have hn' : ((n : Int) == (n' : Int)) = false := by simp; omega
    have hn2 : ((n : Int) != (n' : Int)) = true := by simp; omega
    go_enter Tryd.func23, Tryd.ntmps23
    go_wp2
    go_ret
    exact ⟨retBP R.out.symm, 0, rfl⟩
end Go.Proofs.YtnebopckldmmkaaDoor
