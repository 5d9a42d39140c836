/-
  WALKS: isStained, slices.IndexFunc and slices.ContainsFunc over cells.
-/
import Derived.Test.YthkeoeobpdminaaDoorWTNames
namespace Go.Proofs.YthkeoeobpdminaaDoor
open Go.RowKit
set_option linter.unusedVariables false
set_option linter.unusedSimpArgs false

def stB (c : Cl) : Bool := !c.h && decide (c.v ≠ 0)
theorem isStained_any (h : Bool) (v : Int) (w : World) : Calls Tryd.prog 23 #[.agg #[.bool h, .int .i64 v]] w fun e w' => e = .returned (.bool (stB ⟨h, v⟩)) ∧ Below w.heap.size w w' := by
  cases h with
  | true =>
    go_enter Tryd.func23, Tryd.ntmps23
    go_wp2
    go_ret
    exact ⟨rfl, (Below.refl _ _).alloc (Nat.le_refl _) _⟩
  | false =>
    by_cases hv : v = 0
    · subst hv
      go_enter Tryd.func23, Tryd.ntmps23
      go_wp2
      go_ret
      exact ⟨rfl, (Below.refl _ _).alloc (Nat.le_refl _) _⟩
    · have e : stB ⟨false, v⟩ = true := by simp [stB, hv]
      rw [e]
      have hv2 : (v != 0) = true := by simpa using hv
      go_enter Tryd.func23, Tryd.ntmps23
      go_wp2
      go_ret
      exact ⟨retT_bool (by first | rfl | simp [hv]), (Below.refl _ _).alloc (Nat.le_refl _) _⟩

set_option maxHeartbeats 2000000 in
theorem indexFunc_any (a : Option Addr) (n cap : Nat) (cs : List Cl) (w : World) (h : RC w a n cs) :
    Calls Tryd.prog 43 #[.slice a n cap, .func (.func 23) #[] #[]] w fun e w' => ∃ r : Int, e = .returned (.int .i64 r) ∧ decide (0 ≤ r) = cs.any stB ∧ Below w.heap.size w w' := by
  obtain ⟨hl, hn, hw, h3⟩ := h
  have HA := Lib.hid (p := 0 < n → ∃ x o, a = some ⟨x, o, none⟩ ∧ x < w.heap.size ∧ ∀ i, i < n → CC w x (o + i * 2) (cs.getD i default)) (fun h0 => by
    rcases h3 with h3 | ⟨x, o, e1, hx, h3⟩
    · omega
    · exact ⟨x, o, e1, hx, h3⟩)
  obtain ⟨B, hB⟩ : ∃ B, cs.any stB = B := ⟨_, rfl⟩
  have YES := Lib.hid (p := ∀ k, k < n → stB (cs.getD k default) = true → decide ((0 : Int) ≤ (k : Int)) = B) (fun k hk g => by
    have hk' : k < cs.length := by omega
    rw [show cs.getD k default = cs[k] by simp [List.getD, hk']] at g
    rw [decide_eq_true (by omega), ← hB, eq_comm, List.any_eq_true]
    exact ⟨_, List.getElem_mem hk', g⟩)
  have NO := Lib.hid (p := (∀ k, k < n → stB (cs.getD k default) = false) → decide ((0 : Int) ≤ -1) = B) (fun g => by
    rw [← hB, eq_comm]
    show cs.any stB = false
    rw [List.any_eq_false]
    intro x hx
    obtain ⟨k, hk', rfl⟩ := List.getElem_of_mem hx
    have := g k (by omega)
    rw [show cs.getD k default = cs[k] by simp [List.getD, hk']] at this
    rw [this]; simp)
  rw [hB]
  clear h3 hl hw hB
  go_enter Tryd.func43, Tryd.ntmps43
  go_wp2
  go_loopw [8] (fun t wr => ∃ k : Nat, k ≤ n ∧ t = .int .i64 k ∧ RowKit.Hid (∀ j, j < k → stB (cs.getD j default) = false) ∧ Below w.heap.size w wr) (fun t _ => n - (intOf t).toNat)
  case atStart => exact ⟨0, by omega, rfl, fun j hj => absurd hj (by omega), Below.refl _ _⟩
  case round =>
    obtain ⟨k, hk, rfl, hN, hB⟩ := hrel
    have BB := Lib.hid hB
    by_cases hlt : k < n
    · obtain ⟨x, o, rfl, hx, hc⟩ := HA.out (by omega)
      obtain ⟨c0, c1⟩ := (hc k hlt).later hB hx
      have kc : (k : Int) < (n : Int) := by omega
      have YK := Lib.hid (YES.out k hlt)
      have NX := Lib.hid (p := stB (cs.getD k default) = false → ∀ j, j < k + 1 → stB (cs.getD j default) = false) (fun g j hj => by
        rcases (show j < k ∨ j = k by omega) with q | q
        · exact hN.out j q
        · rw [q]; exact g)
      clear hc hB
      generalize cs.getD k default = f at *
      obtain ⟨fh, fv⟩ := f
      simp only at c0 c1
      have K := Lib.hid (isStained_any fh fv wr)
      cases c : stB ⟨fh, fv⟩ with
      | false =>
        have Y := Lib.hid (NX.out c)
        rw [c] at K
        go_wp2_with (go_at_call 23; refine K.out.mono ?_; rintro e w' ⟨rfl, h1⟩; have B1 := Lib.hid (BB.out.trans (h1.mono BB.out.size)); clear h1)
        go_roundw
        case rel => exact ⟨k + 1, by omega, by go_num, Y.out, B1.out⟩
        case measure => simp [intOf]; omega
      | true =>
        have Y := Lib.hid (YK.out c)
        rw [c] at K
        go_wp2_with (go_at_call 23; refine K.out.mono ?_; rintro e w' ⟨rfl, h1⟩; have B1 := Lib.hid (BB.out.trans (h1.mono BB.out.size)); clear h1)
        go_ret
        exact ⟨_, rfl, Y.out, B1.out⟩
    · obtain rfl : k = n := by omega
      have Y := Lib.hid (NO.out hN.out)
      clear hB
      go_wp2
      go_ret
      exact ⟨_, rfl, Y.out, BB.out⟩

theorem containsFunc_any (a : Option Addr) (n cap : Nat) (cs : List Cl) (w : World) (h : RC w a n cs) :
    Calls Tryd.prog 22 #[.slice a n cap, .func (.func 23) #[] #[]] w fun e w' => e = .returned (.bool (cs.any stB)) ∧ Below w.heap.size w w' := by
  have K := Lib.hid (indexFunc_any a n cap cs w h)
  clear h
  go_enter Tryd.func22, Tryd.ntmps22
  go_wp2_with (go_at_call 43; refine K.out.mono ?_; rintro e w' ⟨r, rfl, hr, h1⟩; have HR := Lib.hid hr; have B1 := Lib.hid h1; clear hr h1)
  go_ret
  exact ⟨retT_bool HR.out, B1.out⟩
end Go.Proofs.YthkeoeobpdminaaDoor
