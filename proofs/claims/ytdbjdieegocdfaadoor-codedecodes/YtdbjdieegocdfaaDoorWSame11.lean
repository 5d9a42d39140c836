/-
  WALK: sameBytes of the law.
-/
import Derived.Test.YtdbjdieegocdfaaDoorWCode9
namespace Go.Proofs.YtdbjdieegocdfaaDoor
open Go.RowKit
set_option linter.unusedVariables false
set_option linter.unusedSimpArgs false

set_option maxRecDepth 100000 in
set_option maxHeartbeats 2000000 in
theorem same11_any (a a' : Option Addr) (n n' c c' : Nat) (xs ys : List Int) (w : World) (h : BL w a n xs) (h' : BL w a' n' ys) :
    Calls Tryd.prog 7 #[.slice a n c, .slice a' n' c'] w fun e w' => e = .returned (.bool (decide (xs = ys))) ∧ ∃ q, w' = w.drewN q := by
  obtain ⟨h1, h2, h3, h4⟩ := h
  obtain ⟨k1, k2, k3, k4⟩ := h'
  by_cases hn : n = n'
  · subst hn
    have HA := Lib.hid (p := 0 < n → ∃ b o, a = some ⟨b, o, none⟩ ∧ ∀ i, i < n → w.cell? ⟨b, o + i, none⟩ = some (.int .u8 (xs.getD i 0))) (fun h0 => by
      rcases h4 with h4 | ⟨b, o, e, _, hc⟩
      · omega
      · exact ⟨b, o, e, hc⟩)
    have KA := Lib.hid (p := 0 < n → ∃ b o, a' = some ⟨b, o, none⟩ ∧ ∀ i, i < n → w.cell? ⟨b, o + i, none⟩ = some (.int .u8 (ys.getD i 0))) (fun h0 => by
      rcases k4 with h4 | ⟨b, o, e, _, hc⟩
      · omega
      · exact ⟨b, o, e, hc⟩)
    have L1 := Lib.hid h1
    have L2 := Lib.hid k1
    clear h1 h3 h4 k1 k3 k4
    go_enter Tryd.func7, Tryd.ntmps7
    go_wp2
    go_loopw [5] (fun t wr => ∃ k : Nat, k ≤ n ∧ t = .int .i64 (k : Int) ∧ RowKit.Hid (∀ i, i < k → xs.getD i 0 = ys.getD i 0) ∧ ∃ q, wr = w.drewN q) (fun t _ => n - (intOf t).toNat)
    case atStart => exact ⟨0, by omega, rfl, fun i hi => absurd hi (by omega), 0, rfl⟩
    case round =>
      obtain ⟨k, hk, rfl, hE, q, rfl⟩ := hrel
      by_cases hlt : k < n
      · obtain ⟨b, o, rfl, hc⟩ := HA.out (by omega)
        obtain ⟨b', o', rfl, hc'⟩ := KA.out (by omega)
        have d1 : w.cell? ⟨b, o + k, none⟩ = some (.int .u8 (xs.getD k 0)) := hc k hlt
        have d2 : w.cell? ⟨b', o' + k, none⟩ = some (.int .u8 (ys.getD k 0)) := hc' k hlt
        have kc : (k : Int) < (n : Int) := by omega
        clear hc hc'
        by_cases e : xs.getD k 0 = ys.getD k 0
        · have NX := Lib.hid (p := ∀ i, i < k + 1 → xs.getD i 0 = ys.getD i 0) (fun i hi => by
            rcases (show i < k ∨ i = k by omega) with r | r
            · exact hE.out i r
            · rw [r]; exact e)
          rw [e] at d1
          generalize ys.getD k 0 = z at *
          clear e
          go_wp2
          go_quiet (fail)
          go_wp2
          go_roundw
          case rel => exact ⟨k + 1, by omega, by go_num, NX.out, _, rfl⟩
          case measure => simp [intOf]; omega
        · have R := Lib.hid (p := decide (xs = ys) = false) (decide_eq_false (fun q => e (by rw [q])))
          have e' : (xs.getD k 0 == ys.getD k 0) = false := by simpa using e
          have e'' : (xs.getD k 0 != ys.getD k 0) = true := by simpa using e
          generalize xs.getD k 0 = y at *
          generalize ys.getD k 0 = z at *
          go_wp2
          go_quiet (fail)
          go_wp2
          go_ret
          exact ⟨ret_b R.out.symm, _, by first | rfl | exact World.drewN_drewN _ _ _⟩
      · obtain rfl : k = n := by omega
        have R := Lib.hid (p := decide (xs = ys) = true) (decide_eq_true (list_eq_of (by rw [L1.out, L2.out]) (fun i hi => hE.out i (by rw [L1.out] at hi; exact hi))))
        go_wp2
        go_ret
        exact ⟨ret_b R.out.symm, _, rfl⟩
  · have R := Lib.hid (p := decide (xs = ys) = false) (decide_eq_false (fun q => hn (by rw [← h1, ← k1, q])))
    have hn' : ((n : Int) == (n' : Int)) = false := by simp; omega
    have hn2 : ((n : Int) != (n' : Int)) = true := by simp; omega
    go_enter Tryd.func7, Tryd.ntmps7
    go_wp2
    go_ret
    exact ⟨ret_b R.out.symm, 0, rfl⟩
end Go.Proofs.YtdbjdieegocdfaaDoor
