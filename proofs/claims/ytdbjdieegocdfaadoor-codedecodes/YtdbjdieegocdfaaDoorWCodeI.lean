/-
  WALK: sameCode.
-/
import Derived.Test.YtdbjdieegocdfaaDoorWCodeH
namespace Go.Proofs.YtdbjdieegocdfaaDoor
open Go.RowKit
set_option linter.unusedVariables false
set_option linter.unusedSimpArgs false

theorem in_list_eq {xs ys : List In} (hl : xs.length = ys.length) (h : ∀ i, i < xs.length → xs.getD i default = ys.getD i default) : xs = ys := by
  apply List.ext_getElem hl
  intro i h1 h2
  have := h i h1
  simpa [List.getD, h1, h2] using this
set_option maxRecDepth 100000 in
set_option maxHeartbeats 2000000 in
theorem sameCode_any (a a' : Option Addr) (n n' c c' : Nat) (xs ys : List In) (w : World) (h : LI w a n xs) (h' : LI w a' n' ys) :
    Calls Tryd.prog 8 #[.slice a n c, .slice a' n' c'] w fun e w' => e = .returned (.bool (decide (xs = ys))) ∧ ∃ q, w' = w.drewN q := by
  obtain ⟨h1, h2, h4⟩ := h
  obtain ⟨k1, k2, k4⟩ := h'
  by_cases hn : n = n'
  · subst hn
    have HA := Lib.hid (p := 0 < n → ∃ b o, a = some ⟨b, o, none⟩ ∧ ∀ i, i < n → NC w b (o + i * 3) (xs.getD i default)) (fun h0 => by
      rcases h4 with h4 | ⟨b, o, e, _, hc⟩
      · omega
      · exact ⟨b, o, e, hc⟩)
    have KA := Lib.hid (p := 0 < n → ∃ b o, a' = some ⟨b, o, none⟩ ∧ ∀ i, i < n → NC w b (o + i * 3) (ys.getD i default)) (fun h0 => by
      rcases k4 with h4 | ⟨b, o, e, _, hc⟩
      · omega
      · exact ⟨b, o, e, hc⟩)
    have L1 := Lib.hid h1
    have L2 := Lib.hid k1
    clear h1 h4 k1 k4
    go_enter Tryd.func8, Tryd.ntmps8
    go_wp2
    go_loopw [5] (fun t wr => ∃ k : Nat, k ≤ n ∧ t = .int .i64 (k : Int) ∧ RowKit.Hid (∀ i, i < k → xs.getD i default = ys.getD i default) ∧ ∃ q, wr = w.drewN q) (fun t _ => n - (intOf t).toNat)
    case atStart => exact ⟨0, by omega, rfl, fun i hi => absurd hi (by omega), 0, rfl⟩
    case round =>
      obtain ⟨k, hk, rfl, hE, q, rfl⟩ := hrel
      by_cases hlt : k < n
      · obtain ⟨b, o, rfl, hc⟩ := HA.out (by omega)
        obtain ⟨b', o', rfl, hc'⟩ := KA.out (by omega)
        obtain ⟨d0, d1, d2⟩ := hc k hlt
        obtain ⟨e0, e1, e2⟩ := hc' k hlt
        have kc : (k : Int) < (n : Int) := by omega
        clear hc hc' HA KA
        by_cases e : xs.getD k default = ys.getD k default
        · have NX := Lib.hid (p := ∀ i, i < k + 1 → xs.getD i default = ys.getD i default) (fun i hi => by
            rcases (show i < k ∨ i = k by omega) with r | r
            · exact hE.out i r
            · rw [r]; exact e)
          rw [e] at d0 d1 d2
          generalize ys.getD k default = z at *
          obtain ⟨zo, za, zb⟩ := z
          simp only at d0 d1 d2 e0 e1 e2
          clear e
          go_wp2
          go_quiet (fail)
          go_wp2
          go_roundw
          case rel => exact ⟨k + 1, by omega, by go_num, NX.out, _, rfl⟩
          case measure => simp [intOf]; omega
        · have R := Lib.hid (p := decide (xs = ys) = false) (decide_eq_false (fun q => e (by rw [q])))
          generalize xs.getD k default = y at *
          generalize ys.getD k default = z at *
          obtain ⟨yo, ya, yb⟩ := y
          obtain ⟨zo, za, zb⟩ := z
          simp only at d0 d1 d2 e0 e1 e2
          have ne : yo ≠ zo ∨ ya ≠ za ∨ yb ≠ zb := by
            by_cases q0 : yo = zo
            · by_cases q1 : ya = za
              · by_cases q2 : yb = zb
                · exact absurd (by rw [q0, q1, q2]) e
                · exact .inr (.inr q2)
              · exact .inr (.inl q1)
            · exact .inl q0
          have b0 : ((yo == zo) && ((ya == za) && (yb == zb))) = false := by
            rcases ne with q | q | q <;> simp [q]
          cases x0 : (yo == zo) <;> cases x1 : (ya == za) <;> cases x2 : (yb == zb)
          all_goals
            first
              | (exfalso; rw [x0, x1, x2] at b0; simp at b0; done)
              | (clear ne e b0
                 go_wp2
                 go_quiet (fail)
                 go_wp2
                 go_ret
                 exact ⟨ret_b R.out.symm, _, by first | rfl | exact World.drewN_drewN _ _ _⟩)
      · obtain rfl : k = n := by omega
        have R := Lib.hid (p := decide (xs = ys) = true) (decide_eq_true (in_list_eq (by rw [L1.out, L2.out]) (fun i hi => hE.out i (by rw [L1.out] at hi; exact hi))))
        go_wp2
        go_ret
        exact ⟨ret_b R.out.symm, _, rfl⟩
  · have R := Lib.hid (p := decide (xs = ys) = false) (decide_eq_false (fun q => hn (by rw [← h1, ← k1, q])))
    have hn' : ((n : Int) == (n' : Int)) = false := by simp; omega
    have hn2 : ((n : Int) != (n' : Int)) = true := by simp; omega
    go_enter Tryd.func8, Tryd.ntmps8
    go_wp2
    go_ret
    exact ⟨ret_b R.out.symm, 0, rfl⟩
end Go.Proofs.YtdbjdieegocdfaaDoor
