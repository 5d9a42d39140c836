import Derived.Test.YtpfjnnkjoabgbaaGreatDoorXBK
namespace Go.Proofs.YtpfjnnkjoabgbaaGreatDoor
set_option linter.unusedVariables false
set_option linter.unusedSimpArgs false
theorem runMs_fault {p : Pg} {back : Int} {a : Nat → List Cl} : ∀ d, (∀ k, k < d → ¬ (runMs p back a k p.born).1.over p.hor) → (runMs p back a d p.born).1.fault ≠ 0 → (runMs p back a d p.born).1.day = (d : Int) - 1
  | 0, _, z => by simp [runMs, Pg.born] at z
  | n + 1, h, z => by
    have no := h n (Nat.lt_succ_self n)
    have td := (runMs_today (a := a) (p := p) (back := back) n).2 no
    simp only [runMs] at z ⊢
    rw [if_neg no] at z ⊢
    have f0 : (runMs p back a n p.born).1.fault = 0 := Classical.byContradiction fun q => no (.inl q)
    simp only [dayMs] at z ⊢
    split at z
    · exact absurd f0 z
    · rename_i q
      rw [if_neg q, td]
      omega
theorem runMs_done {p : Pg} {back : Int} {a : Nat → List Cl} {d : Nat} (ov : (runMs p back a d p.born).1.over p.hor) (hd : (d : Int) ≤ p.hor + 1) (z : (runMs p back a d p.born).1.fault = 0) : (d : Int) = p.hor + 1 := by
  have td := (runMs_today (a := a) (p := p) (back := back) d).1
  unfold Ms.over at ov
  rcases ov with q | q
  · exact absurd z q
  · omega
theorem dayMs_over {p : Pg} {back : Int} {s : Ms} {row : List Cl} (no : ¬ s.over p.hor) : ((dayGo p s row).1 ≠ 0 → (dayMs p back s row).over p.hor) ∧ ((dayGo p s row).1 = 0 → s.today < p.hor → ¬ (dayMs p back s row).over p.hor) := by
  have f0 : s.fault = 0 := Classical.byContradiction fun q => no (.inl q)
  refine ⟨fun z => .inl ?_, fun z lt ov => ?_⟩
  · simp only [dayMs]; rw [if_neg z]; exact z
  · unfold Ms.over at ov
    simp only [dayMs] at ov
    rw [if_pos z] at ov
    rcases ov with q | q
    · exact q f0
    · omega
end Go.Proofs.YtpfjnnkjoabgbaaGreatDoor
