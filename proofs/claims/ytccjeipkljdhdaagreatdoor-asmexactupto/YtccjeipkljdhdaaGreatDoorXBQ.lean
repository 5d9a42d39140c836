import Derived.Test.YtccjeipkljdhdaaGreatDoorXBH
import Derived.Test.YtccjeipkljdhdaaGreatDoorXBD
import Derived.Test.YtccjeipkljdhdaaGreatDoorXBP
namespace Go.Proofs.YtccjeipkljdhdaaGreatDoor
open Go.RowKit
set_option linter.unusedVariables false
set_option linter.unusedSimpArgs false
/-- The words of the roundings, where the document keeps them. -/
def RMd (w : World) : Prop := 1 < w.heap.size ∧ ∀ k, k < 5 → w.cell? ⟨1, k, none⟩ = some (.string (mdA k))
theorem RMd.later {w w' : World} (h : RMd w) (b : Below w.heap.size w w') : RMd w' := ⟨Nat.lt_of_lt_of_le h.1 b.size, fun k hk => (b.cell (p := ⟨1, k, none⟩) h.1).trans (h.2 k hk)⟩
theorem ref_at (k : Nat) (hk : k < 29) : ∃ ra rb t p, RefE (k : Int) (nmA k) ra rb t p 0 ∧ opsR ra rb 0 = (onA k : Int) := by
  have RE : RowE (k : Int) (nmA k) (onA k) (tkA k) (ptA k) (baA k) (bbA k) 0 := ⟨.inl ⟨k, hk, rfl, rfl, rfl, rfl, rfl, rfl, rfl, rfl⟩⟩
  obtain ⟨n', ra, rb, t', p', er', hF⟩ := ref_ex (k : Int)
  obtain ⟨rfl, rfl, rfl, rfl, ho⟩ := same_in RE hF
  exact ⟨ra, rb, _, _, hF, ho⟩
end Go.Proofs.YtccjeipkljdhdaaGreatDoor
