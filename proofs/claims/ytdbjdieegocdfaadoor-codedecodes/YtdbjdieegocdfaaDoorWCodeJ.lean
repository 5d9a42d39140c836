/-
  THE STATEMENTS CodeBack, CodeOnly.
-/
import Derived.Test.YtdbjdieegocdfaaDoorWCodeI
namespace Go.Proofs.YtdbjdieegocdfaaDoor
open Go.RowKit
set_option linter.unusedVariables false
set_option linter.unusedSimpArgs false

theorem LI.upTo {w : World} {a : Option Addr} {n : Nat} {l : List In} (h : LI w a n l) (m : Nat) (hm : m ≤ n) : LI w a m (l.take m) := by
  obtain ⟨h1, h2, h3⟩ := h
  refine ⟨by simp; omega, by omega, ?_⟩
  rcases h3 with h3 | ⟨b, o, rfl, hb, hc⟩
  · left; omega
  · refine .inr ⟨b, o, rfl, hb, fun i hi => ?_⟩
    have e : (l.take m).getD i default = l.getD i default := by simp [List.getD, hi]
    rw [e]
    exact hc i (by omega)
theorem own_litB (w : World) : Own (w.alloc (.cells #[] 5)) w.heap.size (.slice (some ⟨w.heap.size, 0, none⟩) 0 0) 0 [] :=
  ⟨rfl, .inr ⟨w.heap.size, 0, #[], rfl, Nat.le_refl _, heap_new w _, Nat.le_refl _, by unfold maxLen; omega, rfl, rfl⟩⟩
theorem own_litZ (w : World) : OwI (w.alloc (.cells #[] 24)) w.heap.size (.slice (some ⟨w.heap.size, 0, none⟩) 0 0) [] := own_litI w w.heap.size (Nat.le_refl _) [] (by simp) _ rfl
theorem fewer_at {L : List In} {N1 : Nat} (h : ∀ i ∈ L, i.okP) (hN : L.length = N1 + 1) : decs N1 (encs L) = ([], 46, (encs (L.take N1)).length) := by
  have e : L = L.take N1 ++ [L.getD N1 default] := by rw [← take_snoc (by omega), List.take_of_length_le (by omega)]
  have hl : (L.take N1).length = N1 := by simp; omega
  have := decs_fewer (l := L.take N1) (i := L.getD N1 default) (fun j hj => h j (List.mem_of_mem_take hj)) (h _ (getD_mem (by omega)))
  rw [← e, hl] at this
  exact this
end Go.Proofs.YtdbjdieegocdfaaDoor
