/-
  WALKS: Zigzag, AppendUint, AppendInt, AppendText (the document's).
-/
import Derived.Test.YtdbjdieegocdfaaDoorWRefOct
import Derived.Lib.ConvBytes
namespace Go.Proofs.YtdbjdieegocdfaaDoor
open Go.RowKit
set_option linter.unusedVariables false
set_option linter.unusedSimpArgs false

theorem own_low {w : World} {B B' : Nat} {v : Value} {n : Nat} {xs : List Int} (h : Own w B v n xs) (hB : B' ≤ B) : Own w B' v n xs := by
  obtain ⟨o1, o2⟩ := h
  refine ⟨o1, ?_⟩
  rcases o2 with o2 | ⟨g, c, cur, q1, q2, q3⟩
  · exact .inl o2
  · exact .inr ⟨g, c, cur, q1, Nat.le_trans hB q2, q3⟩
theorem conv_sl (W : World) (s : ByteArray) (hs : s.size ≤ 140737488355328) : Sl (Lib.bytesWorld W 5 s) (some ⟨W.heap.size, 0, none⟩) s.size (grownCap W s.size 0 5) (sb s) := by
  refine ⟨⟨sb_len s, hs, sb_byte s, .inr ⟨W.heap.size, 0, rfl, by rw [Lib.bytesWorld_size]; omega, fun i hi => ?_⟩⟩, (fun e => by cases e), grownCap_ge _ _ _ _⟩
  rw [Nat.zero_add, Lib.bytesWorld_cell W 5 s i hi]
  have : i < s.data.toList.length := by rw [Array.length_toList]; exact hi
  simp [sb, List.getD, this]
  simp_all
theorem conv_below (W : World) (s : ByteArray) : Below W.heap.size W (Lib.bytesWorld W 5 s) := ⟨rfl, rfl, rfl, by rw [Lib.bytesWorld_size]; omega, fun k hk => Lib.bytesWorld_at_old W _ s k hk⟩
end Go.Proofs.YtdbjdieegocdfaaDoor
