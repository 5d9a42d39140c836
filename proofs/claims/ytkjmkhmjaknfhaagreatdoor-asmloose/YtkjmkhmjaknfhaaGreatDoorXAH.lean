import Derived.Test.YtkjmkhmjaknfhaaGreatDoorXAF
import Derived.Test.YtkjmkhmjaknfhaaGreatDoorXAG
namespace Go.Proofs.YtkjmkhmjaknfhaaGreatDoor
open Go.RowKit
set_option linter.unusedVariables false
set_option linter.unusedSimpArgs false
theorem info8a : (Tryz.prog.info? 5).map (fun i => (i.zero, i.size, i.bytes)) = some (some (.int .u8 0), 1, 1) := by kernel_rfl
theorem conv_bytes13 {w : World} {B : Nat} {v : Value} {bs : List UInt8} (h : w.ownsRow B 5 1 v bs.length (Lib.byteCells bs)) (h0 : bs ≠ []) : ∃ g cap, v = .slice (some ⟨g, 0, none⟩) bs.length cap ∧ (convert 37 9 v).run Tryz.prog w = .ok (.string ⟨bs.toArray⟩) w := by
  have hh := h
  obtain ⟨h1, h2⟩ := h
  rcases h2 with ⟨h3, h2⟩ | ⟨g, cap, cur, rfl, hB, hg, hn, hm, hs, ht⟩
  · exact absurd (List.length_eq_zero_iff.1 h2) h0
  · refine ⟨g, cap, rfl, run_convert_bytes_back (P := Tryz.prog) w 37 9 5 ⟨g, 0, none⟩ cap bs (by kernel_rfl) (by kernel_rfl) (by kernel_rfl) (fun j hj => ?_)⟩
    rw [Lib.add_plain, Nat.zero_add, hh.cellAt j (by omega)]
    simp [Lib.byteCells, hj]
theorem strCells_bytes (s : ByteArray) : Lib.strCells s = Lib.byteCells s.data.toList := by
  unfold Lib.strCells Lib.byteCells
  first | rfl | simp
end Go.Proofs.YtkjmkhmjaknfhaaGreatDoor
