/-
  THE KEY OF NET's MAP: a day and a currency.
-/
import Derived.Test.YtmdgfcldohmjdaaDoorPlainSums
import Derived.DeepKeys4
import Derived.ProofKit
namespace Go.Proofs.YtmdgfcldohmjdaaDoor
open Go.RowKit Go.Maps
set_option linter.unusedVariables false
set_option linter.unusedSimpArgs false

theorem pairLaid : laidOutB Tryd.prog = true := by kernel_rfl
theorem pairRow : (58 : TypeId) < Tryd.prog.types.size := of_decide_eq_true (by kernel_rfl)
theorem pairWide : (match Tryd.prog.underlying 58 with | some (.array _ _) | some (.struct _) => true | _ => false) = true := by kernel_rfl
set_option maxRecDepth 100000 in
theorem pairLaw : WideMaps.KeyLaw Tryd.prog 58 := deep_law_laid pairLaid (m := 2) (by omega) pairRow (by kernel_rfl) pairWide
theorem lawP : Keyed Tryd.prog 58 := Keyed.of_law pairLaw
theorem pairKey : Tryd.prog.keyType 58 = true := by kernel_rfl
theorem pairCells : Tryd.prog.cellsOf 58 = 2 := by kernel_rfl
theorem pairInt : Tryd.prog.cellsOf 3 = 1 := by kernel_rfl
theorem pairStr : Tryd.prog.cellsOf 9 = 1 := by kernel_rfl
theorem pairTypes : ∃ m, Tryd.prog.types.size + 1 = m + 2 := by
  have h0 : 0 < Tryd.prog.types.size := Nat.lt_of_le_of_lt (Nat.zero_le _) pairRow
  generalize Tryd.prog.types.size = n at h0
  exact ⟨n - 1, by omega⟩

/-- What a day and a currency read as. -/
def litP (d : Int) (c : ByteArray) : Lit := .string (keyBytes [.int .i64 d, .string c.data.toList])
theorem keyP {d : Int} {c : ByteArray} (wd : (Lit.int .i64 d).wf = true) (hc : c.size ≤ maxLen) : keyOf Tryd.prog 58 (.agg #[.int .i64 d, .string c]) = some (litP d c) := by
  obtain ⟨m, hm⟩ := pairTypes
  have hf : (Value.agg #[.int .i64 d, .string c]).formed Tryd.prog 58 = true := by simp [Value.formed, Tryd.underlying58, pairCells]
  unfold keyOf
  rw [Tryd.underlying58]
  simp only [pairKey, hf, Bool.and_self, if_true, hm]
  simp [Program.keyLits, Tryd.underlying58, Tryd.underlying3, Tryd.underlying9, pairCells, pairInt, pairStr, Value.cells, wd, hc, litP]
theorem litP_ne {d d' : Int} {c c' : ByteArray} (wd : (Lit.int .i64 d).wf = true) (hc : c.size ≤ maxLen) (wd' : (Lit.int .i64 d').wf = true) (hc' : c'.size ≤ maxLen) (h : (d', c') ≠ (d, c)) : litP d' c' ≠ litP d c := fun e => by
  have := pairLaw.inj (keyP wd' hc') (e ▸ keyP wd hc)
  simp at this
  exact h (by rw [this.1, this.2])
end Go.Proofs.YtmdgfcldohmjdaaDoor
