/-
  THE LISTED VARIABLES, OUT OF A ROW's LIST.
-/
import Derived.Test.YtlihkmhhfnkkoaaDoorWLex5
import Derived.Test.YtlihkmhhfnkkoaaDoorWCalLaid
import Derived.Stop.LaidErr
namespace Go.Proofs.YtlihkmhhfnkkoaaDoor
open Go.Shelf Go.RowKit

theorem starES : "*errors.errorString" = "*" ++ "errors.errorString" := by decide
theorem rowES (u : TypeId) (h : Tryd.prog.typeName? 3 u = some "*errors.errorString") : u = 80 :=
  typeName_ptr_named (nm := "errors.errorString") (by rw [← starES]; kernel_rfl) (by kernel_rfl) (by decide) u (by rw [← starES]; exact h)
theorem ev_of_laid {w : World} {r : List (String × DataW Unit)} (h : laidMet Tryd.prog (("strconv.ErrRange", Rows.laid_strconv_ErrRange) :: ("strconv.ErrSyntax", Rows.laid_strconv_ErrSyntax) :: r) w) : Ev w := by
  obtain ⟨a0, s0, hv0, -, -, -⟩ := laid_sentinel h (g := 3) (ti := 56) (by kernel_rfl) (by kernel_rfl) Tryd.underlying56 rowES Tryd.underlying80 Tryd.underlying82 rfl rfl Tryd.underlying9 (by kernel_rfl) (by kernel_rfl)
  obtain ⟨a1, s1, hv1, -, -, -⟩ := laid_sentinel h.tail (g := 2) (ti := 56) (by kernel_rfl) (by kernel_rfl) Tryd.underlying56 rowES Tryd.underlying80 Tryd.underlying82 rfl rfl Tryd.underlying9 (by kernel_rfl) (by kernel_rfl)
  exact ⟨⟨_, _, hv1⟩, _, _, hv0⟩
end Go.Proofs.YtlihkmhhfnkkoaaDoor
