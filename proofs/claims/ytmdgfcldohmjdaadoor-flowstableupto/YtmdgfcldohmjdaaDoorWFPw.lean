/-
  THE LISTED TABLE, OUT OF A ROW's LIST.
-/
import Derived.Test.YtmdgfcldohmjdaaDoorWAppLine
import Derived.Lib.LaidTab
import Derived.Stop.LaidErr
namespace Go.Proofs.YtmdgfcldohmjdaaDoor
open Go.Shelf Go.RowKit
set_option linter.unusedVariables false
set_option linter.unusedSimpArgs false

theorem wf_of_is {w : World} {a : Option Addr} {len cap : Nat} {fs : List Fl} (h : IsFls w a len cap fs) : ∀ f ∈ fs, f.wf := by
  rcases h with ⟨_, _, _, rfl⟩ | ⟨x, _, _, _, _, h4, _⟩
  · intro f hf; cases hf
  · exact h4
theorem pw_eq : (Rows.laid_internal_strconv_uint64pow10 : DataW Unit) = Lib.tabData .u64 Lib.pow10Tab := by kernel_rfl
theorem pw_of_laid {w : World} {rest : List (String × DataW Unit)} (h : laidMet Tryd.prog (("internal/strconv.uint64pow10", Rows.laid_internal_strconv_uint64pow10) :: rest) w) : Pw w.heap.size w := by
  rw [pw_eq] at h
  exact Lib.tabBelow_of_tabIs (Lib.tabIs_of_head (g := 0) (t := 127) (e := 74) (n := 20) (by kernel_rfl) (by kernel_rfl) Tryd.underlying127 Tryd.underlying74 (by kernel_rfl) (by kernel_rfl) h)
end Go.Proofs.YtmdgfcldohmjdaaDoor
