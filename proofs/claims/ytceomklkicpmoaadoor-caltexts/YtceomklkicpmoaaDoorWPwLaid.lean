/-
  THE POWERS OF TEN, OUT OF A ROW's LIST.
-/
import Derived.Test.YtceomklkicpmoaaDoorWText2
import Derived.Lib.LaidTab
import Derived.Stop.LaidErr
namespace Go.Proofs.YtceomklkicpmoaaDoor

theorem pw_eq : (Rows.laid_internal_strconv_uint64pow10 : DataW Unit) = Lib.tabData .u64 Lib.pow10Tab := by kernel_rfl
theorem pw_of_laid {w : World} {rest : List (String × DataW Unit)} (h : laidMet Tryd.prog (("internal/strconv.uint64pow10", Rows.laid_internal_strconv_uint64pow10) :: rest) w) : Pw w := by
  rw [pw_eq] at h
  exact Lib.tabIs_of_head (g := 1) (t := 64) (e := 58) (n := 20) (by kernel_rfl) (by kernel_rfl) Tryd.underlying64 Tryd.underlying58 (by kernel_rfl) (by kernel_rfl) h
end Go.Proofs.YtceomklkicpmoaaDoor
