/-
  THE POWERS OF TEN, OUT OF A ROW's LIST.
-/
import Derived.Test.YtlcidigcecmnpaaDoorWFmt
import Derived.Lib.LaidTab
import Derived.Stop.LaidErr
namespace Go.Proofs.YtlcidigcecmnpaaDoor

theorem pows_eq : (Rows.laid_internal_strconv_uint64pow10 : DataW Unit) = Lib.tabData .u64 Lib.pow10Tab := by kernel_rfl
theorem pows_of_laid {w : World} {rest : List (String × DataW Unit)} (h : laidMet Tryd.prog (("internal/strconv.uint64pow10", Rows.laid_internal_strconv_uint64pow10) :: rest) w) : Pows w := by
  rw [pows_eq] at h
  exact Lib.tabIs_of_head (g := 4) (t := 109) (e := 89) (n := 20) (by kernel_rfl) (by kernel_rfl) Tryd.underlying109 Tryd.underlying89 (by kernel_rfl) (by kernel_rfl) h
end Go.Proofs.YtlcidigcecmnpaaDoor
