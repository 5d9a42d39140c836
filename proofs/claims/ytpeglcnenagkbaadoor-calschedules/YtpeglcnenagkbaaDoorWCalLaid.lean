/-
  THE MONTHS' TABLE, OUT OF A ROW's LIST.
-/
import Derived.Test.YtpeglcnenagkbaaDoorWCal1
import Derived.Lib.LaidTab
import Derived.Stop.LaidErr
namespace Go.Proofs.YtpeglcnenagkbaaDoor

theorem mon_of_laid {w : World} {rest : List (String × DataW Unit)} (h : laidMet Tryd.prog (("payoff/cal.monthDays", Lib.tabData .i64 monTab) :: rest) w) : Mon w :=
  mon_of_tab (Lib.tabIs_of_head (g := 1) (t := 87) (e := 3) (n := 12) (by kernel_rfl) (by kernel_rfl) Tryd.underlying87 Tryd.underlying3 (by kernel_rfl) (by kernel_rfl) h)
end Go.Proofs.YtpeglcnenagkbaaDoor
