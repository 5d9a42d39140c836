/-
  WALK: the document's Equal (made by gen_wimg4.py).
-/
import Derived.Test.YteedkcmjhdabeaaDoorWImg4
namespace Go.Proofs.YteedkcmjhdabeaaDoor
open Go.RowKit
set_option linter.unusedVariables false
set_option linter.unusedSimpArgs false
end Go.Proofs.YteedkcmjhdabeaaDoor
