/-
  WALK: the document's Equal (made by gen_wimg4.py).
-/
import Derived.Test.YtlcidigcecmnpaaDoorWImg4
namespace Go.Proofs.YtlcidigcecmnpaaDoor
open Go.RowKit
set_option linter.unusedVariables false
set_option linter.unusedSimpArgs false
end Go.Proofs.YtlcidigcecmnpaaDoor
