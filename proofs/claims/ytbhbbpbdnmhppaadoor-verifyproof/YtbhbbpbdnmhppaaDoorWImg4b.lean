/-
  WALK: the document's Equal (made by gen_wimg4.py).
-/
import Derived.Test.YtbhbbpbdnmhppaaDoorWImg4
namespace Go.Proofs.YtbhbbpbdnmhppaaDoor
open Go.RowKit
set_option linter.unusedVariables false
set_option linter.unusedSimpArgs false
end Go.Proofs.YtbhbbpbdnmhppaaDoor
