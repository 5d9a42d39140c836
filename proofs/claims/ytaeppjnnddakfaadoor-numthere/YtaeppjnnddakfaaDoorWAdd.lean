/-
  WALKS: num.Add, num.Sub, num.Neg: each by its contract.
-/
import Derived.Test.YtaeppjnnddakfaaDoorRows
import Derived.WalkKit
import Derived.WalkSpells
import Derived.Test.YtaeppjnnddakfaaDoorPlainMul
namespace Go.Proofs.YtaeppjnnddakfaaDoor
open Go.RowKit

end Go.Proofs.YtaeppjnnddakfaaDoor
