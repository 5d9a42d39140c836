/-
  WALKS: num.Add, num.Sub, num.Neg: each by its contract.
-/
import Derived.Test.YtadcgkfeeakpeaaDoorRows
import Derived.WalkKit
import Derived.WalkSpells
import Derived.Test.YtadcgkfeeakpeaaDoorPlainMul
namespace Go.Proofs.YtadcgkfeeakpeaaDoor
open Go.RowKit

end Go.Proofs.YtadcgkfeeakpeaaDoor
