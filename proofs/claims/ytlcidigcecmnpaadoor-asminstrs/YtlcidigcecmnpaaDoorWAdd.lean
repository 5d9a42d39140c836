/-
  WALKS: num.Add, num.Sub, num.Neg: each by its contract.
-/
import Derived.Test.YtlcidigcecmnpaaDoorRows
import Derived.WalkKit
import Derived.WalkSpells
import Derived.Test.YtlcidigcecmnpaaDoorPlainMul
namespace Go.Proofs.YtlcidigcecmnpaaDoor
open Go.RowKit

end Go.Proofs.YtlcidigcecmnpaaDoor
