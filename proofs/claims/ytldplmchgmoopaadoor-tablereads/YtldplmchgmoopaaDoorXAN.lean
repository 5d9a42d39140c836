import Derived.Test.YtldplmchgmoopaaDoorXAI
import Derived.Test.YtldplmchgmoopaaDoorXAA
import Derived.Test.YtldplmchgmoopaaDoorXAG
namespace Go.Proofs.YtldplmchgmoopaaDoor
open Go.RowKit
set_option linter.unusedVariables false
set_option linter.unusedSimpArgs false

/-- A cell of a row, by a column or nowhere. -/
def atC (cs : List Cl) (c : Int) : Cl := if c < 0 then default else cs.getD c.toNat default
end Go.Proofs.YtldplmchgmoopaaDoor

namespace Go.Proofs.YtldplmchgmoopaaDoor
open Go.RowKit
set_option linter.unusedVariables false
set_option linter.unusedSimpArgs false

end Go.Proofs.YtldplmchgmoopaaDoor

namespace Go.Proofs.YtldplmchgmoopaaDoor
open Go.RowKit
set_option linter.unusedVariables false
set_option linter.unusedSimpArgs false

end Go.Proofs.YtldplmchgmoopaaDoor
