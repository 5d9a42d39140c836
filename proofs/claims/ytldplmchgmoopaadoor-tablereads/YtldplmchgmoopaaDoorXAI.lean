import Derived.Test.YtldplmchgmoopaaDoorXAA
namespace Go.Proofs.YtldplmchgmoopaaDoor
open Go.RowKit
set_option linter.unusedVariables false

/-- The cell as it lies in the column of a name's first place. -/
def rawT (ss : List ByteArray) (rs : List (List Cl)) (n : ByteArray) (d : Nat) : Cl :=
  if colF ss n 0 < 0 then default else (rs.getD d []).getD (colF ss n 0).toNat default
def cellT (ss : List ByteArray) (rs : List (List Cl)) (n : ByteArray) (d : Nat) : Cl := if (rawT ss rs n d).h then rawT ss rs n d else default
theorem def_h : (default : Cl).h = false := rfl
end Go.Proofs.YtldplmchgmoopaaDoor
