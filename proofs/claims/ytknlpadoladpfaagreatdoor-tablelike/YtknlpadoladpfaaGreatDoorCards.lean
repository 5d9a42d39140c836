/-
  DERIVED. GIVEN WITH THE SEED: THE CARDS: each row of YtknlpadoladpfaaGreatDoorRows.lean that lists a variable, with what it lists TIED to the program's text (the seventh form; the later family's looks); each row that meets fmt, with fmt's text TOLD by the authors' own Lean function (tested against real Go, not proved from fmt's source: count such statements apart). THE CARD IS WHAT COUNTS. Prove the row's statement (the work); the ties are given (YtknlpadoladpfaaGreatDoorTie.lean); close each card by the builder's one call (the guide's Derived/Test/ToyasCard.lean, 'card_holds'). Laid BY PROGRAM, IN A SANDBOX (cutbox-door.mjs). By AI agents, Wed Nov 11 2026. No macro, syntax, notation, axiom, sorry.
-/
import Derived.Test.YtknlpadoladpfaaGreatDoorRows
import GoSem.ClaimSeven
namespace Go.Proofs.YtknlpadoladpfaaGreatDoor
namespace Rows

/-- THE TIED CARD OF 'payofflaw05.TableLike'. -/
def tableLikeCard : Claim7 := { stood := { row := tableLikeRow, standIns := [], harness := (true, "d02d3c96e605317fd58e8c542b41e730b73ef4875e69866df0adb3c48303d2dc"), looks := true }, kinds := [], alts := [], laidByText := true, laidKinds := [.data, .data, .data, .sentinel, .sentinel, .data], laidTests := true, laidLooks := .later }
def TableLikeCardSaid : Prop := Claim7.holds Tryz.pinned (.plain (OpenSpec.ofChange tableLikeSpec)) tableLikeCard

/-- THE TIED CARD OF 'payofflaw05.TableSays'. -/
def tableSaysCard : Claim7 := { stood := { row := tableSaysRow, standIns := [], harness := (true, "d02d3c96e605317fd58e8c542b41e730b73ef4875e69866df0adb3c48303d2dc"), looks := true }, kinds := [], alts := [], laidByText := true, laidKinds := [.data, .data, .data, .sentinel, .sentinel, .data], laidTests := true, laidLooks := .later }
def TableSaysCardSaid : Prop := Claim7.holds Tryz.pinned (.plain (OpenSpec.ofChange tableSaysSpec)) tableSaysCard

/-- THE SECOND FORM's CARD OF 'payofflaw05.TableLike'. -/
def tableLikeUptoCard : Claim7 := { stood := { row := tableLikeUptoRow, standIns := [], harness := (true, "d02d3c96e605317fd58e8c542b41e730b73ef4875e69866df0adb3c48303d2dc"), looks := true }, kinds := [], alts := [], laidByText := true, laidKinds := [.data, .data, .data, .sentinel, .sentinel, .data], laidTests := true, laidLooks := .later }
def TableLikeUptoCardSaid : Prop := Claim7.holds Tryz.pinned (.plain (OpenSpec.upto tableLikeSpec)) tableLikeUptoCard

/-- THE SECOND FORM's CARD OF 'payofflaw05.TableSays'. -/
def tableSaysUptoCard : Claim7 := { stood := { row := tableSaysUptoRow, standIns := [], harness := (true, "d02d3c96e605317fd58e8c542b41e730b73ef4875e69866df0adb3c48303d2dc"), looks := true }, kinds := [], alts := [], laidByText := true, laidKinds := [.data, .data, .data, .sentinel, .sentinel, .data], laidTests := true, laidLooks := .later }
def TableSaysUptoCardSaid : Prop := Claim7.holds Tryz.pinned (.plain (OpenSpec.upto tableSaysSpec)) tableSaysUptoCard
end Rows
end Go.Proofs.YtknlpadoladpfaaGreatDoor
