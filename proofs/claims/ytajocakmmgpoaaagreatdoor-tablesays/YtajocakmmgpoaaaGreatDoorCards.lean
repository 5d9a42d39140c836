/-
  DERIVED. GIVEN WITH THE SEED: THE CARDS: each row of YtajocakmmgpoaaaGreatDoorRows.lean that lists a variable, with what it lists TIED to the program's text (the seventh form; the later family's looks); each row that meets fmt, with fmt's text TOLD by the authors' own Lean function (tested against real Go, not proved from fmt's source: count such statements apart). THE CARD IS WHAT COUNTS. Prove the row's statement (the work); the ties are given (YtajocakmmgpoaaaGreatDoorTie.lean); close each card by the builder's one call (the guide's Derived/Test/ToyasCard.lean, 'card_holds'). Laid BY PROGRAM, IN A SANDBOX (cutbox-door.mjs). By AI agents, Wed Nov 11 2026. No macro, syntax, notation, axiom, sorry.
-/
import Derived.Test.YtajocakmmgpoaaaGreatDoorRows
import GoSem.ClaimSeven
namespace Go.Proofs.YtajocakmmgpoaaaGreatDoor
namespace Rows

/-- THE TIED CARD OF 'payofflaw05.TableSays'. -/
def tableSaysCard : Claim7 := { stood := { row := tableSaysRow, standIns := [], harness := (true, "52cdff7b6c6b99d965ac17f971471d11311058b8035ecaf3d18ac2c6f2059ff4"), looks := true }, kinds := [], alts := [], laidByText := true, laidKinds := [.data, .data, .data, .sentinel, .sentinel, .data], laidTests := true, laidLooks := .later }
def TableSaysCardSaid : Prop := Claim7.holds Tryz.pinned (.plain (OpenSpec.ofChange tableSaysSpec)) tableSaysCard

/-- THE SECOND FORM's CARD OF 'payofflaw05.TableSays'. -/
def tableSaysUptoCard : Claim7 := { stood := { row := tableSaysUptoRow, standIns := [], harness := (true, "52cdff7b6c6b99d965ac17f971471d11311058b8035ecaf3d18ac2c6f2059ff4"), looks := true }, kinds := [], alts := [], laidByText := true, laidKinds := [.data, .data, .data, .sentinel, .sentinel, .data], laidTests := true, laidLooks := .later }
def TableSaysUptoCardSaid : Prop := Claim7.holds Tryz.pinned (.plain (OpenSpec.upto tableSaysSpec)) tableSaysUptoCard
end Rows
end Go.Proofs.YtajocakmmgpoaaaGreatDoor
