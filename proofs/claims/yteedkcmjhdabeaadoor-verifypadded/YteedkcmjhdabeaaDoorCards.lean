/-
  DERIVED. GIVEN WITH THE SEED: THE CARDS: each row of YteedkcmjhdabeaaDoorRows.lean that lists a variable, with what it lists TIED to the program's text (the seventh form; the later family's looks); each row that meets fmt, with fmt's text TOLD by the authors' own Lean function (tested against real Go, not proved from fmt's source: count such statements apart). THE CARD IS WHAT COUNTS. Prove the row's statement (the work); the ties are given (YteedkcmjhdabeaaDoorTie.lean); close each card by the builder's one call (the guide's Derived/Test/ToyasCard.lean, 'card_holds'). Laid BY PROGRAM, IN A SANDBOX (cutbox-door.mjs). By AI agents, Wed Nov 11 2026. No macro, syntax, notation, axiom, sorry.
-/
import Derived.Test.YteedkcmjhdabeaaDoorRows
import GoSem.ClaimSeven
namespace Go.Proofs.YteedkcmjhdabeaaDoor
namespace Rows

/-- THE TIED CARD OF 'payofflaw14.VerifyPadded'. -/
def verifyPaddedCard : Claim7 := { stood := { row := verifyPaddedRow, standIns := [], harness := (true, "aec7a5b903734f9921aa71c41665e83b453685bb01ce507d91a04bb7f6564816"), looks := false }, kinds := [], alts := [], laidByText := true, laidKinds := [.data, .data], laidTests := true, laidLooks := .later }
def VerifyPaddedCardSaid : Prop := Claim7.holds Tryd.pinned (.plain (OpenSpec.ofChange verifyPaddedSpec)) verifyPaddedCard

/-- THE TIED CARD OF 'payofflaw14.VerifyWays'. -/
def verifyWaysCard : Claim7 := { stood := { row := verifyWaysRow, standIns := [], harness := (true, "aec7a5b903734f9921aa71c41665e83b453685bb01ce507d91a04bb7f6564816"), looks := false }, kinds := [], alts := [], laidByText := true, laidKinds := [.data, .data], laidTests := true, laidLooks := .later }
def VerifyWaysCardSaid : Prop := Claim7.holds Tryd.pinned (.plain (OpenSpec.ofChange verifyWaysSpec)) verifyWaysCard

/-- THE SECOND FORM's CARD OF 'payofflaw14.VerifyPadded'. -/
def verifyPaddedUptoCard : Claim7 := { stood := { row := verifyPaddedUptoRow, standIns := [], harness := (true, "aec7a5b903734f9921aa71c41665e83b453685bb01ce507d91a04bb7f6564816"), looks := false }, kinds := [], alts := [], laidByText := true, laidKinds := [.data, .data], laidTests := true, laidLooks := .later }
def VerifyPaddedUptoCardSaid : Prop := Claim7.holds Tryd.pinned (.plain (OpenSpec.upto verifyPaddedSpec)) verifyPaddedUptoCard

/-- THE SECOND FORM's CARD OF 'payofflaw14.VerifyWays'. -/
def verifyWaysUptoCard : Claim7 := { stood := { row := verifyWaysUptoRow, standIns := [], harness := (true, "aec7a5b903734f9921aa71c41665e83b453685bb01ce507d91a04bb7f6564816"), looks := false }, kinds := [], alts := [], laidByText := true, laidKinds := [.data, .data], laidTests := true, laidLooks := .later }
def VerifyWaysUptoCardSaid : Prop := Claim7.holds Tryd.pinned (.plain (OpenSpec.upto verifyWaysSpec)) verifyWaysUptoCard
end Rows
end Go.Proofs.YteedkcmjhdabeaaDoor
