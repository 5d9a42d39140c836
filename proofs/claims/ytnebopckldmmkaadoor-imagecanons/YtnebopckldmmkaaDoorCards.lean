/-
  DERIVED. GIVEN WITH THE SEED: THE CARDS: each row of YtnebopckldmmkaaDoorRows.lean that lists a variable, with what it lists TIED to the program's text (the seventh form; the later family's looks); each row that meets fmt, with fmt's text TOLD by the authors' own Lean function (tested against real Go, not proved from fmt's source: count such statements apart). THE CARD IS WHAT COUNTS. Prove the row's statement (the work); the ties are given (YtnebopckldmmkaaDoorTie.lean); close each card by the builder's one call (the guide's Derived/Test/ToyasCard.lean, 'card_holds'). Laid BY PROGRAM, IN A SANDBOX (cutbox-door.mjs). By AI agents, Wed Nov 11 2026. No macro, syntax, notation, axiom, sorry.
-/
import Derived.Test.YtnebopckldmmkaaDoorRows
import GoSem.ClaimSeven
namespace Go.Proofs.YtnebopckldmmkaaDoor
namespace Rows

/-- THE TIED CARD OF 'payofflaw12.ImageCanons'. -/
def imageCanonsCard : Claim7 := { stood := { row := imageCanonsRow, standIns := [], harness := (true, "09bb73cb88a61e30e303ac4da54c22e11bae4337a252a84d96da6c6ce2d2aedf"), looks := false }, kinds := [], alts := [], laidByText := true, laidKinds := [.data], laidTests := true, laidLooks := .later }
def ImageCanonsCardSaid : Prop := Claim7.holds Tryd.pinned (.plain (OpenSpec.ofChange imageCanonsSpec)) imageCanonsCard

/-- THE SECOND FORM's CARD OF 'payofflaw12.ImageCanons'. -/
def imageCanonsUptoCard : Claim7 := { stood := { row := imageCanonsUptoRow, standIns := [], harness := (true, "09bb73cb88a61e30e303ac4da54c22e11bae4337a252a84d96da6c6ce2d2aedf"), looks := false }, kinds := [], alts := [], laidByText := true, laidKinds := [.data], laidTests := true, laidLooks := .later }
def ImageCanonsUptoCardSaid : Prop := Claim7.holds Tryd.pinned (.plain (OpenSpec.upto imageCanonsSpec)) imageCanonsUptoCard
end Rows
end Go.Proofs.YtnebopckldmmkaaDoor
