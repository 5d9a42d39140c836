/-
  DERIVED. GIVEN WITH THE SEED: THE CARDS: each row of YtlcidigcecmnpaaDoorRows.lean that lists a variable, with what it lists TIED to the program's text (the seventh form; the later family's looks); each row that meets fmt, with fmt's text TOLD by the authors' own Lean function (tested against real Go, not proved from fmt's source: count such statements apart). THE CARD IS WHAT COUNTS. Prove the row's statement (the work); the ties are given (YtlcidigcecmnpaaDoorTie.lean); close each card by the builder's one call (the guide's Derived/Test/ToyasCard.lean, 'card_holds'). Laid BY PROGRAM, IN A SANDBOX (cutbox-door.mjs). By AI agents, Wed Nov 11 2026. No macro, syntax, notation, axiom, sorry.
-/
import Derived.Test.YtlcidigcecmnpaaDoorRows
import GoSem.ClaimSeven
namespace Go.Proofs.YtlcidigcecmnpaaDoor
namespace Rows

/-- THE TIED CARD OF 'payofflaw13.AsmInstrs'. -/
def asmInstrsCard : Claim7 := { stood := { row := asmInstrsRow, standIns := [], harness := (true, "dab4cf2ba417ae4b6a5ac3ef3f1f9e6d37f7ca54a391f7c149e9c2a7ea4e2e42"), looks := false }, kinds := [], alts := [], laidByText := true, laidKinds := [.data, .data, .data, .data, .data, .data], laidTests := true, laidLooks := .later }
def AsmInstrsCardSaid : Prop := Claim7.holds Tryd.pinned (.plain (OpenSpec.ofChange asmInstrsSpec)) asmInstrsCard

/-- THE SECOND FORM's CARD OF 'payofflaw13.AsmInstrs'. -/
def asmInstrsUptoCard : Claim7 := { stood := { row := asmInstrsUptoRow, standIns := [], harness := (true, "dab4cf2ba417ae4b6a5ac3ef3f1f9e6d37f7ca54a391f7c149e9c2a7ea4e2e42"), looks := false }, kinds := [], alts := [], laidByText := true, laidKinds := [.data, .data, .data, .data, .data, .data], laidTests := true, laidLooks := .later }
def AsmInstrsUptoCardSaid : Prop := Claim7.holds Tryd.pinned (.plain (OpenSpec.upto asmInstrsSpec)) asmInstrsUptoCard
end Rows
end Go.Proofs.YtlcidigcecmnpaaDoor
