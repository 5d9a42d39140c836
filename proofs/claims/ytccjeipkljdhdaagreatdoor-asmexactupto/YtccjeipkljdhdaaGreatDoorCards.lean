/-
  DERIVED. GIVEN WITH THE SEED: THE CARDS: each row of YtccjeipkljdhdaaGreatDoorRows.lean that lists a variable, with what it lists TIED to the program's text (the seventh form; the later family's looks); each row that meets fmt, with fmt's text TOLD by the authors' own Lean function (tested against real Go, not proved from fmt's source: count such statements apart). THE CARD IS WHAT COUNTS. Prove the row's statement (the work); the ties are given (YtccjeipkljdhdaaGreatDoorTie.lean); close each card by the builder's one call (the guide's Derived/Test/ToyasCard.lean, 'card_holds'). Laid BY PROGRAM, IN A SANDBOX (cutbox-door.mjs). By AI agents, Wed Nov 11 2026. No macro, syntax, notation, axiom, sorry.
-/
import Derived.Test.YtccjeipkljdhdaaGreatDoorRows
import GoSem.ClaimSeven
namespace Go.Proofs.YtccjeipkljdhdaaGreatDoor
namespace Rows

/-- THE TIED CARD OF 'payofflaw13.AsmOnly'. -/
def asmOnlyCard : Claim7 := { stood := { row := asmOnlyRow, standIns := [], harness := (true, "e803b24289a216ac722ffae90190b184877a6860cca103315d09c4d06464b594"), looks := true }, kinds := [], alts := [], laidByText := true, laidKinds := [.data, .data, .data, .sentinel, .sentinel, .data, .data, .data], laidTests := true, laidLooks := .later }
def AsmOnlyCardSaid : Prop := Claim7.holds Tryz.pinned (.plain (OpenSpec.ofChange asmOnlySpec)) asmOnlyCard

/-- THE TIED CARD OF 'payofflaw13.AsmWords'. -/
def asmWordsCard : Claim7 := { stood := { row := asmWordsRow, standIns := [], harness := (true, "e803b24289a216ac722ffae90190b184877a6860cca103315d09c4d06464b594"), looks := true }, kinds := [], alts := [], laidByText := true, laidKinds := [.data, .data, .data, .sentinel, .sentinel, .data, .data, .data], laidTests := true, laidLooks := .later }
def AsmWordsCardSaid : Prop := Claim7.holds Tryz.pinned (.plain (OpenSpec.ofChange asmWordsSpec)) asmWordsCard

/-- THE TIED CARD OF 'payofflaw13.AsmExact'. -/
def asmExactCard : Claim7 := { stood := { row := asmExactRow, standIns := [], harness := (true, "e803b24289a216ac722ffae90190b184877a6860cca103315d09c4d06464b594"), looks := true }, kinds := [], alts := [], laidByText := true, laidKinds := [.data, .data, .data, .data, .data, .sentinel, .sentinel, .data, .data, .data], laidTests := true, laidLooks := .later }
def AsmExactCardSaid : Prop := Claim7.holds Tryz.pinned (.plain (OpenSpec.ofChange asmExactSpec)) asmExactCard

/-- THE SECOND FORM's CARD OF 'payofflaw13.AsmOnly'. -/
def asmOnlyUptoCard : Claim7 := { stood := { row := asmOnlyUptoRow, standIns := [], harness := (true, "e803b24289a216ac722ffae90190b184877a6860cca103315d09c4d06464b594"), looks := true }, kinds := [], alts := [], laidByText := true, laidKinds := [.data, .data, .data, .sentinel, .sentinel, .data, .data, .data], laidTests := true, laidLooks := .later }
def AsmOnlyUptoCardSaid : Prop := Claim7.holds Tryz.pinned (.plain (OpenSpec.upto asmOnlySpec)) asmOnlyUptoCard

/-- THE SECOND FORM's CARD OF 'payofflaw13.AsmWords'. -/
def asmWordsUptoCard : Claim7 := { stood := { row := asmWordsUptoRow, standIns := [], harness := (true, "e803b24289a216ac722ffae90190b184877a6860cca103315d09c4d06464b594"), looks := true }, kinds := [], alts := [], laidByText := true, laidKinds := [.data, .data, .data, .sentinel, .sentinel, .data, .data, .data], laidTests := true, laidLooks := .later }
def AsmWordsUptoCardSaid : Prop := Claim7.holds Tryz.pinned (.plain (OpenSpec.upto asmWordsSpec)) asmWordsUptoCard

/-- THE SECOND FORM's CARD OF 'payofflaw13.AsmExact'. -/
def asmExactUptoCard : Claim7 := { stood := { row := asmExactUptoRow, standIns := [], harness := (true, "e803b24289a216ac722ffae90190b184877a6860cca103315d09c4d06464b594"), looks := true }, kinds := [], alts := [], laidByText := true, laidKinds := [.data, .data, .data, .data, .data, .sentinel, .sentinel, .data, .data, .data], laidTests := true, laidLooks := .later }
def AsmExactUptoCardSaid : Prop := Claim7.holds Tryz.pinned (.plain (OpenSpec.upto asmExactSpec)) asmExactUptoCard
end Rows
end Go.Proofs.YtccjeipkljdhdaaGreatDoor
