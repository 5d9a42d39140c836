/-
  DERIVED. GIVEN WITH THE SEED: THE CARDS: each row of YtglgdfgdfkeogaaDoorRows.lean that lists a variable, with what it lists TIED to the program's text (the seventh form; the later family's looks); each row that meets fmt, with fmt's text TOLD by the authors' own Lean function (tested against real Go, not proved from fmt's source: count such statements apart). THE CARD IS WHAT COUNTS. Prove the row's statement (the work); the ties are given (YtglgdfgdfkeogaaDoorTie.lean); close each card by the builder's one call (the guide's Derived/Test/ToyasCard.lean, 'card_holds'). Laid BY PROGRAM, IN A SANDBOX (cutbox-door.mjs). By AI agents, Wed Nov 11 2026. No macro, syntax, notation, axiom, sorry.
-/
import Derived.Test.YtglgdfgdfkeogaaDoorRows
import GoSem.ClaimSeven
namespace Go.Proofs.YtglgdfgdfkeogaaDoor
namespace Rows

/-- THE TIED CARD OF 'payofflaw05.TableBinds'. -/
def tableBindsCard : Claim7 := { stood := { row := tableBindsRow, standIns := [], harness := (true, "a7ec8b576901a9856d938f36a3d28474a1f4d7ec8c791d6a98e625df5104cb6c"), looks := false }, kinds := [], alts := [], laidByText := true, laidKinds := [.data, .data], laidTests := true, laidLooks := .later }
def TableBindsCardSaid : Prop := Claim7.holds Tryd.pinned (.plain (OpenSpec.ofChange tableBindsSpec)) tableBindsCard

/-- THE TIED CARD OF 'payofflaw05.TableLays'. -/
def tableLaysCard : Claim7 := { stood := { row := tableLaysRow, standIns := [], harness := (true, "a7ec8b576901a9856d938f36a3d28474a1f4d7ec8c791d6a98e625df5104cb6c"), looks := false }, kinds := [], alts := [], laidByText := true, laidKinds := [.data, .data], laidTests := true, laidLooks := .later }
def TableLaysCardSaid : Prop := Claim7.holds Tryd.pinned (.plain (OpenSpec.ofChange tableLaysSpec)) tableLaysCard

/-- THE TIED CARD OF 'payofflaw05.TableAsks'. -/
def tableAsksCard : Claim7 := { stood := { row := tableAsksRow, standIns := [], harness := (true, "a7ec8b576901a9856d938f36a3d28474a1f4d7ec8c791d6a98e625df5104cb6c"), looks := false }, kinds := [], alts := [], laidByText := true, laidKinds := [.data, .data], laidTests := true, laidLooks := .later }
def TableAsksCardSaid : Prop := Claim7.holds Tryd.pinned (.plain (OpenSpec.ofChange tableAsksSpec)) tableAsksCard

/-- THE SECOND FORM's CARD OF 'payofflaw05.TableBinds'. -/
def tableBindsUptoCard : Claim7 := { stood := { row := tableBindsUptoRow, standIns := [], harness := (true, "a7ec8b576901a9856d938f36a3d28474a1f4d7ec8c791d6a98e625df5104cb6c"), looks := false }, kinds := [], alts := [], laidByText := true, laidKinds := [.data, .data], laidTests := true, laidLooks := .later }
def TableBindsUptoCardSaid : Prop := Claim7.holds Tryd.pinned (.plain (OpenSpec.upto tableBindsSpec)) tableBindsUptoCard

/-- THE SECOND FORM's CARD OF 'payofflaw05.TableLays'. -/
def tableLaysUptoCard : Claim7 := { stood := { row := tableLaysUptoRow, standIns := [], harness := (true, "a7ec8b576901a9856d938f36a3d28474a1f4d7ec8c791d6a98e625df5104cb6c"), looks := false }, kinds := [], alts := [], laidByText := true, laidKinds := [.data, .data], laidTests := true, laidLooks := .later }
def TableLaysUptoCardSaid : Prop := Claim7.holds Tryd.pinned (.plain (OpenSpec.upto tableLaysSpec)) tableLaysUptoCard

/-- THE SECOND FORM's CARD OF 'payofflaw05.TableAsks'. -/
def tableAsksUptoCard : Claim7 := { stood := { row := tableAsksUptoRow, standIns := [], harness := (true, "a7ec8b576901a9856d938f36a3d28474a1f4d7ec8c791d6a98e625df5104cb6c"), looks := false }, kinds := [], alts := [], laidByText := true, laidKinds := [.data, .data], laidTests := true, laidLooks := .later }
def TableAsksUptoCardSaid : Prop := Claim7.holds Tryd.pinned (.plain (OpenSpec.upto tableAsksSpec)) tableAsksUptoCard
end Rows
end Go.Proofs.YtglgdfgdfkeogaaDoor
