/-
  DERIVED. GIVEN WITH THE SEED: THE CARDS: each row of YtknlpadoladpfaaDoorRows.lean that lists a variable, with what it lists TIED to the program's text (the seventh form; the later family's looks); each row that meets fmt, with fmt's text TOLD by the authors' own Lean function (tested against real Go, not proved from fmt's source: count such statements apart). THE CARD IS WHAT COUNTS. Prove the row's statement (the work); the ties are given (YtknlpadoladpfaaDoorTie.lean); close each card by the builder's one call (the guide's Derived/Test/ToyasCard.lean, 'card_holds'). Laid BY PROGRAM, IN A SANDBOX (cutbox-door.mjs). By AI agents, Wed Nov 11 2026. No macro, syntax, notation, axiom, sorry.
-/
import Derived.Test.YtknlpadoladpfaaDoorRows
import GoSem.ClaimSeven
namespace Go.Proofs.YtknlpadoladpfaaDoor
namespace Rows

/-- THE TIED CARD OF 'payofflaw05.TableBack'. -/
def tableBackCard : Claim7 := { stood := { row := tableBackRow, standIns := [], harness := (true, "5ff28fb6bd19932ee5881283aa206388fd2611d8d7f623137610e3d2b0ed2b15"), looks := true }, kinds := [], alts := [], laidByText := true, laidKinds := [.data, .data, .data, .sentinel, .sentinel, .data], laidTests := true, laidLooks := .later }
def TableBackCardSaid : Prop := Claim7.holds Tryd.pinned (.plain (OpenSpec.ofChange tableBackSpec)) tableBackCard

/-- THE TIED CARD OF 'payofflaw05.TableRead'. -/
def tableReadCard : Claim7 := { stood := { row := tableReadRow, standIns := [], harness := (true, "5ff28fb6bd19932ee5881283aa206388fd2611d8d7f623137610e3d2b0ed2b15"), looks := true }, kinds := [], alts := [], laidByText := true, laidKinds := [.data, .data, .data, .sentinel, .sentinel, .data], laidTests := true, laidLooks := .later }
def TableReadCardSaid : Prop := Claim7.holds Tryd.pinned (.plain (OpenSpec.ofChange tableReadSpec)) tableReadCard

/-- THE TIED CARD OF 'payofflaw05.TableFirst'. -/
def tableFirstCard : Claim7 := { stood := { row := tableFirstRow, standIns := [], harness := (true, "5ff28fb6bd19932ee5881283aa206388fd2611d8d7f623137610e3d2b0ed2b15"), looks := true }, kinds := [], alts := [], laidByText := true, laidKinds := [.data, .data, .data, .sentinel, .sentinel, .data], laidTests := true, laidLooks := .later }
def TableFirstCardSaid : Prop := Claim7.holds Tryd.pinned (.plain (OpenSpec.ofChange tableFirstSpec)) tableFirstCard

/-- THE SECOND FORM's CARD OF 'payofflaw05.TableBack'. -/
def tableBackUptoCard : Claim7 := { stood := { row := tableBackUptoRow, standIns := [], harness := (true, "5ff28fb6bd19932ee5881283aa206388fd2611d8d7f623137610e3d2b0ed2b15"), looks := true }, kinds := [], alts := [], laidByText := true, laidKinds := [.data, .data, .data, .sentinel, .sentinel, .data], laidTests := true, laidLooks := .later }
def TableBackUptoCardSaid : Prop := Claim7.holds Tryd.pinned (.plain (OpenSpec.upto tableBackSpec)) tableBackUptoCard

/-- THE SECOND FORM's CARD OF 'payofflaw05.TableRead'. -/
def tableReadUptoCard : Claim7 := { stood := { row := tableReadUptoRow, standIns := [], harness := (true, "5ff28fb6bd19932ee5881283aa206388fd2611d8d7f623137610e3d2b0ed2b15"), looks := true }, kinds := [], alts := [], laidByText := true, laidKinds := [.data, .data, .data, .sentinel, .sentinel, .data], laidTests := true, laidLooks := .later }
def TableReadUptoCardSaid : Prop := Claim7.holds Tryd.pinned (.plain (OpenSpec.upto tableReadSpec)) tableReadUptoCard

/-- THE SECOND FORM's CARD OF 'payofflaw05.TableFirst'. -/
def tableFirstUptoCard : Claim7 := { stood := { row := tableFirstUptoRow, standIns := [], harness := (true, "5ff28fb6bd19932ee5881283aa206388fd2611d8d7f623137610e3d2b0ed2b15"), looks := true }, kinds := [], alts := [], laidByText := true, laidKinds := [.data, .data, .data, .sentinel, .sentinel, .data], laidTests := true, laidLooks := .later }
def TableFirstUptoCardSaid : Prop := Claim7.holds Tryd.pinned (.plain (OpenSpec.upto tableFirstSpec)) tableFirstUptoCard
end Rows
end Go.Proofs.YtknlpadoladpfaaDoor
