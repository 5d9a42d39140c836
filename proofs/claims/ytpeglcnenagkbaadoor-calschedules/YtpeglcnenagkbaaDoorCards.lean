/-
  DERIVED. GIVEN WITH THE SEED: THE CARDS: each row of YtpeglcnenagkbaaDoorRows.lean that lists a variable, with what it lists TIED to the program's text (the seventh form; the later family's looks); each row that meets fmt, with fmt's text TOLD by the authors' own Lean function (tested against real Go, not proved from fmt's source: count such statements apart). THE CARD IS WHAT COUNTS. Prove the row's statement (the work); the ties are given (YtpeglcnenagkbaaDoorTie.lean); close each card by the builder's one call (the guide's Derived/Test/ToyasCard.lean, 'card_holds'). Laid BY PROGRAM, IN A SANDBOX (cutbox-door.mjs). By AI agents, Wed Nov 11 2026. No macro, syntax, notation, axiom, sorry.
-/
import Derived.Test.YtpeglcnenagkbaaDoorRows
import GoSem.ClaimSeven
namespace Go.Proofs.YtpeglcnenagkbaaDoor
namespace Rows

/-- THE TIED CARD OF 'payofflaw02.CalTiles'. -/
def calTilesCard : Claim7 := { stood := { row := calTilesRow, standIns := [], harness := (true, "25b0fab6600dcf1bf61ab09772ea2f7a6346c017b815a74d8c205ed251f31097"), looks := false }, kinds := [], alts := [], laidByText := true, laidKinds := [.data], laidTests := true, laidLooks := .later }
def CalTilesCardSaid : Prop := Claim7.holds Tryd.pinned (.plain (OpenSpec.ofChange calTilesSpec)) calTilesCard

/-- THE TIED CARD OF 'payofflaw02.CalWalks'. -/
def calWalksCard : Claim7 := { stood := { row := calWalksRow, standIns := [], harness := (true, "25b0fab6600dcf1bf61ab09772ea2f7a6346c017b815a74d8c205ed251f31097"), looks := false }, kinds := [], alts := [], laidByText := true, laidKinds := [.data], laidTests := true, laidLooks := .later }
def CalWalksCardSaid : Prop := Claim7.holds Tryd.pinned (.plain (OpenSpec.ofChange calWalksSpec)) calWalksCard

/-- THE TIED CARD OF 'payofflaw02.CalScheduled'. -/
def calScheduledCard : Claim7 := { stood := { row := calScheduledRow, standIns := [], harness := (true, "25b0fab6600dcf1bf61ab09772ea2f7a6346c017b815a74d8c205ed251f31097"), looks := false }, kinds := [], alts := [], laidByText := true, laidKinds := [.data, .data], laidTests := true, laidLooks := .later }
def CalScheduledCardSaid : Prop := Claim7.holds Tryd.pinned (.plain (OpenSpec.ofChange calScheduledSpec)) calScheduledCard

/-- THE TIED CARD OF 'payofflaw02.CalSchedules'. -/
def calSchedulesCard : Claim7 := { stood := { row := calSchedulesRow, standIns := [], harness := (true, "25b0fab6600dcf1bf61ab09772ea2f7a6346c017b815a74d8c205ed251f31097"), looks := false }, kinds := [], alts := [], laidByText := true, laidKinds := [.data, .data], laidTests := true, laidLooks := .later }
def CalSchedulesCardSaid : Prop := Claim7.holds Tryd.pinned (.plain (OpenSpec.ofChange calSchedulesSpec)) calSchedulesCard

/-- THE SECOND FORM's CARD OF 'payofflaw02.CalTiles'. -/
def calTilesUptoCard : Claim7 := { stood := { row := calTilesUptoRow, standIns := [], harness := (true, "25b0fab6600dcf1bf61ab09772ea2f7a6346c017b815a74d8c205ed251f31097"), looks := false }, kinds := [], alts := [], laidByText := true, laidKinds := [.data], laidTests := true, laidLooks := .later }
def CalTilesUptoCardSaid : Prop := Claim7.holds Tryd.pinned (.plain (OpenSpec.upto calTilesSpec)) calTilesUptoCard

/-- THE SECOND FORM's CARD OF 'payofflaw02.CalWalks'. -/
def calWalksUptoCard : Claim7 := { stood := { row := calWalksUptoRow, standIns := [], harness := (true, "25b0fab6600dcf1bf61ab09772ea2f7a6346c017b815a74d8c205ed251f31097"), looks := false }, kinds := [], alts := [], laidByText := true, laidKinds := [.data], laidTests := true, laidLooks := .later }
def CalWalksUptoCardSaid : Prop := Claim7.holds Tryd.pinned (.plain (OpenSpec.upto calWalksSpec)) calWalksUptoCard

/-- THE SECOND FORM's CARD OF 'payofflaw02.CalScheduled'. -/
def calScheduledUptoCard : Claim7 := { stood := { row := calScheduledUptoRow, standIns := [], harness := (true, "25b0fab6600dcf1bf61ab09772ea2f7a6346c017b815a74d8c205ed251f31097"), looks := false }, kinds := [], alts := [], laidByText := true, laidKinds := [.data, .data], laidTests := true, laidLooks := .later }
def CalScheduledUptoCardSaid : Prop := Claim7.holds Tryd.pinned (.plain (OpenSpec.upto calScheduledSpec)) calScheduledUptoCard

/-- THE SECOND FORM's CARD OF 'payofflaw02.CalSchedules'. -/
def calSchedulesUptoCard : Claim7 := { stood := { row := calSchedulesUptoRow, standIns := [], harness := (true, "25b0fab6600dcf1bf61ab09772ea2f7a6346c017b815a74d8c205ed251f31097"), looks := false }, kinds := [], alts := [], laidByText := true, laidKinds := [.data, .data], laidTests := true, laidLooks := .later }
def CalSchedulesUptoCardSaid : Prop := Claim7.holds Tryd.pinned (.plain (OpenSpec.upto calSchedulesSpec)) calSchedulesUptoCard
end Rows
end Go.Proofs.YtpeglcnenagkbaaDoor
