/-
  DERIVED. GIVEN WITH THE SEED: THE CARDS: each row of YtceomklkicpmoaaDoorRows.lean that lists a variable, with what it lists TIED to the program's text (the seventh form; the later family's looks); each row that meets fmt, with fmt's text TOLD by the authors' own Lean function (tested against real Go, not proved from fmt's source: count such statements apart). THE CARD IS WHAT COUNTS. Prove the row's statement (the work); the ties are given (YtceomklkicpmoaaDoorTie.lean); close each card by the builder's one call (the guide's Derived/Test/ToyasCard.lean, 'card_holds'). Laid BY PROGRAM, IN A SANDBOX (cutbox-door.mjs). By AI agents, Wed Nov 11 2026. No macro, syntax, notation, axiom, sorry.
-/
import Derived.Test.YtceomklkicpmoaaDoorRows
import GoSem.ClaimSeven
namespace Go.Proofs.YtceomklkicpmoaaDoor
namespace Rows

/-- THE TIED CARD OF 'payofflaw02.CalSixty'. -/
def calSixtyCard : Claim7 := { stood := { row := calSixtyRow, standIns := [], harness := (true, "f61a5ddc61ec278b0e3825b04aed2458cdfe7b55de302c7f8c67b76c7430ed36"), looks := false }, kinds := [], alts := [], laidByText := true, laidKinds := [.data], laidTests := true, laidLooks := .later }
def CalSixtyCardSaid : Prop := Claim7.holds Tryd.pinned (.plain (OpenSpec.ofChange calSixtySpec)) calSixtyCard

/-- THE TIED CARD OF 'payofflaw02.CalThirds'. -/
def calThirdsCard : Claim7 := { stood := { row := calThirdsRow, standIns := [], harness := (true, "f61a5ddc61ec278b0e3825b04aed2458cdfe7b55de302c7f8c67b76c7430ed36"), looks := false }, kinds := [], alts := [], laidByText := true, laidKinds := [.data], laidTests := true, laidLooks := .later }
def CalThirdsCardSaid : Prop := Claim7.holds Tryd.pinned (.plain (OpenSpec.ofChange calThirdsSpec)) calThirdsCard

/-- THE TIED CARD OF 'payofflaw02.CalOne'. -/
def calOneCard : Claim7 := { stood := { row := calOneRow, standIns := [], harness := (true, "f61a5ddc61ec278b0e3825b04aed2458cdfe7b55de302c7f8c67b76c7430ed36"), looks := false }, kinds := [], alts := [], laidByText := true, laidKinds := [.data], laidTests := true, laidLooks := .later }
def CalOneCardSaid : Prop := Claim7.holds Tryd.pinned (.plain (OpenSpec.ofChange calOneSpec)) calOneCard

/-- THE TIED CARD OF 'payofflaw02.CalTenors'. -/
def calTenorsCard : Claim7 := { stood := { row := calTenorsRow, standIns := [], harness := (true, "f61a5ddc61ec278b0e3825b04aed2458cdfe7b55de302c7f8c67b76c7430ed36"), looks := false }, kinds := [], alts := [], laidByText := true, laidKinds := [.data], laidTests := true, laidLooks := .later }
def CalTenorsCardSaid : Prop := Claim7.holds Tryd.pinned (.plain (OpenSpec.ofChange calTenorsSpec)) calTenorsCard

/-- THE TIED CARD OF 'payofflaw02.CalThereAndBack'. -/
def calThereAndBackCard : Claim7 := { stood := { row := calThereAndBackRow, standIns := [], harness := (true, "f61a5ddc61ec278b0e3825b04aed2458cdfe7b55de302c7f8c67b76c7430ed36"), looks := false }, kinds := [], alts := [], laidByText := true, laidKinds := [.data, .data, .data, .data], laidTests := true, laidLooks := .later }
def CalThereAndBackCardSaid : Prop := Claim7.holds Tryd.pinned (.plain (OpenSpec.ofChange calThereAndBackSpec)) calThereAndBackCard

/-- THE TIED CARD OF 'payofflaw02.CalTexts'. -/
def calTextsCard : Claim7 := { stood := { row := calTextsRow, standIns := [], harness := (true, "f61a5ddc61ec278b0e3825b04aed2458cdfe7b55de302c7f8c67b76c7430ed36"), looks := false }, kinds := [], alts := [], laidByText := true, laidKinds := [.data, .data, .data, .data], laidTests := true, laidLooks := .later }
def CalTextsCardSaid : Prop := Claim7.holds Tryd.pinned (.plain (OpenSpec.ofChange calTextsSpec)) calTextsCard

/-- THE TIED CARD OF 'payofflaw02.CalNumbers'. -/
def calNumbersCard : Claim7 := { stood := { row := calNumbersRow, standIns := [], harness := (true, "f61a5ddc61ec278b0e3825b04aed2458cdfe7b55de302c7f8c67b76c7430ed36"), looks := false }, kinds := [], alts := [], laidByText := true, laidKinds := [.data], laidTests := true, laidLooks := .later }
def CalNumbersCardSaid : Prop := Claim7.holds Tryd.pinned (.plain (OpenSpec.ofChange calNumbersSpec)) calNumbersCard

/-- THE TIED CARD OF 'payofflaw02.CalAdds'. -/
def calAddsCard : Claim7 := { stood := { row := calAddsRow, standIns := [], harness := (true, "f61a5ddc61ec278b0e3825b04aed2458cdfe7b55de302c7f8c67b76c7430ed36"), looks := false }, kinds := [], alts := [], laidByText := true, laidKinds := [.data], laidTests := true, laidLooks := .later }
def CalAddsCardSaid : Prop := Claim7.holds Tryd.pinned (.plain (OpenSpec.ofChange calAddsSpec)) calAddsCard

/-- THE SECOND FORM's CARD OF 'payofflaw02.CalSixty'. -/
def calSixtyUptoCard : Claim7 := { stood := { row := calSixtyUptoRow, standIns := [], harness := (true, "f61a5ddc61ec278b0e3825b04aed2458cdfe7b55de302c7f8c67b76c7430ed36"), looks := false }, kinds := [], alts := [], laidByText := true, laidKinds := [.data], laidTests := true, laidLooks := .later }
def CalSixtyUptoCardSaid : Prop := Claim7.holds Tryd.pinned (.plain (OpenSpec.upto calSixtySpec)) calSixtyUptoCard

/-- THE SECOND FORM's CARD OF 'payofflaw02.CalThirds'. -/
def calThirdsUptoCard : Claim7 := { stood := { row := calThirdsUptoRow, standIns := [], harness := (true, "f61a5ddc61ec278b0e3825b04aed2458cdfe7b55de302c7f8c67b76c7430ed36"), looks := false }, kinds := [], alts := [], laidByText := true, laidKinds := [.data], laidTests := true, laidLooks := .later }
def CalThirdsUptoCardSaid : Prop := Claim7.holds Tryd.pinned (.plain (OpenSpec.upto calThirdsSpec)) calThirdsUptoCard

/-- THE SECOND FORM's CARD OF 'payofflaw02.CalOne'. -/
def calOneUptoCard : Claim7 := { stood := { row := calOneUptoRow, standIns := [], harness := (true, "f61a5ddc61ec278b0e3825b04aed2458cdfe7b55de302c7f8c67b76c7430ed36"), looks := false }, kinds := [], alts := [], laidByText := true, laidKinds := [.data], laidTests := true, laidLooks := .later }
def CalOneUptoCardSaid : Prop := Claim7.holds Tryd.pinned (.plain (OpenSpec.upto calOneSpec)) calOneUptoCard

/-- THE SECOND FORM's CARD OF 'payofflaw02.CalTenors'. -/
def calTenorsUptoCard : Claim7 := { stood := { row := calTenorsUptoRow, standIns := [], harness := (true, "f61a5ddc61ec278b0e3825b04aed2458cdfe7b55de302c7f8c67b76c7430ed36"), looks := false }, kinds := [], alts := [], laidByText := true, laidKinds := [.data], laidTests := true, laidLooks := .later }
def CalTenorsUptoCardSaid : Prop := Claim7.holds Tryd.pinned (.plain (OpenSpec.upto calTenorsSpec)) calTenorsUptoCard

/-- THE SECOND FORM's CARD OF 'payofflaw02.CalThereAndBack'. -/
def calThereAndBackUptoCard : Claim7 := { stood := { row := calThereAndBackUptoRow, standIns := [], harness := (true, "f61a5ddc61ec278b0e3825b04aed2458cdfe7b55de302c7f8c67b76c7430ed36"), looks := false }, kinds := [], alts := [], laidByText := true, laidKinds := [.data, .data, .data, .data], laidTests := true, laidLooks := .later }
def CalThereAndBackUptoCardSaid : Prop := Claim7.holds Tryd.pinned (.plain (OpenSpec.upto calThereAndBackSpec)) calThereAndBackUptoCard

/-- THE SECOND FORM's CARD OF 'payofflaw02.CalTexts'. -/
def calTextsUptoCard : Claim7 := { stood := { row := calTextsUptoRow, standIns := [], harness := (true, "f61a5ddc61ec278b0e3825b04aed2458cdfe7b55de302c7f8c67b76c7430ed36"), looks := false }, kinds := [], alts := [], laidByText := true, laidKinds := [.data, .data, .data, .data], laidTests := true, laidLooks := .later }
def CalTextsUptoCardSaid : Prop := Claim7.holds Tryd.pinned (.plain (OpenSpec.upto calTextsSpec)) calTextsUptoCard

/-- THE SECOND FORM's CARD OF 'payofflaw02.CalNumbers'. -/
def calNumbersUptoCard : Claim7 := { stood := { row := calNumbersUptoRow, standIns := [], harness := (true, "f61a5ddc61ec278b0e3825b04aed2458cdfe7b55de302c7f8c67b76c7430ed36"), looks := false }, kinds := [], alts := [], laidByText := true, laidKinds := [.data], laidTests := true, laidLooks := .later }
def CalNumbersUptoCardSaid : Prop := Claim7.holds Tryd.pinned (.plain (OpenSpec.upto calNumbersSpec)) calNumbersUptoCard

/-- THE SECOND FORM's CARD OF 'payofflaw02.CalAdds'. -/
def calAddsUptoCard : Claim7 := { stood := { row := calAddsUptoRow, standIns := [], harness := (true, "f61a5ddc61ec278b0e3825b04aed2458cdfe7b55de302c7f8c67b76c7430ed36"), looks := false }, kinds := [], alts := [], laidByText := true, laidKinds := [.data], laidTests := true, laidLooks := .later }
def CalAddsUptoCardSaid : Prop := Claim7.holds Tryd.pinned (.plain (OpenSpec.upto calAddsSpec)) calAddsUptoCard
end Rows
end Go.Proofs.YtceomklkicpmoaaDoor
