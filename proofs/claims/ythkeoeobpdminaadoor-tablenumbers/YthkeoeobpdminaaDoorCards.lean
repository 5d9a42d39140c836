/-
  DERIVED. GIVEN WITH THE SEED: THE CARDS: each row of YthkeoeobpdminaaDoorRows.lean that lists a variable, with what it lists TIED to the program's text (the seventh form; the later family's looks); each row that meets fmt, with fmt's text TOLD by the authors' own Lean function (tested against real Go, not proved from fmt's source: count such statements apart). THE CARD IS WHAT COUNTS. Prove the row's statement (the work); the ties are given (YthkeoeobpdminaaDoorTie.lean); close each card by the builder's one call (the guide's Derived/Test/ToyasCard.lean, 'card_holds'). Laid BY PROGRAM, IN A SANDBOX (cutbox-door.mjs). By AI agents, Wed Nov 11 2026. No macro, syntax, notation, axiom, sorry.
-/
import Derived.Test.YthkeoeobpdminaaDoorRows
import GoSem.ClaimSeven
namespace Go.Proofs.YthkeoeobpdminaaDoor
namespace Rows

/-- THE TIED CARD OF 'payofflaw05.TableValid'. -/
def tableValidCard : Claim7 := { stood := { row := tableValidRow, standIns := [], harness := (true, "47de5b30cf094d42be8bee5edca95c9ab220a1c5981fe39b052a7e5e2c24bca9"), looks := true }, kinds := [], alts := [], laidByText := true, laidKinds := [.data], laidTests := true, laidLooks := .later }
def TableValidCardSaid : Prop := Claim7.holds Tryd.pinned (.plain (OpenSpec.ofChange tableValidSpec)) tableValidCard

/-- THE TIED CARD OF 'payofflaw05.TableAgrees'. -/
def tableAgreesCard : Claim7 := { stood := { row := tableAgreesRow, standIns := [], harness := (true, "47de5b30cf094d42be8bee5edca95c9ab220a1c5981fe39b052a7e5e2c24bca9"), looks := true }, kinds := [], alts := [], laidByText := true, laidKinds := [.data], laidTests := true, laidLooks := .later }
def TableAgreesCardSaid : Prop := Claim7.holds Tryd.pinned (.plain (OpenSpec.ofChange tableAgreesSpec)) tableAgreesCard

/-- THE TIED CARD OF 'payofflaw05.TableWrites'. -/
def tableWritesCard : Claim7 := { stood := { row := tableWritesRow, standIns := [], harness := (true, "47de5b30cf094d42be8bee5edca95c9ab220a1c5981fe39b052a7e5e2c24bca9"), looks := true }, kinds := [], alts := [], laidByText := true, laidKinds := [.data, .data, .data, .data], laidTests := true, laidLooks := .later }
def TableWritesCardSaid : Prop := Claim7.holds Tryd.pinned (.plain (OpenSpec.ofChange tableWritesSpec)) tableWritesCard

/-- THE TIED CARD OF 'payofflaw05.TableNumbers'. -/
def tableNumbersCard : Claim7 := { stood := { row := tableNumbersRow, standIns := [], harness := (true, "47de5b30cf094d42be8bee5edca95c9ab220a1c5981fe39b052a7e5e2c24bca9"), looks := true }, kinds := [], alts := [], laidByText := true, laidKinds := [.data, .data, .data, .sentinel, .sentinel], laidTests := true, laidLooks := .later }
def TableNumbersCardSaid : Prop := Claim7.holds Tryd.pinned (.plain (OpenSpec.ofChange tableNumbersSpec)) tableNumbersCard

/-- THE SECOND FORM's CARD OF 'payofflaw05.TableValid'. -/
def tableValidUptoCard : Claim7 := { stood := { row := tableValidUptoRow, standIns := [], harness := (true, "47de5b30cf094d42be8bee5edca95c9ab220a1c5981fe39b052a7e5e2c24bca9"), looks := true }, kinds := [], alts := [], laidByText := true, laidKinds := [.data], laidTests := true, laidLooks := .later }
def TableValidUptoCardSaid : Prop := Claim7.holds Tryd.pinned (.plain (OpenSpec.upto tableValidSpec)) tableValidUptoCard

/-- THE SECOND FORM's CARD OF 'payofflaw05.TableAgrees'. -/
def tableAgreesUptoCard : Claim7 := { stood := { row := tableAgreesUptoRow, standIns := [], harness := (true, "47de5b30cf094d42be8bee5edca95c9ab220a1c5981fe39b052a7e5e2c24bca9"), looks := true }, kinds := [], alts := [], laidByText := true, laidKinds := [.data], laidTests := true, laidLooks := .later }
def TableAgreesUptoCardSaid : Prop := Claim7.holds Tryd.pinned (.plain (OpenSpec.upto tableAgreesSpec)) tableAgreesUptoCard

/-- THE SECOND FORM's CARD OF 'payofflaw05.TableWrites'. -/
def tableWritesUptoCard : Claim7 := { stood := { row := tableWritesUptoRow, standIns := [], harness := (true, "47de5b30cf094d42be8bee5edca95c9ab220a1c5981fe39b052a7e5e2c24bca9"), looks := true }, kinds := [], alts := [], laidByText := true, laidKinds := [.data, .data, .data, .data], laidTests := true, laidLooks := .later }
def TableWritesUptoCardSaid : Prop := Claim7.holds Tryd.pinned (.plain (OpenSpec.upto tableWritesSpec)) tableWritesUptoCard

/-- THE SECOND FORM's CARD OF 'payofflaw05.TableNumbers'. -/
def tableNumbersUptoCard : Claim7 := { stood := { row := tableNumbersUptoRow, standIns := [], harness := (true, "47de5b30cf094d42be8bee5edca95c9ab220a1c5981fe39b052a7e5e2c24bca9"), looks := true }, kinds := [], alts := [], laidByText := true, laidKinds := [.data, .data, .data, .sentinel, .sentinel], laidTests := true, laidLooks := .later }
def TableNumbersUptoCardSaid : Prop := Claim7.holds Tryd.pinned (.plain (OpenSpec.upto tableNumbersSpec)) tableNumbersUptoCard
end Rows
end Go.Proofs.YthkeoeobpdminaaDoor
