/-
  DERIVED. GIVEN WITH THE SEED: THE CARDS: each row of YtjbbbejadhojlaaDoorRows.lean that lists a variable, with what it lists TIED to the program's text (the seventh form; the later family's looks); each row that meets fmt, with fmt's text TOLD by the authors' own Lean function (tested against real Go, not proved from fmt's source: count such statements apart). THE CARD IS WHAT COUNTS. Prove the row's statement (the work); the ties are given (YtjbbbejadhojlaaDoorTie.lean); close each card by the builder's one call (the guide's Derived/Test/ToyasCard.lean, 'card_holds'). Laid BY PROGRAM, IN A SANDBOX (cutbox-door.mjs). By AI agents, Wed Nov 11 2026. No macro, syntax, notation, axiom, sorry.
-/
import Derived.Test.YtjbbbejadhojlaaDoorRows
import GoSem.ClaimSeven
namespace Go.Proofs.YtjbbbejadhojlaaDoor
namespace Rows

/-- THE TIED CARD OF 'payofflaw14.VerifyExact'. -/
def verifyExactCard : Claim7 := { stood := { row := verifyExactRow, standIns := [], harness := (true, "db3da3885519e5b9ce3c29300e86d35b0527b05c05bddddf8de8665a43e8bd16"), looks := false }, kinds := [], alts := [], laidByText := true, laidKinds := [.data, .data], laidTests := true, laidLooks := .later }
def VerifyExactCardSaid : Prop := Claim7.holds Tryd.pinned (.plain (OpenSpec.ofChange verifyExactSpec)) verifyExactCard

/-- THE TIED CARD OF 'payofflaw14.VerifyHeights'. -/
def verifyHeightsCard : Claim7 := { stood := { row := verifyHeightsRow, standIns := [], harness := (true, "db3da3885519e5b9ce3c29300e86d35b0527b05c05bddddf8de8665a43e8bd16"), looks := false }, kinds := [], alts := [], laidByText := true, laidKinds := [.data, .data], laidTests := true, laidLooks := .later }
def VerifyHeightsCardSaid : Prop := Claim7.holds Tryd.pinned (.plain (OpenSpec.ofChange verifyHeightsSpec)) verifyHeightsCard

/-- THE SECOND FORM's CARD OF 'payofflaw14.VerifyExact'. -/
def verifyExactUptoCard : Claim7 := { stood := { row := verifyExactUptoRow, standIns := [], harness := (true, "db3da3885519e5b9ce3c29300e86d35b0527b05c05bddddf8de8665a43e8bd16"), looks := false }, kinds := [], alts := [], laidByText := true, laidKinds := [.data, .data], laidTests := true, laidLooks := .later }
def VerifyExactUptoCardSaid : Prop := Claim7.holds Tryd.pinned (.plain (OpenSpec.upto verifyExactSpec)) verifyExactUptoCard

/-- THE SECOND FORM's CARD OF 'payofflaw14.VerifyHeights'. -/
def verifyHeightsUptoCard : Claim7 := { stood := { row := verifyHeightsUptoRow, standIns := [], harness := (true, "db3da3885519e5b9ce3c29300e86d35b0527b05c05bddddf8de8665a43e8bd16"), looks := false }, kinds := [], alts := [], laidByText := true, laidKinds := [.data, .data], laidTests := true, laidLooks := .later }
def VerifyHeightsUptoCardSaid : Prop := Claim7.holds Tryd.pinned (.plain (OpenSpec.upto verifyHeightsSpec)) verifyHeightsUptoCard
end Rows
end Go.Proofs.YtjbbbejadhojlaaDoor
