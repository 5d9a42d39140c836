/-
  DERIVED. GIVEN WITH THE SEED: THE CARDS: each row of YtbhbbpbdnmhppaaDoorRows.lean that lists a variable, with what it lists TIED to the program's text (the seventh form; the later family's looks); each row that meets fmt, with fmt's text TOLD by the authors' own Lean function (tested against real Go, not proved from fmt's source: count such statements apart). THE CARD IS WHAT COUNTS. Prove the row's statement (the work); the ties are given (YtbhbbpbdnmhppaaDoorTie.lean); close each card by the builder's one call (the guide's Derived/Test/ToyasCard.lean, 'card_holds'). Laid BY PROGRAM, IN A SANDBOX (cutbox-door.mjs). By AI agents, Wed Nov 11 2026. No macro, syntax, notation, axiom, sorry.
-/
import Derived.Test.YtbhbbpbdnmhppaaDoorRows
import GoSem.ClaimSeven
namespace Go.Proofs.YtbhbbpbdnmhppaaDoor
namespace Rows

/-- THE TIED CARD OF 'payofflaw14.VerifyProof'. -/
def verifyProofCard : Claim7 := { stood := { row := verifyProofRow, standIns := [], harness := (true, "a1484760cb25723b67a0034641163b0ac2bde32f2fd641678a6baf4778c8c39a"), looks := false }, kinds := [], alts := [], laidByText := true, laidKinds := [.data, .data], laidTests := true, laidLooks := .later }
def VerifyProofCardSaid : Prop := Claim7.holds Tryd.pinned (.plain (OpenSpec.ofChange verifyProofSpec)) verifyProofCard

/-- THE TIED CARD OF 'payofflaw14.VerifyFirst'. -/
def verifyFirstCard : Claim7 := { stood := { row := verifyFirstRow, standIns := [], harness := (true, "a1484760cb25723b67a0034641163b0ac2bde32f2fd641678a6baf4778c8c39a"), looks := false }, kinds := [], alts := [], laidByText := true, laidKinds := [.data, .data], laidTests := true, laidLooks := .later }
def VerifyFirstCardSaid : Prop := Claim7.holds Tryd.pinned (.plain (OpenSpec.ofChange verifyFirstSpec)) verifyFirstCard

/-- THE TIED CARD OF 'payofflaw14.VerifyPadded'. -/
def verifyPaddedCard : Claim7 := { stood := { row := verifyPaddedRow, standIns := [], harness := (true, "a1484760cb25723b67a0034641163b0ac2bde32f2fd641678a6baf4778c8c39a"), looks := false }, kinds := [], alts := [], laidByText := true, laidKinds := [.data, .data], laidTests := true, laidLooks := .later }
def VerifyPaddedCardSaid : Prop := Claim7.holds Tryd.pinned (.plain (OpenSpec.ofChange verifyPaddedSpec)) verifyPaddedCard

/-- THE TIED CARD OF 'payofflaw14.VerifyWays'. -/
def verifyWaysCard : Claim7 := { stood := { row := verifyWaysRow, standIns := [], harness := (true, "a1484760cb25723b67a0034641163b0ac2bde32f2fd641678a6baf4778c8c39a"), looks := false }, kinds := [], alts := [], laidByText := true, laidKinds := [.data, .data], laidTests := true, laidLooks := .later }
def VerifyWaysCardSaid : Prop := Claim7.holds Tryd.pinned (.plain (OpenSpec.ofChange verifyWaysSpec)) verifyWaysCard

/-- THE TIED CARD OF 'payofflaw14.VerifyExact'. -/
def verifyExactCard : Claim7 := { stood := { row := verifyExactRow, standIns := [], harness := (true, "a1484760cb25723b67a0034641163b0ac2bde32f2fd641678a6baf4778c8c39a"), looks := false }, kinds := [], alts := [], laidByText := true, laidKinds := [.data, .data], laidTests := true, laidLooks := .later }
def VerifyExactCardSaid : Prop := Claim7.holds Tryd.pinned (.plain (OpenSpec.ofChange verifyExactSpec)) verifyExactCard

/-- THE TIED CARD OF 'payofflaw14.VerifyHeights'. -/
def verifyHeightsCard : Claim7 := { stood := { row := verifyHeightsRow, standIns := [], harness := (true, "a1484760cb25723b67a0034641163b0ac2bde32f2fd641678a6baf4778c8c39a"), looks := false }, kinds := [], alts := [], laidByText := true, laidKinds := [.data, .data], laidTests := true, laidLooks := .later }
def VerifyHeightsCardSaid : Prop := Claim7.holds Tryd.pinned (.plain (OpenSpec.ofChange verifyHeightsSpec)) verifyHeightsCard

/-- THE SECOND FORM's CARD OF 'payofflaw14.VerifyProof'. -/
def verifyProofUptoCard : Claim7 := { stood := { row := verifyProofUptoRow, standIns := [], harness := (true, "a1484760cb25723b67a0034641163b0ac2bde32f2fd641678a6baf4778c8c39a"), looks := false }, kinds := [], alts := [], laidByText := true, laidKinds := [.data, .data], laidTests := true, laidLooks := .later }
def VerifyProofUptoCardSaid : Prop := Claim7.holds Tryd.pinned (.plain (OpenSpec.upto verifyProofSpec)) verifyProofUptoCard

/-- THE SECOND FORM's CARD OF 'payofflaw14.VerifyFirst'. -/
def verifyFirstUptoCard : Claim7 := { stood := { row := verifyFirstUptoRow, standIns := [], harness := (true, "a1484760cb25723b67a0034641163b0ac2bde32f2fd641678a6baf4778c8c39a"), looks := false }, kinds := [], alts := [], laidByText := true, laidKinds := [.data, .data], laidTests := true, laidLooks := .later }
def VerifyFirstUptoCardSaid : Prop := Claim7.holds Tryd.pinned (.plain (OpenSpec.upto verifyFirstSpec)) verifyFirstUptoCard

/-- THE SECOND FORM's CARD OF 'payofflaw14.VerifyPadded'. -/
def verifyPaddedUptoCard : Claim7 := { stood := { row := verifyPaddedUptoRow, standIns := [], harness := (true, "a1484760cb25723b67a0034641163b0ac2bde32f2fd641678a6baf4778c8c39a"), looks := false }, kinds := [], alts := [], laidByText := true, laidKinds := [.data, .data], laidTests := true, laidLooks := .later }
def VerifyPaddedUptoCardSaid : Prop := Claim7.holds Tryd.pinned (.plain (OpenSpec.upto verifyPaddedSpec)) verifyPaddedUptoCard

/-- THE SECOND FORM's CARD OF 'payofflaw14.VerifyWays'. -/
def verifyWaysUptoCard : Claim7 := { stood := { row := verifyWaysUptoRow, standIns := [], harness := (true, "a1484760cb25723b67a0034641163b0ac2bde32f2fd641678a6baf4778c8c39a"), looks := false }, kinds := [], alts := [], laidByText := true, laidKinds := [.data, .data], laidTests := true, laidLooks := .later }
def VerifyWaysUptoCardSaid : Prop := Claim7.holds Tryd.pinned (.plain (OpenSpec.upto verifyWaysSpec)) verifyWaysUptoCard

/-- THE SECOND FORM's CARD OF 'payofflaw14.VerifyExact'. -/
def verifyExactUptoCard : Claim7 := { stood := { row := verifyExactUptoRow, standIns := [], harness := (true, "a1484760cb25723b67a0034641163b0ac2bde32f2fd641678a6baf4778c8c39a"), looks := false }, kinds := [], alts := [], laidByText := true, laidKinds := [.data, .data], laidTests := true, laidLooks := .later }
def VerifyExactUptoCardSaid : Prop := Claim7.holds Tryd.pinned (.plain (OpenSpec.upto verifyExactSpec)) verifyExactUptoCard

/-- THE SECOND FORM's CARD OF 'payofflaw14.VerifyHeights'. -/
def verifyHeightsUptoCard : Claim7 := { stood := { row := verifyHeightsUptoRow, standIns := [], harness := (true, "a1484760cb25723b67a0034641163b0ac2bde32f2fd641678a6baf4778c8c39a"), looks := false }, kinds := [], alts := [], laidByText := true, laidKinds := [.data, .data], laidTests := true, laidLooks := .later }
def VerifyHeightsUptoCardSaid : Prop := Claim7.holds Tryd.pinned (.plain (OpenSpec.upto verifyHeightsSpec)) verifyHeightsUptoCard
end Rows
end Go.Proofs.YtbhbbpbdnmhppaaDoor
