/-
  DERIVED. GIVEN WITH THE SEED: THE CARDS: each row of YtpfjnnkjoabgbaaGreatDoorRows.lean that lists a variable, with what it lists TIED to the program's text (the seventh form; the later family's looks); each row that meets fmt, with fmt's text TOLD by the authors' own Lean function (tested against real Go, not proved from fmt's source: count such statements apart). THE CARD IS WHAT COUNTS. Prove the row's statement (the work); the ties are given (YtpfjnnkjoabgbaaGreatDoorTie.lean); close each card by the builder's one call (the guide's Derived/Test/ToyasCard.lean, 'card_holds'). Laid BY PROGRAM, IN A SANDBOX (cutbox-door.mjs). By AI agents, Wed Nov 11 2026. No macro, syntax, notation, axiom, sorry.
-/
import Derived.Test.YtpfjnnkjoabgbaaGreatDoorRows
import GoSem.ClaimSeven
namespace Go.Proofs.YtpfjnnkjoabgbaaGreatDoor
namespace Rows

/-- THE TIED CARD OF 'payofflaw15.MachineSlices'. -/
def machineSlicesCard : Claim7 := { stood := { row := machineSlicesRow, standIns := [], harness := (true, "989d9ff9598d3337c3a5bfa5142f6e6beaba6172736fffc6bdcc7cc3e825963c"), looks := false }, kinds := [], alts := [], laidByText := true, laidKinds := [.data, .data], laidTests := true, laidLooks := .later }
def MachineSlicesCardSaid : Prop := Claim7.holds Tryz.pinned (.plain (OpenSpec.ofChange machineSlicesSpec)) machineSlicesCard

/-- THE TIED CARD OF 'payofflaw15.MachineBlind'. -/
def machineBlindCard : Claim7 := { stood := { row := machineBlindRow, standIns := [], harness := (true, "989d9ff9598d3337c3a5bfa5142f6e6beaba6172736fffc6bdcc7cc3e825963c"), looks := false }, kinds := [], alts := [], laidByText := true, laidKinds := [.data, .data], laidTests := true, laidLooks := .later }
def MachineBlindCardSaid : Prop := Claim7.holds Tryz.pinned (.plain (OpenSpec.ofChange machineBlindSpec)) machineBlindCard

/-- THE TIED CARD OF 'payofflaw15.MachineFits'. -/
def machineFitsCard : Claim7 := { stood := { row := machineFitsRow, standIns := [], harness := (true, "989d9ff9598d3337c3a5bfa5142f6e6beaba6172736fffc6bdcc7cc3e825963c"), looks := false }, kinds := [], alts := [], laidByText := true, laidKinds := [.data, .data], laidTests := true, laidLooks := .later }
def MachineFitsCardSaid : Prop := Claim7.holds Tryz.pinned (.plain (OpenSpec.ofChange machineFitsSpec)) machineFitsCard

/-- THE TIED CARD OF 'payofflaw15.MachineBounds'. -/
def machineBoundsCard : Claim7 := { stood := { row := machineBoundsRow, standIns := [], harness := (true, "989d9ff9598d3337c3a5bfa5142f6e6beaba6172736fffc6bdcc7cc3e825963c"), looks := false }, kinds := [], alts := [], laidByText := true, laidKinds := [.data, .data], laidTests := true, laidLooks := .later }
def MachineBoundsCardSaid : Prop := Claim7.holds Tryz.pinned (.plain (OpenSpec.ofChange machineBoundsSpec)) machineBoundsCard

/-- THE TIED CARD OF 'payofflaw15.MachineResumed'. -/
def machineResumedCard : Claim7 := { stood := { row := machineResumedRow, standIns := [], harness := (true, "989d9ff9598d3337c3a5bfa5142f6e6beaba6172736fffc6bdcc7cc3e825963c"), looks := false }, kinds := [], alts := [], laidByText := true, laidKinds := [.data, .data], laidTests := true, laidLooks := .later }
def MachineResumedCardSaid : Prop := Claim7.holds Tryz.pinned (.plain (OpenSpec.ofChange machineResumedSpec)) machineResumedCard

/-- THE TIED CARD OF 'payofflaw15.MachineSlots'. -/
def machineSlotsCard : Claim7 := { stood := { row := machineSlotsRow, standIns := [], harness := (true, "989d9ff9598d3337c3a5bfa5142f6e6beaba6172736fffc6bdcc7cc3e825963c"), looks := false }, kinds := [], alts := [], laidByText := true, laidKinds := [.data, .data], laidTests := true, laidLooks := .later }
def MachineSlotsCardSaid : Prop := Claim7.holds Tryz.pinned (.plain (OpenSpec.ofChange machineSlotsSpec)) machineSlotsCard

/-- THE SECOND FORM's CARD OF 'payofflaw15.MachineSlices'. -/
def machineSlicesUptoCard : Claim7 := { stood := { row := machineSlicesUptoRow, standIns := [], harness := (true, "989d9ff9598d3337c3a5bfa5142f6e6beaba6172736fffc6bdcc7cc3e825963c"), looks := false }, kinds := [], alts := [], laidByText := true, laidKinds := [.data, .data], laidTests := true, laidLooks := .later }
def MachineSlicesUptoCardSaid : Prop := Claim7.holds Tryz.pinned (.plain (OpenSpec.upto machineSlicesSpec)) machineSlicesUptoCard

/-- THE SECOND FORM's CARD OF 'payofflaw15.MachineBlind'. -/
def machineBlindUptoCard : Claim7 := { stood := { row := machineBlindUptoRow, standIns := [], harness := (true, "989d9ff9598d3337c3a5bfa5142f6e6beaba6172736fffc6bdcc7cc3e825963c"), looks := false }, kinds := [], alts := [], laidByText := true, laidKinds := [.data, .data], laidTests := true, laidLooks := .later }
def MachineBlindUptoCardSaid : Prop := Claim7.holds Tryz.pinned (.plain (OpenSpec.upto machineBlindSpec)) machineBlindUptoCard

/-- THE SECOND FORM's CARD OF 'payofflaw15.MachineFits'. -/
def machineFitsUptoCard : Claim7 := { stood := { row := machineFitsUptoRow, standIns := [], harness := (true, "989d9ff9598d3337c3a5bfa5142f6e6beaba6172736fffc6bdcc7cc3e825963c"), looks := false }, kinds := [], alts := [], laidByText := true, laidKinds := [.data, .data], laidTests := true, laidLooks := .later }
def MachineFitsUptoCardSaid : Prop := Claim7.holds Tryz.pinned (.plain (OpenSpec.upto machineFitsSpec)) machineFitsUptoCard

/-- THE SECOND FORM's CARD OF 'payofflaw15.MachineBounds'. -/
def machineBoundsUptoCard : Claim7 := { stood := { row := machineBoundsUptoRow, standIns := [], harness := (true, "989d9ff9598d3337c3a5bfa5142f6e6beaba6172736fffc6bdcc7cc3e825963c"), looks := false }, kinds := [], alts := [], laidByText := true, laidKinds := [.data, .data], laidTests := true, laidLooks := .later }
def MachineBoundsUptoCardSaid : Prop := Claim7.holds Tryz.pinned (.plain (OpenSpec.upto machineBoundsSpec)) machineBoundsUptoCard

/-- THE SECOND FORM's CARD OF 'payofflaw15.MachineResumed'. -/
def machineResumedUptoCard : Claim7 := { stood := { row := machineResumedUptoRow, standIns := [], harness := (true, "989d9ff9598d3337c3a5bfa5142f6e6beaba6172736fffc6bdcc7cc3e825963c"), looks := false }, kinds := [], alts := [], laidByText := true, laidKinds := [.data, .data], laidTests := true, laidLooks := .later }
def MachineResumedUptoCardSaid : Prop := Claim7.holds Tryz.pinned (.plain (OpenSpec.upto machineResumedSpec)) machineResumedUptoCard

/-- THE SECOND FORM's CARD OF 'payofflaw15.MachineSlots'. -/
def machineSlotsUptoCard : Claim7 := { stood := { row := machineSlotsUptoRow, standIns := [], harness := (true, "989d9ff9598d3337c3a5bfa5142f6e6beaba6172736fffc6bdcc7cc3e825963c"), looks := false }, kinds := [], alts := [], laidByText := true, laidKinds := [.data, .data], laidTests := true, laidLooks := .later }
def MachineSlotsUptoCardSaid : Prop := Claim7.holds Tryz.pinned (.plain (OpenSpec.upto machineSlotsSpec)) machineSlotsUptoCard
end Rows
end Go.Proofs.YtpfjnnkjoabgbaaGreatDoor
