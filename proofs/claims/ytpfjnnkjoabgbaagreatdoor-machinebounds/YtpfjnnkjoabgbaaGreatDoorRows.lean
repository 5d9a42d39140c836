/-
  NARROWER THAN 'FOR EVERY INPUT', by the rows' own cells (each row's printed sentence says how): MachineSlices: laid · MachineBlind: laid · MachineFits: laid · MachineBounds: laid · MachineResumed: laid · MachineSlots: laid.
  DERIVED. THE GIVEN ROWS OF THIS SEAT. 6 by the template 'for every input the law returns true; each argument reads behind the call as it read before'; 0 by the template 'total and deterministic' (their statements: YtpfjnnkjoabgbaaGreatDoorTotals.lean).
  GIVEN WITH THE SEED: the statements are not yours to turn. If you find one false, say at which input.
  Laid BY PROGRAM, IN A SANDBOX (cutbox-rows.mjs): the forced cells as the released guide's own fill.sh prints them over the translation 13cfac978c92f51c… (all of the seat's roots in one cut). By AI agents, Wed Nov 11 2026. No macro, syntax, notation, axiom, sorry.
-/
import Derived.Test.YtpfjnnkjoabgbaaGreatDoorChecked
import GoSem.Claim
import GoSem.ClaimJoined
import GoSem.ClaimMapViews
import Derived.JoinedTies
import Derived.KernelRfl
namespace Go.Proofs.YtpfjnnkjoabgbaaGreatDoor
/- THE CELL 'sum', in the pinned program and in every row, IS THE sha256 OF THE DUMP (.gsa) THAT YtpfjnnkjoabgbaaGreatDoorProg.lean LOADS. Nothing in Lean hashes anything: it is a label: what it is worth is what the hold of that sum in a sandbox is worth. -/
noncomputable def Tryz.pinned : Pinned := { name := "ytpfjnnkjoabgbaagreatdoor", sum := "13cfac978c92f51c0f67ed3a0fbb1f5e3c8a3df5b7a595b6156dbdaa993977d0", checked := Tryz.checked }
namespace Rows
def none {H : Type} : Left H := { results := [], args := [] }

/- WHAT THE LISTED PACKAGE-LEVEL VARIABLES READ AS WHEN THE CALL BEGINS. Each datum BY PROGRAM (the guide's laid-datum.mjs) off the statement by which the dump's own 'gosem.cut.vars' lays the variable. In a bare row this is a premise. The card (YtpfjnnkjoabgbaaGreatDoorCards.lean) ties it to the program's text. -/
def laid_payoff_code_rows {H : Type} : DataW H := .agg [.agg [.lit (.string [101, 110, 100]), .lit (.int .u8 0), .lit (.int .u8 0), .lit (.int .u8 0), .lit (.int .i32 0), .lit (.int .i32 0)], .agg [.lit (.string [99, 111, 110, 115, 116]), .lit (.int .u8 1), .lit (.int .u8 0), .lit (.int .u8 1), .lit (.int .i32 16383), .lit (.int .i32 0)], .agg [.lit (.string [98, 111, 111, 108]), .lit (.int .u8 1), .lit (.int .u8 0), .lit (.int .u8 1), .lit (.int .i32 1), .lit (.int .i32 0)], .agg [.lit (.string [111, 98, 115]), .lit (.int .u8 2), .lit (.int .u8 0), .lit (.int .u8 1), .lit (.int .i32 63), .lit (.int .i32 3660)], .agg [.lit (.string [108, 111, 97, 100]), .lit (.int .u8 1), .lit (.int .u8 0), .lit (.int .u8 1), .lit (.int .i32 32767), .lit (.int .i32 0)], .agg [.lit (.string [115, 116, 111, 114, 101]), .lit (.int .u8 1), .lit (.int .u8 1), .lit (.int .u8 0), .lit (.int .i32 32767), .lit (.int .i32 0)], .agg [.lit (.string [107, 101, 101, 112]), .lit (.int .u8 1), .lit (.int .u8 1), .lit (.int .u8 1), .lit (.int .i32 16383), .lit (.int .i32 0)], .agg [.lit (.string [103, 101, 116]), .lit (.int .u8 1), .lit (.int .u8 0), .lit (.int .u8 1), .lit (.int .i32 16383), .lit (.int .i32 0)], .agg [.lit (.string [100, 114, 111, 112]), .lit (.int .u8 0), .lit (.int .u8 1), .lit (.int .u8 0), .lit (.int .i32 0), .lit (.int .i32 0)], .agg [.lit (.string [97, 100, 100]), .lit (.int .u8 0), .lit (.int .u8 2), .lit (.int .u8 1), .lit (.int .i32 0), .lit (.int .i32 0)], .agg [.lit (.string [115, 117, 98]), .lit (.int .u8 0), .lit (.int .u8 2), .lit (.int .u8 1), .lit (.int .i32 0), .lit (.int .i32 0)], .agg [.lit (.string [109, 117, 108]), .lit (.int .u8 0), .lit (.int .u8 2), .lit (.int .u8 1), .lit (.int .i32 0), .lit (.int .i32 0)], .agg [.lit (.string [110, 101, 103]), .lit (.int .u8 0), .lit (.int .u8 1), .lit (.int .u8 1), .lit (.int .i32 0), .lit (.int .i32 0)], .agg [.lit (.string [100, 105, 118]), .lit (.int .u8 0), .lit (.int .u8 2), .lit (.int .u8 1), .lit (.int .i32 0), .lit (.int .i32 0)], .agg [.lit (.string [109, 111, 100]), .lit (.int .u8 0), .lit (.int .u8 2), .lit (.int .u8 1), .lit (.int .i32 0), .lit (.int .i32 0)], .agg [.lit (.string [97, 98, 115]), .lit (.int .u8 0), .lit (.int .u8 1), .lit (.int .u8 1), .lit (.int .i32 0), .lit (.int .i32 0)], .agg [.lit (.string [109, 105, 110]), .lit (.int .u8 0), .lit (.int .u8 2), .lit (.int .u8 1), .lit (.int .i32 0), .lit (.int .i32 0)], .agg [.lit (.string [109, 97, 120]), .lit (.int .u8 0), .lit (.int .u8 2), .lit (.int .u8 1), .lit (.int .i32 0), .lit (.int .i32 0)], .agg [.lit (.string [114, 97, 116, 105, 111]), .lit (.int .u8 1), .lit (.int .u8 3), .lit (.int .u8 1), .lit (.int .i32 4), .lit (.int .i32 0)], .agg [.lit (.string [108, 116]), .lit (.int .u8 0), .lit (.int .u8 2), .lit (.int .u8 1), .lit (.int .i32 0), .lit (.int .i32 0)], .agg [.lit (.string [108, 101]), .lit (.int .u8 0), .lit (.int .u8 2), .lit (.int .u8 1), .lit (.int .i32 0), .lit (.int .i32 0)], .agg [.lit (.string [103, 116]), .lit (.int .u8 0), .lit (.int .u8 2), .lit (.int .u8 1), .lit (.int .i32 0), .lit (.int .i32 0)], .agg [.lit (.string [103, 101]), .lit (.int .u8 0), .lit (.int .u8 2), .lit (.int .u8 1), .lit (.int .i32 0), .lit (.int .i32 0)], .agg [.lit (.string [101, 113]), .lit (.int .u8 0), .lit (.int .u8 2), .lit (.int .u8 1), .lit (.int .i32 0), .lit (.int .i32 0)], .agg [.lit (.string [110, 101]), .lit (.int .u8 0), .lit (.int .u8 2), .lit (.int .u8 1), .lit (.int .i32 0), .lit (.int .i32 0)], .agg [.lit (.string [110, 111, 116]), .lit (.int .u8 0), .lit (.int .u8 1), .lit (.int .u8 1), .lit (.int .i32 0), .lit (.int .i32 0)], .agg [.lit (.string [106, 117, 109, 112]), .lit (.int .u8 1), .lit (.int .u8 0), .lit (.int .u8 0), .lit (.int .i32 262143), .lit (.int .i32 0)], .agg [.lit (.string [122, 101, 114, 111]), .lit (.int .u8 1), .lit (.int .u8 1), .lit (.int .u8 0), .lit (.int .i32 262143), .lit (.int .i32 0)], .agg [.lit (.string [102, 108, 111, 119]), .lit (.int .u8 1), .lit (.int .u8 1), .lit (.int .u8 0), .lit (.int .i32 4095), .lit (.int .i32 0)]]
def laid_payoff_verify_rules {H : Type} : DataW H := .agg [.agg [.agg [.lit (.int .u8 0), .lit (.int .u8 0), .lit (.int .u8 0)], .lit (.int .u8 0)], .agg [.agg [.lit (.int .u8 0), .lit (.int .u8 0), .lit (.int .u8 0)], .lit (.int .u8 1)], .agg [.agg [.lit (.int .u8 0), .lit (.int .u8 0), .lit (.int .u8 0)], .lit (.int .u8 2)], .agg [.agg [.lit (.int .u8 0), .lit (.int .u8 0), .lit (.int .u8 0)], .lit (.int .u8 1)], .agg [.agg [.lit (.int .u8 0), .lit (.int .u8 0), .lit (.int .u8 0)], .lit (.int .u8 1)], .agg [.agg [.lit (.int .u8 1), .lit (.int .u8 0), .lit (.int .u8 0)], .lit (.int .u8 0)], .agg [.agg [.lit (.int .u8 3), .lit (.int .u8 0), .lit (.int .u8 0)], .lit (.int .u8 0)], .agg [.agg [.lit (.int .u8 0), .lit (.int .u8 0), .lit (.int .u8 0)], .lit (.int .u8 0)], .agg [.agg [.lit (.int .u8 3), .lit (.int .u8 0), .lit (.int .u8 0)], .lit (.int .u8 0)], .agg [.agg [.lit (.int .u8 1), .lit (.int .u8 1), .lit (.int .u8 0)], .lit (.int .u8 1)], .agg [.agg [.lit (.int .u8 1), .lit (.int .u8 1), .lit (.int .u8 0)], .lit (.int .u8 1)], .agg [.agg [.lit (.int .u8 1), .lit (.int .u8 1), .lit (.int .u8 0)], .lit (.int .u8 1)], .agg [.agg [.lit (.int .u8 1), .lit (.int .u8 0), .lit (.int .u8 0)], .lit (.int .u8 1)], .agg [.agg [.lit (.int .u8 1), .lit (.int .u8 1), .lit (.int .u8 0)], .lit (.int .u8 1)], .agg [.agg [.lit (.int .u8 1), .lit (.int .u8 1), .lit (.int .u8 0)], .lit (.int .u8 1)], .agg [.agg [.lit (.int .u8 1), .lit (.int .u8 0), .lit (.int .u8 0)], .lit (.int .u8 1)], .agg [.agg [.lit (.int .u8 1), .lit (.int .u8 1), .lit (.int .u8 0)], .lit (.int .u8 1)], .agg [.agg [.lit (.int .u8 1), .lit (.int .u8 1), .lit (.int .u8 0)], .lit (.int .u8 1)], .agg [.agg [.lit (.int .u8 1), .lit (.int .u8 1), .lit (.int .u8 1)], .lit (.int .u8 1)], .agg [.agg [.lit (.int .u8 1), .lit (.int .u8 1), .lit (.int .u8 0)], .lit (.int .u8 2)], .agg [.agg [.lit (.int .u8 1), .lit (.int .u8 1), .lit (.int .u8 0)], .lit (.int .u8 2)], .agg [.agg [.lit (.int .u8 1), .lit (.int .u8 1), .lit (.int .u8 0)], .lit (.int .u8 2)], .agg [.agg [.lit (.int .u8 1), .lit (.int .u8 1), .lit (.int .u8 0)], .lit (.int .u8 2)], .agg [.agg [.lit (.int .u8 1), .lit (.int .u8 1), .lit (.int .u8 0)], .lit (.int .u8 2)], .agg [.agg [.lit (.int .u8 1), .lit (.int .u8 1), .lit (.int .u8 0)], .lit (.int .u8 2)], .agg [.agg [.lit (.int .u8 2), .lit (.int .u8 0), .lit (.int .u8 0)], .lit (.int .u8 2)], .agg [.agg [.lit (.int .u8 0), .lit (.int .u8 0), .lit (.int .u8 0)], .lit (.int .u8 0)], .agg [.agg [.lit (.int .u8 2), .lit (.int .u8 0), .lit (.int .u8 0)], .lit (.int .u8 0)], .agg [.agg [.lit (.int .u8 1), .lit (.int .u8 0), .lit (.int .u8 0)], .lit (.int .u8 0)]]

/-- 'payofflaw15.MachineSlices': WHATEVER THE INPUT: true; the input reads as it did. -/
def machineSlicesSpec : ChangeSpec := { name := "machineSlices", fn := fun _ => fun
  | [d1, d2] => { results := [.lit (.bool true)], args := [d1, d2] }
  | _ => none }
def machineSlicesRow : OpenClaim := { program := "ytpfjnnkjoabgbaagreatdoor", sum := "13cfac978c92f51c0f67ed3a0fbb1f5e3c8a3df5b7a595b6156dbdaa993977d0", func := "payoff/payofflaw15.MachineSlices", spec := "machineSlices", unfollowed := true, recurses := true, named := ["payoff/code.rows", "payoff/verify.rules", "math/bits.divideError", "math/bits.overflowError"], apart := false, laid := [("payoff/code.rows", laid_payoff_code_rows), ("payoff/verify.rules", laid_payoff_verify_rules)] }
def MachineSlicesSaid : Prop := machineSlicesRow.holds Tryz.pinned (OpenSpec.ofChange machineSlicesSpec)

/-- ITS FALSE NEIGHBOUR: 'it returns false'. Refute it at one input. -/
def machineSlicesWrong : ChangeSpec := { name := "machineSlices", fn := fun _ => fun
  | [d1, d2] => { results := [.lit (.bool false)], args := [d1, d2] }
  | _ => none }
def MachineSlicesWrongFalsely : Prop := machineSlicesRow.holds Tryz.pinned (OpenSpec.ofChange machineSlicesWrong)

/-- 'payofflaw15.MachineBlind': WHATEVER THE INPUT: true; the input reads as it did. -/
def machineBlindSpec : ChangeSpec := { name := "machineBlind", fn := fun _ => fun
  | [d1, d2, d3, d4] => { results := [.lit (.bool true)], args := [d1, d2, d3, d4] }
  | _ => none }
def machineBlindRow : OpenClaim := { program := "ytpfjnnkjoabgbaagreatdoor", sum := "13cfac978c92f51c0f67ed3a0fbb1f5e3c8a3df5b7a595b6156dbdaa993977d0", func := "payoff/payofflaw15.MachineBlind", spec := "machineBlind", unfollowed := true, recurses := true, named := ["payoff/code.rows", "payoff/verify.rules", "math/bits.divideError", "math/bits.overflowError"], apart := false, laid := [("payoff/code.rows", laid_payoff_code_rows), ("payoff/verify.rules", laid_payoff_verify_rules)] }
def MachineBlindSaid : Prop := machineBlindRow.holds Tryz.pinned (OpenSpec.ofChange machineBlindSpec)

/-- ITS FALSE NEIGHBOUR: 'it returns false'. Refute it at one input. -/
def machineBlindWrong : ChangeSpec := { name := "machineBlind", fn := fun _ => fun
  | [d1, d2, d3, d4] => { results := [.lit (.bool false)], args := [d1, d2, d3, d4] }
  | _ => none }
def MachineBlindWrongFalsely : Prop := machineBlindRow.holds Tryz.pinned (OpenSpec.ofChange machineBlindWrong)

/-- 'payofflaw15.MachineFits': WHATEVER THE INPUT: true; the input reads as it did. -/
def machineFitsSpec : ChangeSpec := { name := "machineFits", fn := fun _ => fun
  | [d1, d2, d3] => { results := [.lit (.bool true)], args := [d1, d2, d3] }
  | _ => none }
def machineFitsRow : OpenClaim := { program := "ytpfjnnkjoabgbaagreatdoor", sum := "13cfac978c92f51c0f67ed3a0fbb1f5e3c8a3df5b7a595b6156dbdaa993977d0", func := "payoff/payofflaw15.MachineFits", spec := "machineFits", unfollowed := true, recurses := true, named := ["payoff/code.rows", "payoff/verify.rules", "math/bits.divideError", "math/bits.overflowError"], apart := false, laid := [("payoff/code.rows", laid_payoff_code_rows), ("payoff/verify.rules", laid_payoff_verify_rules)] }
def MachineFitsSaid : Prop := machineFitsRow.holds Tryz.pinned (OpenSpec.ofChange machineFitsSpec)

/-- ITS FALSE NEIGHBOUR: 'it returns false'. Refute it at one input. -/
def machineFitsWrong : ChangeSpec := { name := "machineFits", fn := fun _ => fun
  | [d1, d2, d3] => { results := [.lit (.bool false)], args := [d1, d2, d3] }
  | _ => none }
def MachineFitsWrongFalsely : Prop := machineFitsRow.holds Tryz.pinned (OpenSpec.ofChange machineFitsWrong)

/-- 'payofflaw15.MachineBounds': WHATEVER THE INPUT: true; the input reads as it did. -/
def machineBoundsSpec : ChangeSpec := { name := "machineBounds", fn := fun _ => fun
  | [d1, d2, d3] => { results := [.lit (.bool true)], args := [d1, d2, d3] }
  | _ => none }
def machineBoundsRow : OpenClaim := { program := "ytpfjnnkjoabgbaagreatdoor", sum := "13cfac978c92f51c0f67ed3a0fbb1f5e3c8a3df5b7a595b6156dbdaa993977d0", func := "payoff/payofflaw15.MachineBounds", spec := "machineBounds", unfollowed := true, recurses := true, named := ["payoff/code.rows", "payoff/verify.rules", "math/bits.divideError", "math/bits.overflowError"], apart := false, laid := [("payoff/code.rows", laid_payoff_code_rows), ("payoff/verify.rules", laid_payoff_verify_rules)] }
def MachineBoundsSaid : Prop := machineBoundsRow.holds Tryz.pinned (OpenSpec.ofChange machineBoundsSpec)

/-- ITS FALSE NEIGHBOUR: 'it returns false'. Refute it at one input. -/
def machineBoundsWrong : ChangeSpec := { name := "machineBounds", fn := fun _ => fun
  | [d1, d2, d3] => { results := [.lit (.bool false)], args := [d1, d2, d3] }
  | _ => none }
def MachineBoundsWrongFalsely : Prop := machineBoundsRow.holds Tryz.pinned (OpenSpec.ofChange machineBoundsWrong)

/-- 'payofflaw15.MachineResumed': WHATEVER THE INPUT: true; the input reads as it did. -/
def machineResumedSpec : ChangeSpec := { name := "machineResumed", fn := fun _ => fun
  | [d1, d2, d3] => { results := [.lit (.bool true)], args := [d1, d2, d3] }
  | _ => none }
def machineResumedRow : OpenClaim := { program := "ytpfjnnkjoabgbaagreatdoor", sum := "13cfac978c92f51c0f67ed3a0fbb1f5e3c8a3df5b7a595b6156dbdaa993977d0", func := "payoff/payofflaw15.MachineResumed", spec := "machineResumed", unfollowed := true, recurses := true, named := ["payoff/code.rows", "payoff/verify.rules", "math/bits.divideError", "math/bits.overflowError"], apart := false, laid := [("payoff/code.rows", laid_payoff_code_rows), ("payoff/verify.rules", laid_payoff_verify_rules)] }
def MachineResumedSaid : Prop := machineResumedRow.holds Tryz.pinned (OpenSpec.ofChange machineResumedSpec)

/-- ITS FALSE NEIGHBOUR: 'it returns false'. Refute it at one input. -/
def machineResumedWrong : ChangeSpec := { name := "machineResumed", fn := fun _ => fun
  | [d1, d2, d3] => { results := [.lit (.bool false)], args := [d1, d2, d3] }
  | _ => none }
def MachineResumedWrongFalsely : Prop := machineResumedRow.holds Tryz.pinned (OpenSpec.ofChange machineResumedWrong)

/-- 'payofflaw15.MachineSlots': WHATEVER THE INPUT: true; the input reads as it did. -/
def machineSlotsSpec : ChangeSpec := { name := "machineSlots", fn := fun _ => fun
  | [d1, d2, d3] => { results := [.lit (.bool true)], args := [d1, d2, d3] }
  | _ => none }
def machineSlotsRow : OpenClaim := { program := "ytpfjnnkjoabgbaagreatdoor", sum := "13cfac978c92f51c0f67ed3a0fbb1f5e3c8a3df5b7a595b6156dbdaa993977d0", func := "payoff/payofflaw15.MachineSlots", spec := "machineSlots", unfollowed := true, recurses := true, named := ["payoff/code.rows", "payoff/verify.rules", "math/bits.divideError", "math/bits.overflowError"], apart := false, laid := [("payoff/code.rows", laid_payoff_code_rows), ("payoff/verify.rules", laid_payoff_verify_rules)] }
def MachineSlotsSaid : Prop := machineSlotsRow.holds Tryz.pinned (OpenSpec.ofChange machineSlotsSpec)

/-- ITS FALSE NEIGHBOUR: 'it returns false'. Refute it at one input. -/
def machineSlotsWrong : ChangeSpec := { name := "machineSlots", fn := fun _ => fun
  | [d1, d2, d3] => { results := [.lit (.bool false)], args := [d1, d2, d3] }
  | _ => none }
def MachineSlotsWrongFalsely : Prop := machineSlotsRow.holds Tryz.pinned (OpenSpec.ofChange machineSlotsWrong)

/- THE SECOND FORM. 'bulk': how many values and letters a reading holds, each counted each time it is reached (what is shared counts as often as it is met; a slice's spare places count too). A statement '..UptoSaid' is the law's where the arguments, and the package variables that the reading takes, are together of bulk at most 1048576: NARROWER than '..Said'. Prove '..Said' where nothing that the law and all that it calls make is longer than what came in: it says more and counts as full. Else prove '..UptoSaid'. A law counts once. -/
mutual
def uptoBulk {H : Type} : DataW H → Nat
  | .lit (.string bytes) => bytes.length + 1
  | .lit _ => 1
  | .nil => 1
  | .ptr d => uptoBulk d + 1
  | .slice elems spare => uptoBulkAll elems + uptoBulkAll spare + 1
  | .agg parts => uptoBulkAll parts + 1
  | .iface _ d => uptoBulk d + 1
  | .map entries => uptoBulkEntries entries + 1
  | .held _ => 1
def uptoBulkAll {H : Type} : List (DataW H) → Nat
  | [] => 0
  | d :: r => uptoBulk d + uptoBulkAll r
def uptoBulkEntries {H : Type} : List (Lit × DataW H) → Nat
  | [] => 0
  | x :: r => uptoBulkEntry x + uptoBulkEntries r
def uptoBulkEntry {H : Type} : Lit × DataW H → Nat
  | (.string bytes, d) => bytes.length + uptoBulk d + 1
  | (_, d) => uptoBulk d + 1
 end
def uptoSmall : (H : Type) → List (DataW H) → Bool := fun _ ds => decide (uptoBulkAll ds ≤ 1048576)
def OpenSpec.upto (s : _root_.Go.ChangeSpec) : _root_.Go.OpenSpec := { _root_.Go.OpenSpec.ofChange s with cond := some uptoSmall }

/-- 'payofflaw15.MachineSlices', WHERE WHAT IT READS IS OF BULK AT MOST 1048576: true; the input reads as it did. -/
def machineSlicesUptoRow : OpenClaim := { program := "ytpfjnnkjoabgbaagreatdoor", sum := "13cfac978c92f51c0f67ed3a0fbb1f5e3c8a3df5b7a595b6156dbdaa993977d0", func := "payoff/payofflaw15.MachineSlices", spec := "machineSlices", unfollowed := true, recurses := true, named := ["payoff/code.rows", "payoff/verify.rules", "math/bits.divideError", "math/bits.overflowError"], apart := false, laid := [("payoff/code.rows", laid_payoff_code_rows), ("payoff/verify.rules", laid_payoff_verify_rules)], narrowed := true }
def MachineSlicesUptoSaid : Prop := machineSlicesUptoRow.holds Tryz.pinned (OpenSpec.upto machineSlicesSpec)

/-- 'payofflaw15.MachineBlind', WHERE WHAT IT READS IS OF BULK AT MOST 1048576: true; the input reads as it did. -/
def machineBlindUptoRow : OpenClaim := { program := "ytpfjnnkjoabgbaagreatdoor", sum := "13cfac978c92f51c0f67ed3a0fbb1f5e3c8a3df5b7a595b6156dbdaa993977d0", func := "payoff/payofflaw15.MachineBlind", spec := "machineBlind", unfollowed := true, recurses := true, named := ["payoff/code.rows", "payoff/verify.rules", "math/bits.divideError", "math/bits.overflowError"], apart := false, laid := [("payoff/code.rows", laid_payoff_code_rows), ("payoff/verify.rules", laid_payoff_verify_rules)], narrowed := true }
def MachineBlindUptoSaid : Prop := machineBlindUptoRow.holds Tryz.pinned (OpenSpec.upto machineBlindSpec)

/-- 'payofflaw15.MachineFits', WHERE WHAT IT READS IS OF BULK AT MOST 1048576: true; the input reads as it did. -/
def machineFitsUptoRow : OpenClaim := { program := "ytpfjnnkjoabgbaagreatdoor", sum := "13cfac978c92f51c0f67ed3a0fbb1f5e3c8a3df5b7a595b6156dbdaa993977d0", func := "payoff/payofflaw15.MachineFits", spec := "machineFits", unfollowed := true, recurses := true, named := ["payoff/code.rows", "payoff/verify.rules", "math/bits.divideError", "math/bits.overflowError"], apart := false, laid := [("payoff/code.rows", laid_payoff_code_rows), ("payoff/verify.rules", laid_payoff_verify_rules)], narrowed := true }
def MachineFitsUptoSaid : Prop := machineFitsUptoRow.holds Tryz.pinned (OpenSpec.upto machineFitsSpec)

/-- 'payofflaw15.MachineBounds', WHERE WHAT IT READS IS OF BULK AT MOST 1048576: true; the input reads as it did. -/
def machineBoundsUptoRow : OpenClaim := { program := "ytpfjnnkjoabgbaagreatdoor", sum := "13cfac978c92f51c0f67ed3a0fbb1f5e3c8a3df5b7a595b6156dbdaa993977d0", func := "payoff/payofflaw15.MachineBounds", spec := "machineBounds", unfollowed := true, recurses := true, named := ["payoff/code.rows", "payoff/verify.rules", "math/bits.divideError", "math/bits.overflowError"], apart := false, laid := [("payoff/code.rows", laid_payoff_code_rows), ("payoff/verify.rules", laid_payoff_verify_rules)], narrowed := true }
def MachineBoundsUptoSaid : Prop := machineBoundsUptoRow.holds Tryz.pinned (OpenSpec.upto machineBoundsSpec)

/-- 'payofflaw15.MachineResumed', WHERE WHAT IT READS IS OF BULK AT MOST 1048576: true; the input reads as it did. -/
def machineResumedUptoRow : OpenClaim := { program := "ytpfjnnkjoabgbaagreatdoor", sum := "13cfac978c92f51c0f67ed3a0fbb1f5e3c8a3df5b7a595b6156dbdaa993977d0", func := "payoff/payofflaw15.MachineResumed", spec := "machineResumed", unfollowed := true, recurses := true, named := ["payoff/code.rows", "payoff/verify.rules", "math/bits.divideError", "math/bits.overflowError"], apart := false, laid := [("payoff/code.rows", laid_payoff_code_rows), ("payoff/verify.rules", laid_payoff_verify_rules)], narrowed := true }
def MachineResumedUptoSaid : Prop := machineResumedUptoRow.holds Tryz.pinned (OpenSpec.upto machineResumedSpec)

/-- 'payofflaw15.MachineSlots', WHERE WHAT IT READS IS OF BULK AT MOST 1048576: true; the input reads as it did. -/
def machineSlotsUptoRow : OpenClaim := { program := "ytpfjnnkjoabgbaagreatdoor", sum := "13cfac978c92f51c0f67ed3a0fbb1f5e3c8a3df5b7a595b6156dbdaa993977d0", func := "payoff/payofflaw15.MachineSlots", spec := "machineSlots", unfollowed := true, recurses := true, named := ["payoff/code.rows", "payoff/verify.rules", "math/bits.divideError", "math/bits.overflowError"], apart := false, laid := [("payoff/code.rows", laid_payoff_code_rows), ("payoff/verify.rules", laid_payoff_verify_rules)], narrowed := true }
def MachineSlotsUptoSaid : Prop := machineSlotsUptoRow.holds Tryz.pinned (OpenSpec.upto machineSlotsSpec)

end Rows
end Go.Proofs.YtpfjnnkjoabgbaaGreatDoor
