/-
  NARROWER THAN 'FOR EVERY INPUT', by the rows' own cells (each row's printed sentence says how): TableBinds: laid · TableLays: laid · TableAsks: laid.
  DERIVED. THE GIVEN ROWS OF THIS SEAT. 3 by the template 'for every input the law returns true; each argument reads behind the call as it read before'; 0 by the template 'total and deterministic' (their statements: YtglgdfgdfkeogaaDoorTotals.lean).
  GIVEN WITH THE SEED: the statements are not yours to turn. If you find one false, say at which input.
  Laid BY PROGRAM, IN A SANDBOX (cutbox-rows.mjs): the forced cells as the released guide's own fill.sh prints them over the translation 5820cb3bc85bbe5c… (all of the seat's roots in one cut). By AI agents, Wed Nov 11 2026. No macro, syntax, notation, axiom, sorry.
-/
import Derived.Test.YtglgdfgdfkeogaaDoorChecked
import GoSem.Claim
import GoSem.ClaimJoined
import GoSem.ClaimMapViews
import Derived.JoinedTies
import Derived.KernelRfl
namespace Go.Proofs.YtglgdfgdfkeogaaDoor
/- THE CELL 'sum', in the pinned program and in every row, IS THE sha256 OF THE DUMP (.gsa) THAT YtglgdfgdfkeogaaDoorProg.lean LOADS. Nothing in Lean hashes anything: it is a label: what it is worth is what the hold of that sum in a sandbox is worth. -/
noncomputable def Tryd.pinned : Pinned := { name := "ytglgdfgdfkeogaadoor", sum := "5820cb3bc85bbe5c740d70f42201895d4003694b1bc3e4aa9ad62c7969ee1e2f", checked := Tryd.checked }
namespace Rows
def none {H : Type} : Left H := { results := [], args := [] }

/- WHAT THE LISTED PACKAGE-LEVEL VARIABLES READ AS WHEN THE CALL BEGINS. Each datum BY PROGRAM (the guide's laid-datum.mjs) off the statement by which the dump's own 'gosem.cut.vars' lays the variable. In a bare row this is a premise. The card (YtglgdfgdfkeogaaDoorCards.lean) ties it to the program's text. -/
def laid_payoff_payofflaw05_behind {H : Type} : DataW H := .agg [.lit (.bool true), .lit (.int .i64 (-77177))]
def laid_payoff_payofflaw05_other {H : Type} : DataW H := .agg [.lit (.bool true), .lit (.int .i64 99)]

/-- 'payofflaw05.TableBinds': WHATEVER THE INPUT: true; the input reads as it did. -/
def tableBindsSpec : ChangeSpec := { name := "tableBinds", fn := fun _ => fun
  | [d1, d2, d3] => { results := [.lit (.bool true)], args := [d1, d2, d3] }
  | _ => none }
def tableBindsRow : OpenClaim := { program := "ytglgdfgdfkeogaadoor", sum := "5820cb3bc85bbe5c740d70f42201895d4003694b1bc3e4aa9ad62c7969ee1e2f", func := "payoff/payofflaw05.TableBinds", spec := "tableBinds", unfollowed := true, recurses := true, named := ["payoff/payofflaw05.behind", "payoff/payofflaw05.other"], apart := false, laid := [("payoff/payofflaw05.behind", laid_payoff_payofflaw05_behind), ("payoff/payofflaw05.other", laid_payoff_payofflaw05_other)] }
def TableBindsSaid : Prop := tableBindsRow.holds Tryd.pinned (OpenSpec.ofChange tableBindsSpec)

/-- ITS FALSE NEIGHBOUR: 'it returns false'. Refute it at one input. -/
def tableBindsWrong : ChangeSpec := { name := "tableBinds", fn := fun _ => fun
  | [d1, d2, d3] => { results := [.lit (.bool false)], args := [d1, d2, d3] }
  | _ => none }
def TableBindsWrongFalsely : Prop := tableBindsRow.holds Tryd.pinned (OpenSpec.ofChange tableBindsWrong)

/-- 'payofflaw05.TableLays': WHATEVER THE INPUT: true; the input reads as it did. -/
def tableLaysSpec : ChangeSpec := { name := "tableLays", fn := fun _ => fun
  | [d1, d2, d3] => { results := [.lit (.bool true)], args := [d1, d2, d3] }
  | _ => none }
def tableLaysRow : OpenClaim := { program := "ytglgdfgdfkeogaadoor", sum := "5820cb3bc85bbe5c740d70f42201895d4003694b1bc3e4aa9ad62c7969ee1e2f", func := "payoff/payofflaw05.TableLays", spec := "tableLays", unfollowed := true, recurses := true, named := ["payoff/payofflaw05.behind", "payoff/payofflaw05.other"], apart := false, laid := [("payoff/payofflaw05.behind", laid_payoff_payofflaw05_behind), ("payoff/payofflaw05.other", laid_payoff_payofflaw05_other)] }
def TableLaysSaid : Prop := tableLaysRow.holds Tryd.pinned (OpenSpec.ofChange tableLaysSpec)

/-- ITS FALSE NEIGHBOUR: 'it returns false'. Refute it at one input. -/
def tableLaysWrong : ChangeSpec := { name := "tableLays", fn := fun _ => fun
  | [d1, d2, d3] => { results := [.lit (.bool false)], args := [d1, d2, d3] }
  | _ => none }
def TableLaysWrongFalsely : Prop := tableLaysRow.holds Tryd.pinned (OpenSpec.ofChange tableLaysWrong)

/-- 'payofflaw05.TableAsks': WHATEVER THE INPUT: true; the input reads as it did. -/
def tableAsksSpec : ChangeSpec := { name := "tableAsks", fn := fun _ => fun
  | [d1, d2, d3] => { results := [.lit (.bool true)], args := [d1, d2, d3] }
  | _ => none }
def tableAsksRow : OpenClaim := { program := "ytglgdfgdfkeogaadoor", sum := "5820cb3bc85bbe5c740d70f42201895d4003694b1bc3e4aa9ad62c7969ee1e2f", func := "payoff/payofflaw05.TableAsks", spec := "tableAsks", unfollowed := true, recurses := true, named := ["payoff/payofflaw05.behind", "payoff/payofflaw05.other"], apart := false, laid := [("payoff/payofflaw05.behind", laid_payoff_payofflaw05_behind), ("payoff/payofflaw05.other", laid_payoff_payofflaw05_other)] }
def TableAsksSaid : Prop := tableAsksRow.holds Tryd.pinned (OpenSpec.ofChange tableAsksSpec)

/-- ITS FALSE NEIGHBOUR: 'it returns false'. Refute it at one input. -/
def tableAsksWrong : ChangeSpec := { name := "tableAsks", fn := fun _ => fun
  | [d1, d2, d3] => { results := [.lit (.bool false)], args := [d1, d2, d3] }
  | _ => none }
def TableAsksWrongFalsely : Prop := tableAsksRow.holds Tryd.pinned (OpenSpec.ofChange tableAsksWrong)

/- THE SECOND FORM. 'bulk': how many values and letters a reading holds, each counted each time it is reached (what is shared counts as often as it is met; a slice's spare places count too). A statement '..UptoSaid' is the law's where the arguments, and the package variables that the reading takes, are together of bulk at most 1048576: NARROWER than '..Said'. Prove '..Said' where nothing that the law and all that it calls make is longer than what came in: it says more and counts as full. Else prove '..UptoSaid'. A law counts once. -/
mutual
def uptoBulk {H : Type} : DataW H → Nat
  | .lit (.string bytes) => bytes.length + 1
  | .lit _ => 1
  | .nil => 1
  | .ptr d => uptoBulk d + 1
  | .slice elems spare => uptoBulkAll elems + uptoBulkAll spare + 1
  | .agg parts => uptoBulkAll parts + 1
  | .iface _ d => uptoBulk d + 1
  | .map entries => uptoBulkEntries entries + 1
  | .held _ => 1
def uptoBulkAll {H : Type} : List (DataW H) → Nat
  | [] => 0
  | d :: r => uptoBulk d + uptoBulkAll r
def uptoBulkEntries {H : Type} : List (Lit × DataW H) → Nat
  | [] => 0
  | x :: r => uptoBulkEntry x + uptoBulkEntries r
def uptoBulkEntry {H : Type} : Lit × DataW H → Nat
  | (.string bytes, d) => bytes.length + uptoBulk d + 1
  | (_, d) => uptoBulk d + 1
 end
def uptoSmall : (H : Type) → List (DataW H) → Bool := fun _ ds => decide (uptoBulkAll ds ≤ 1048576)
def OpenSpec.upto (s : _root_.Go.ChangeSpec) : _root_.Go.OpenSpec := { _root_.Go.OpenSpec.ofChange s with cond := some uptoSmall }

/-- 'payofflaw05.TableBinds', WHERE WHAT IT READS IS OF BULK AT MOST 1048576: true; the input reads as it did. -/
def tableBindsUptoRow : OpenClaim := { program := "ytglgdfgdfkeogaadoor", sum := "5820cb3bc85bbe5c740d70f42201895d4003694b1bc3e4aa9ad62c7969ee1e2f", func := "payoff/payofflaw05.TableBinds", spec := "tableBinds", unfollowed := true, recurses := true, named := ["payoff/payofflaw05.behind", "payoff/payofflaw05.other"], apart := false, laid := [("payoff/payofflaw05.behind", laid_payoff_payofflaw05_behind), ("payoff/payofflaw05.other", laid_payoff_payofflaw05_other)], narrowed := true }
def TableBindsUptoSaid : Prop := tableBindsUptoRow.holds Tryd.pinned (OpenSpec.upto tableBindsSpec)

/-- 'payofflaw05.TableLays', WHERE WHAT IT READS IS OF BULK AT MOST 1048576: true; the input reads as it did. -/
def tableLaysUptoRow : OpenClaim := { program := "ytglgdfgdfkeogaadoor", sum := "5820cb3bc85bbe5c740d70f42201895d4003694b1bc3e4aa9ad62c7969ee1e2f", func := "payoff/payofflaw05.TableLays", spec := "tableLays", unfollowed := true, recurses := true, named := ["payoff/payofflaw05.behind", "payoff/payofflaw05.other"], apart := false, laid := [("payoff/payofflaw05.behind", laid_payoff_payofflaw05_behind), ("payoff/payofflaw05.other", laid_payoff_payofflaw05_other)], narrowed := true }
def TableLaysUptoSaid : Prop := tableLaysUptoRow.holds Tryd.pinned (OpenSpec.upto tableLaysSpec)

/-- 'payofflaw05.TableAsks', WHERE WHAT IT READS IS OF BULK AT MOST 1048576: true; the input reads as it did. -/
def tableAsksUptoRow : OpenClaim := { program := "ytglgdfgdfkeogaadoor", sum := "5820cb3bc85bbe5c740d70f42201895d4003694b1bc3e4aa9ad62c7969ee1e2f", func := "payoff/payofflaw05.TableAsks", spec := "tableAsks", unfollowed := true, recurses := true, named := ["payoff/payofflaw05.behind", "payoff/payofflaw05.other"], apart := false, laid := [("payoff/payofflaw05.behind", laid_payoff_payofflaw05_behind), ("payoff/payofflaw05.other", laid_payoff_payofflaw05_other)], narrowed := true }
def TableAsksUptoSaid : Prop := tableAsksUptoRow.holds Tryd.pinned (OpenSpec.upto tableAsksSpec)

end Rows
end Go.Proofs.YtglgdfgdfkeogaaDoor
