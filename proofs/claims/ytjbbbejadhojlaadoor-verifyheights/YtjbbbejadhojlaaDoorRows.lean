/-
  NARROWER THAN 'FOR EVERY INPUT', by the rows' own cells (each row's printed sentence says how): VerifyExact: laid · VerifyHeights: laid.
  DERIVED. THE GIVEN ROWS OF THIS SEAT. 2 by the template 'for every input the law returns true; each argument reads behind the call as it read before'; 0 by the template 'total and deterministic' (their statements: YtjbbbejadhojlaaDoorTotals.lean).
  GIVEN WITH THE SEED: the statements are not yours to turn. If you find one false, say at which input.
  Laid BY PROGRAM, IN A SANDBOX (cutbox-rows.mjs): the forced cells as the released guide's own fill.sh prints them over the translation 28ba3e58a1383b0f… (all of the seat's roots in one cut). By AI agents, Wed Nov 11 2026. No macro, syntax, notation, axiom, sorry.
-/
import Derived.Test.YtjbbbejadhojlaaDoorChecked
import GoSem.Claim
import GoSem.ClaimJoined
import GoSem.ClaimMapViews
import Derived.JoinedTies
import Derived.KernelRfl
namespace Go.Proofs.YtjbbbejadhojlaaDoor
/- THE CELL 'sum', in the pinned program and in every row, IS THE sha256 OF THE DUMP (.gsa) THAT YtjbbbejadhojlaaDoorProg.lean LOADS. Nothing in Lean hashes anything: it is a label: what it is worth is what the hold of that sum in a sandbox is worth. -/
noncomputable def Tryd.pinned : Pinned := { name := "ytjbbbejadhojlaadoor", sum := "28ba3e58a1383b0f0e402fabefd48466dc665b1cffd21ba17bb6d80485a19d5c", checked := Tryd.checked }
namespace Rows
def none {H : Type} : Left H := { results := [], args := [] }

/- WHAT THE LISTED PACKAGE-LEVEL VARIABLES READ AS WHEN THE CALL BEGINS. Each datum BY PROGRAM (the guide's laid-datum.mjs) off the statement by which the dump's own 'gosem.cut.vars' lays the variable. In a bare row this is a premise. The card (YtjbbbejadhojlaaDoorCards.lean) ties it to the program's text. -/
def laid_payoff_code_rows {H : Type} : DataW H := .agg [.agg [.lit (.string [101, 110, 100]), .lit (.int .u8 0), .lit (.int .u8 0), .lit (.int .u8 0), .lit (.int .i32 0), .lit (.int .i32 0)], .agg [.lit (.string [99, 111, 110, 115, 116]), .lit (.int .u8 1), .lit (.int .u8 0), .lit (.int .u8 1), .lit (.int .i32 16383), .lit (.int .i32 0)], .agg [.lit (.string [98, 111, 111, 108]), .lit (.int .u8 1), .lit (.int .u8 0), .lit (.int .u8 1), .lit (.int .i32 1), .lit (.int .i32 0)], .agg [.lit (.string [111, 98, 115]), .lit (.int .u8 2), .lit (.int .u8 0), .lit (.int .u8 1), .lit (.int .i32 63), .lit (.int .i32 3660)], .agg [.lit (.string [108, 111, 97, 100]), .lit (.int .u8 1), .lit (.int .u8 0), .lit (.int .u8 1), .lit (.int .i32 32767), .lit (.int .i32 0)], .agg [.lit (.string [115, 116, 111, 114, 101]), .lit (.int .u8 1), .lit (.int .u8 1), .lit (.int .u8 0), .lit (.int .i32 32767), .lit (.int .i32 0)], .agg [.lit (.string [107, 101, 101, 112]), .lit (.int .u8 1), .lit (.int .u8 1), .lit (.int .u8 1), .lit (.int .i32 16383), .lit (.int .i32 0)], .agg [.lit (.string [103, 101, 116]), .lit (.int .u8 1), .lit (.int .u8 0), .lit (.int .u8 1), .lit (.int .i32 16383), .lit (.int .i32 0)], .agg [.lit (.string [100, 114, 111, 112]), .lit (.int .u8 0), .lit (.int .u8 1), .lit (.int .u8 0), .lit (.int .i32 0), .lit (.int .i32 0)], .agg [.lit (.string [97, 100, 100]), .lit (.int .u8 0), .lit (.int .u8 2), .lit (.int .u8 1), .lit (.int .i32 0), .lit (.int .i32 0)], .agg [.lit (.string [115, 117, 98]), .lit (.int .u8 0), .lit (.int .u8 2), .lit (.int .u8 1), .lit (.int .i32 0), .lit (.int .i32 0)], .agg [.lit (.string [109, 117, 108]), .lit (.int .u8 0), .lit (.int .u8 2), .lit (.int .u8 1), .lit (.int .i32 0), .lit (.int .i32 0)], .agg [.lit (.string [110, 101, 103]), .lit (.int .u8 0), .lit (.int .u8 1), .lit (.int .u8 1), .lit (.int .i32 0), .lit (.int .i32 0)], .agg [.lit (.string [100, 105, 118]), .lit (.int .u8 0), .lit (.int .u8 2), .lit (.int .u8 1), .lit (.int .i32 0), .lit (.int .i32 0)], .agg [.lit (.string [109, 111, 100]), .lit (.int .u8 0), .lit (.int .u8 2), .lit (.int .u8 1), .lit (.int .i32 0), .lit (.int .i32 0)], .agg [.lit (.string [97, 98, 115]), .lit (.int .u8 0), .lit (.int .u8 1), .lit (.int .u8 1), .lit (.int .i32 0), .lit (.int .i32 0)], .agg [.lit (.string [109, 105, 110]), .lit (.int .u8 0), .lit (.int .u8 2), .lit (.int .u8 1), .lit (.int .i32 0), .lit (.int .i32 0)], .agg [.lit (.string [109, 97, 120]), .lit (.int .u8 0), .lit (.int .u8 2), .lit (.int .u8 1), .lit (.int .i32 0), .lit (.int .i32 0)], .agg [.lit (.string [114, 97, 116, 105, 111]), .lit (.int .u8 1), .lit (.int .u8 3), .lit (.int .u8 1), .lit (.int .i32 4), .lit (.int .i32 0)], .agg [.lit (.string [108, 116]), .lit (.int .u8 0), .lit (.int .u8 2), .lit (.int .u8 1), .lit (.int .i32 0), .lit (.int .i32 0)], .agg [.lit (.string [108, 101]), .lit (.int .u8 0), .lit (.int .u8 2), .lit (.int .u8 1), .lit (.int .i32 0), .lit (.int .i32 0)], .agg [.lit (.string [103, 116]), .lit (.int .u8 0), .lit (.int .u8 2), .lit (.int .u8 1), .lit (.int .i32 0), .lit (.int .i32 0)], .agg [.lit (.string [103, 101]), .lit (.int .u8 0), .lit (.int .u8 2), .lit (.int .u8 1), .lit (.int .i32 0), .lit (.int .i32 0)], .agg [.lit (.string [101, 113]), .lit (.int .u8 0), .lit (.int .u8 2), .lit (.int .u8 1), .lit (.int .i32 0), .lit (.int .i32 0)], .agg [.lit (.string [110, 101]), .lit (.int .u8 0), .lit (.int .u8 2), .lit (.int .u8 1), .lit (.int .i32 0), .lit (.int .i32 0)], .agg [.lit (.string [110, 111, 116]), .lit (.int .u8 0), .lit (.int .u8 1), .lit (.int .u8 1), .lit (.int .i32 0), .lit (.int .i32 0)], .agg [.lit (.string [106, 117, 109, 112]), .lit (.int .u8 1), .lit (.int .u8 0), .lit (.int .u8 0), .lit (.int .i32 262143), .lit (.int .i32 0)], .agg [.lit (.string [122, 101, 114, 111]), .lit (.int .u8 1), .lit (.int .u8 1), .lit (.int .u8 0), .lit (.int .i32 262143), .lit (.int .i32 0)], .agg [.lit (.string [102, 108, 111, 119]), .lit (.int .u8 1), .lit (.int .u8 1), .lit (.int .u8 0), .lit (.int .i32 4095), .lit (.int .i32 0)]]
def laid_payoff_verify_rules {H : Type} : DataW H := .agg [.agg [.agg [.lit (.int .u8 0), .lit (.int .u8 0), .lit (.int .u8 0)], .lit (.int .u8 0)], .agg [.agg [.lit (.int .u8 0), .lit (.int .u8 0), .lit (.int .u8 0)], .lit (.int .u8 1)], .agg [.agg [.lit (.int .u8 0), .lit (.int .u8 0), .lit (.int .u8 0)], .lit (.int .u8 2)], .agg [.agg [.lit (.int .u8 0), .lit (.int .u8 0), .lit (.int .u8 0)], .lit (.int .u8 1)], .agg [.agg [.lit (.int .u8 0), .lit (.int .u8 0), .lit (.int .u8 0)], .lit (.int .u8 1)], .agg [.agg [.lit (.int .u8 1), .lit (.int .u8 0), .lit (.int .u8 0)], .lit (.int .u8 0)], .agg [.agg [.lit (.int .u8 3), .lit (.int .u8 0), .lit (.int .u8 0)], .lit (.int .u8 0)], .agg [.agg [.lit (.int .u8 0), .lit (.int .u8 0), .lit (.int .u8 0)], .lit (.int .u8 0)], .agg [.agg [.lit (.int .u8 3), .lit (.int .u8 0), .lit (.int .u8 0)], .lit (.int .u8 0)], .agg [.agg [.lit (.int .u8 1), .lit (.int .u8 1), .lit (.int .u8 0)], .lit (.int .u8 1)], .agg [.agg [.lit (.int .u8 1), .lit (.int .u8 1), .lit (.int .u8 0)], .lit (.int .u8 1)], .agg [.agg [.lit (.int .u8 1), .lit (.int .u8 1), .lit (.int .u8 0)], .lit (.int .u8 1)], .agg [.agg [.lit (.int .u8 1), .lit (.int .u8 0), .lit (.int .u8 0)], .lit (.int .u8 1)], .agg [.agg [.lit (.int .u8 1), .lit (.int .u8 1), .lit (.int .u8 0)], .lit (.int .u8 1)], .agg [.agg [.lit (.int .u8 1), .lit (.int .u8 1), .lit (.int .u8 0)], .lit (.int .u8 1)], .agg [.agg [.lit (.int .u8 1), .lit (.int .u8 0), .lit (.int .u8 0)], .lit (.int .u8 1)], .agg [.agg [.lit (.int .u8 1), .lit (.int .u8 1), .lit (.int .u8 0)], .lit (.int .u8 1)], .agg [.agg [.lit (.int .u8 1), .lit (.int .u8 1), .lit (.int .u8 0)], .lit (.int .u8 1)], .agg [.agg [.lit (.int .u8 1), .lit (.int .u8 1), .lit (.int .u8 1)], .lit (.int .u8 1)], .agg [.agg [.lit (.int .u8 1), .lit (.int .u8 1), .lit (.int .u8 0)], .lit (.int .u8 2)], .agg [.agg [.lit (.int .u8 1), .lit (.int .u8 1), .lit (.int .u8 0)], .lit (.int .u8 2)], .agg [.agg [.lit (.int .u8 1), .lit (.int .u8 1), .lit (.int .u8 0)], .lit (.int .u8 2)], .agg [.agg [.lit (.int .u8 1), .lit (.int .u8 1), .lit (.int .u8 0)], .lit (.int .u8 2)], .agg [.agg [.lit (.int .u8 1), .lit (.int .u8 1), .lit (.int .u8 0)], .lit (.int .u8 2)], .agg [.agg [.lit (.int .u8 1), .lit (.int .u8 1), .lit (.int .u8 0)], .lit (.int .u8 2)], .agg [.agg [.lit (.int .u8 2), .lit (.int .u8 0), .lit (.int .u8 0)], .lit (.int .u8 2)], .agg [.agg [.lit (.int .u8 0), .lit (.int .u8 0), .lit (.int .u8 0)], .lit (.int .u8 0)], .agg [.agg [.lit (.int .u8 2), .lit (.int .u8 0), .lit (.int .u8 0)], .lit (.int .u8 0)], .agg [.agg [.lit (.int .u8 1), .lit (.int .u8 0), .lit (.int .u8 0)], .lit (.int .u8 0)]]

/-- 'payofflaw14.VerifyExact': WHATEVER THE INPUT: true; the input reads as it did. -/
def verifyExactSpec : ChangeSpec := { name := "verifyExact", fn := fun _ => fun
  | [d] => { results := [.lit (.bool true)], args := [d] }
  | _ => none }
def verifyExactRow : OpenClaim := { program := "ytjbbbejadhojlaadoor", sum := "28ba3e58a1383b0f0e402fabefd48466dc665b1cffd21ba17bb6d80485a19d5c", func := "payoff/payofflaw14.VerifyExact", spec := "verifyExact", unfollowed := true, recurses := true, named := ["payoff/code.rows", "payoff/verify.rules"], apart := false, laid := [("payoff/code.rows", laid_payoff_code_rows), ("payoff/verify.rules", laid_payoff_verify_rules)] }
def VerifyExactSaid : Prop := verifyExactRow.holds Tryd.pinned (OpenSpec.ofChange verifyExactSpec)

/-- ITS FALSE NEIGHBOUR: 'it returns false'. Refute it at one input. -/
def verifyExactWrong : ChangeSpec := { name := "verifyExact", fn := fun _ => fun
  | [d] => { results := [.lit (.bool false)], args := [d] }
  | _ => none }
def VerifyExactWrongFalsely : Prop := verifyExactRow.holds Tryd.pinned (OpenSpec.ofChange verifyExactWrong)

/-- 'payofflaw14.VerifyHeights': WHATEVER THE INPUT: true; the input reads as it did. -/
def verifyHeightsSpec : ChangeSpec := { name := "verifyHeights", fn := fun _ => fun
  | [d1, d2] => { results := [.lit (.bool true)], args := [d1, d2] }
  | _ => none }
def verifyHeightsRow : OpenClaim := { program := "ytjbbbejadhojlaadoor", sum := "28ba3e58a1383b0f0e402fabefd48466dc665b1cffd21ba17bb6d80485a19d5c", func := "payoff/payofflaw14.VerifyHeights", spec := "verifyHeights", unfollowed := true, recurses := true, named := ["payoff/code.rows", "payoff/verify.rules"], apart := false, laid := [("payoff/code.rows", laid_payoff_code_rows), ("payoff/verify.rules", laid_payoff_verify_rules)] }
def VerifyHeightsSaid : Prop := verifyHeightsRow.holds Tryd.pinned (OpenSpec.ofChange verifyHeightsSpec)

/-- ITS FALSE NEIGHBOUR: 'it returns false'. Refute it at one input. -/
def verifyHeightsWrong : ChangeSpec := { name := "verifyHeights", fn := fun _ => fun
  | [d1, d2] => { results := [.lit (.bool false)], args := [d1, d2] }
  | _ => none }
def VerifyHeightsWrongFalsely : Prop := verifyHeightsRow.holds Tryd.pinned (OpenSpec.ofChange verifyHeightsWrong)

/- THE SECOND FORM. 'bulk': how many values and letters a reading holds, each counted each time it is reached (what is shared counts as often as it is met; a slice's spare places count too). A statement '..UptoSaid' is the law's where the arguments, and the package variables that the reading takes, are together of bulk at most 1048576: NARROWER than '..Said'. Prove '..Said' where nothing that the law and all that it calls make is longer than what came in: it says more and counts as full. Else prove '..UptoSaid'. A law counts once. -/
mutual
def uptoBulk {H : Type} : DataW H → Nat
  | .lit (.string bytes) => bytes.length + 1
  | .lit _ => 1
  | .nil => 1
  | .ptr d => uptoBulk d + 1
  | .slice elems spare => uptoBulkAll elems + uptoBulkAll spare + 1
  | .agg parts => uptoBulkAll parts + 1
  | .iface _ d => uptoBulk d + 1
  | .map entries => uptoBulkEntries entries + 1
  | .held _ => 1
def uptoBulkAll {H : Type} : List (DataW H) → Nat
  | [] => 0
  | d :: r => uptoBulk d + uptoBulkAll r
def uptoBulkEntries {H : Type} : List (Lit × DataW H) → Nat
  | [] => 0
  | x :: r => uptoBulkEntry x + uptoBulkEntries r
def uptoBulkEntry {H : Type} : Lit × DataW H → Nat
  | (.string bytes, d) => bytes.length + uptoBulk d + 1
  | (_, d) => uptoBulk d + 1
 end
def uptoSmall : (H : Type) → List (DataW H) → Bool := fun _ ds => decide (uptoBulkAll ds ≤ 1048576)
def OpenSpec.upto (s : _root_.Go.ChangeSpec) : _root_.Go.OpenSpec := { _root_.Go.OpenSpec.ofChange s with cond := some uptoSmall }

/-- 'payofflaw14.VerifyExact', WHERE WHAT IT READS IS OF BULK AT MOST 1048576: true; the input reads as it did. -/
def verifyExactUptoRow : OpenClaim := { program := "ytjbbbejadhojlaadoor", sum := "28ba3e58a1383b0f0e402fabefd48466dc665b1cffd21ba17bb6d80485a19d5c", func := "payoff/payofflaw14.VerifyExact", spec := "verifyExact", unfollowed := true, recurses := true, named := ["payoff/code.rows", "payoff/verify.rules"], apart := false, laid := [("payoff/code.rows", laid_payoff_code_rows), ("payoff/verify.rules", laid_payoff_verify_rules)], narrowed := true }
def VerifyExactUptoSaid : Prop := verifyExactUptoRow.holds Tryd.pinned (OpenSpec.upto verifyExactSpec)

/-- 'payofflaw14.VerifyHeights', WHERE WHAT IT READS IS OF BULK AT MOST 1048576: true; the input reads as it did. -/
def verifyHeightsUptoRow : OpenClaim := { program := "ytjbbbejadhojlaadoor", sum := "28ba3e58a1383b0f0e402fabefd48466dc665b1cffd21ba17bb6d80485a19d5c", func := "payoff/payofflaw14.VerifyHeights", spec := "verifyHeights", unfollowed := true, recurses := true, named := ["payoff/code.rows", "payoff/verify.rules"], apart := false, laid := [("payoff/code.rows", laid_payoff_code_rows), ("payoff/verify.rules", laid_payoff_verify_rules)], narrowed := true }
def VerifyHeightsUptoSaid : Prop := verifyHeightsUptoRow.holds Tryd.pinned (OpenSpec.upto verifyHeightsSpec)

end Rows
end Go.Proofs.YtjbbbejadhojlaaDoor
