/-
  NARROWER THAN 'FOR EVERY INPUT', by the rows' own cells (each row's printed sentence says how): LegsValues: loops · LegsPlays: loops.
  DERIVED. THE GIVEN ROWS OF THIS SEAT. 2 by the template 'for every input the law returns true; each argument reads behind the call as it read before'; 0 by the template 'total and deterministic' (their statements: YtjlnbhmiahegmaaTotals.lean).
  GIVEN WITH THE SEED: the statements are not yours to turn. If you find one false, say at which input.
  Laid BY PROGRAM, IN A SANDBOX (cutbox-rows.mjs): the forced cells as the released guide's own fill.sh prints them over the translation 799268b2a12c15f2… (all of the seat's roots in one cut). By AI agents, Wed Nov 11 2026. No macro, syntax, notation, axiom, sorry.
-/
import Derived.Test.YtjlnbhmiahegmaaChecked
import GoSem.Claim
import GoSem.ClaimJoined
import GoSem.ClaimMapViews
import Derived.JoinedTies
import Derived.KernelRfl
namespace Go.Proofs.Ytjlnbhmiahegmaa
/- THE CELL 'sum', in the pinned program and in every row, IS THE sha256 OF THE DUMP (.gsa) THAT YtjlnbhmiahegmaaProg.lean LOADS. Nothing in Lean hashes anything: it is a label: what it is worth is what the hold of that sum in a sandbox is worth. -/
noncomputable def Try.pinned : Pinned := { name := "ytjlnbhmiahegmaa", sum := "799268b2a12c15f2624a6e6227a8d8acc4f2657963505e2a3df1f88c585b5461", checked := Try.checked }
namespace Rows
def none {H : Type} : Left H := { results := [], args := [] }

/-- 'payofflaw09.LegsValues': WHATEVER THE INPUT: true; the input reads as it did. -/
def legsValuesSpec : ChangeSpec := { name := "legsValues", fn := fun _ => fun
  | [d1, d2, d3] => { results := [.lit (.bool true)], args := [d1, d2, d3] }
  | _ => none }
def legsValuesRow : OpenClaim := { program := "ytjlnbhmiahegmaa", sum := "799268b2a12c15f2624a6e6227a8d8acc4f2657963505e2a3df1f88c585b5461", func := "payoff/payofflaw09.LegsValues", spec := "legsValues", unfollowed := true, recurses := true, named := ["math/bits.divideError", "math/bits.overflowError"], loops := true, apart := false }
def LegsValuesSaid : Prop := legsValuesRow.holds Try.pinned (OpenSpec.ofChange legsValuesSpec)

/-- ITS FALSE NEIGHBOUR: 'it returns false'. Refute it at one input. -/
def legsValuesWrong : ChangeSpec := { name := "legsValues", fn := fun _ => fun
  | [d1, d2, d3] => { results := [.lit (.bool false)], args := [d1, d2, d3] }
  | _ => none }
def LegsValuesWrongFalsely : Prop := legsValuesRow.holds Try.pinned (OpenSpec.ofChange legsValuesWrong)

/-- 'payofflaw09.LegsPlays': WHATEVER THE INPUT: true; the input reads as it did. -/
def legsPlaysSpec : ChangeSpec := { name := "legsPlays", fn := fun _ => fun
  | [d1, d2, d3] => { results := [.lit (.bool true)], args := [d1, d2, d3] }
  | _ => none }
def legsPlaysRow : OpenClaim := { program := "ytjlnbhmiahegmaa", sum := "799268b2a12c15f2624a6e6227a8d8acc4f2657963505e2a3df1f88c585b5461", func := "payoff/payofflaw09.LegsPlays", spec := "legsPlays", unfollowed := true, recurses := true, named := ["math/bits.divideError", "math/bits.overflowError"], loops := true, apart := false }
def LegsPlaysSaid : Prop := legsPlaysRow.holds Try.pinned (OpenSpec.ofChange legsPlaysSpec)

/-- ITS FALSE NEIGHBOUR: 'it returns false'. Refute it at one input. -/
def legsPlaysWrong : ChangeSpec := { name := "legsPlays", fn := fun _ => fun
  | [d1, d2, d3] => { results := [.lit (.bool false)], args := [d1, d2, d3] }
  | _ => none }
def LegsPlaysWrongFalsely : Prop := legsPlaysRow.holds Try.pinned (OpenSpec.ofChange legsPlaysWrong)

/- THE SECOND FORM. 'bulk': how many values and letters a reading holds, each counted each time it is reached (what is shared counts as often as it is met; a slice's spare places count too). A statement '..UptoSaid' is the law's where the arguments, and the package variables that the reading takes, are together of bulk at most 1048576: NARROWER than '..Said'. Prove '..Said' where nothing that the law and all that it calls make is longer than what came in: it says more and counts as full. Else prove '..UptoSaid'. A law counts once. -/
mutual
def uptoBulk {H : Type} : DataW H → Nat
  | .lit (.string bytes) => bytes.length + 1
  | .lit _ => 1
  | .nil => 1
  | .ptr d => uptoBulk d + 1
  | .slice elems spare => uptoBulkAll elems + uptoBulkAll spare + 1
  | .agg parts => uptoBulkAll parts + 1
  | .iface _ d => uptoBulk d + 1
  | .map entries => uptoBulkEntries entries + 1
  | .held _ => 1
def uptoBulkAll {H : Type} : List (DataW H) → Nat
  | [] => 0
  | d :: r => uptoBulk d + uptoBulkAll r
def uptoBulkEntries {H : Type} : List (Lit × DataW H) → Nat
  | [] => 0
  | x :: r => uptoBulkEntry x + uptoBulkEntries r
def uptoBulkEntry {H : Type} : Lit × DataW H → Nat
  | (.string bytes, d) => bytes.length + uptoBulk d + 1
  | (_, d) => uptoBulk d + 1
 end
def uptoSmall : (H : Type) → List (DataW H) → Bool := fun _ ds => decide (uptoBulkAll ds ≤ 1048576)
def OpenSpec.upto (s : _root_.Go.ChangeSpec) : _root_.Go.OpenSpec := { _root_.Go.OpenSpec.ofChange s with cond := some uptoSmall }

/-- 'payofflaw09.LegsValues', WHERE WHAT IT READS IS OF BULK AT MOST 1048576: true; the input reads as it did. -/
def legsValuesUptoRow : OpenClaim := { program := "ytjlnbhmiahegmaa", sum := "799268b2a12c15f2624a6e6227a8d8acc4f2657963505e2a3df1f88c585b5461", func := "payoff/payofflaw09.LegsValues", spec := "legsValues", unfollowed := true, recurses := true, named := ["math/bits.divideError", "math/bits.overflowError"], loops := true, apart := false, narrowed := true }
def LegsValuesUptoSaid : Prop := legsValuesUptoRow.holds Try.pinned (OpenSpec.upto legsValuesSpec)

/-- 'payofflaw09.LegsPlays', WHERE WHAT IT READS IS OF BULK AT MOST 1048576: true; the input reads as it did. -/
def legsPlaysUptoRow : OpenClaim := { program := "ytjlnbhmiahegmaa", sum := "799268b2a12c15f2624a6e6227a8d8acc4f2657963505e2a3df1f88c585b5461", func := "payoff/payofflaw09.LegsPlays", spec := "legsPlays", unfollowed := true, recurses := true, named := ["math/bits.divideError", "math/bits.overflowError"], loops := true, apart := false, narrowed := true }
def LegsPlaysUptoSaid : Prop := legsPlaysUptoRow.holds Try.pinned (OpenSpec.upto legsPlaysSpec)

end Rows
end Go.Proofs.Ytjlnbhmiahegmaa
