/-
  NARROWER THAN 'FOR EVERY INPUT', by the rows' own cells (each row's printed sentence says how): CalSixty: laid · CalThirds: laid · CalOne: laid · CalTenors: laid · CalThereAndBack: laid · CalTexts: laid · CalNumbers: laid · CalAdds: laid.
  DERIVED. THE GIVEN ROWS OF THIS SEAT. 8 by the template 'for every input the law returns true; each argument reads behind the call as it read before'; 0 by the template 'total and deterministic' (their statements: YtceomklkicpmoaaDoorTotals.lean).
  GIVEN WITH THE SEED: the statements are not yours to turn. If you find one false, say at which input.
  Laid BY PROGRAM, IN A SANDBOX (cutbox-rows.mjs): the forced cells as the released guide's own fill.sh prints them over the translation 35c1717672d4cd1c… (all of the seat's roots in one cut). By AI agents, Wed Nov 11 2026. No macro, syntax, notation, axiom, sorry.
-/
import Derived.Test.YtceomklkicpmoaaDoorChecked
import GoSem.Claim
import GoSem.ClaimJoined
import GoSem.ClaimMapViews
import Derived.JoinedTies
import Derived.KernelRfl
namespace Go.Proofs.YtceomklkicpmoaaDoor
/- THE CELL 'sum', in the pinned program and in every row, IS THE sha256 OF THE DUMP (.gsa) THAT YtceomklkicpmoaaDoorProg.lean LOADS. Nothing in Lean hashes anything: it is a label: what it is worth is what the hold of that sum in a sandbox is worth. -/
noncomputable def Tryd.pinned : Pinned := { name := "ytceomklkicpmoaadoor", sum := "35c1717672d4cd1ca6c4d130e0d6663c77f253093c98a2d22c35fba2c4fc60e0", checked := Tryd.checked }
namespace Rows
def none {H : Type} : Left H := { results := [], args := [] }

/- WHAT THE LISTED PACKAGE-LEVEL VARIABLES READ AS WHEN THE CALL BEGINS. Each datum BY PROGRAM (the guide's laid-datum.mjs) off the statement by which the dump's own 'gosem.cut.vars' lays the variable. In a bare row this is a premise. The card (YtceomklkicpmoaaDoorCards.lean) ties it to the program's text. -/
def laid_payoff_cal_monthDays {H : Type} : DataW H := .agg [.lit (.int .i64 31), .lit (.int .i64 28), .lit (.int .i64 31), .lit (.int .i64 30), .lit (.int .i64 31), .lit (.int .i64 30), .lit (.int .i64 31), .lit (.int .i64 31), .lit (.int .i64 30), .lit (.int .i64 31), .lit (.int .i64 30), .lit (.int .i64 31)]
def laid_math_bits_deBruijn32tab {H : Type} : DataW H := .agg [.lit (.int .u8 0), .lit (.int .u8 1), .lit (.int .u8 28), .lit (.int .u8 2), .lit (.int .u8 29), .lit (.int .u8 14), .lit (.int .u8 24), .lit (.int .u8 3), .lit (.int .u8 30), .lit (.int .u8 22), .lit (.int .u8 20), .lit (.int .u8 15), .lit (.int .u8 25), .lit (.int .u8 17), .lit (.int .u8 4), .lit (.int .u8 8), .lit (.int .u8 31), .lit (.int .u8 27), .lit (.int .u8 13), .lit (.int .u8 23), .lit (.int .u8 21), .lit (.int .u8 19), .lit (.int .u8 16), .lit (.int .u8 7), .lit (.int .u8 26), .lit (.int .u8 12), .lit (.int .u8 18), .lit (.int .u8 6), .lit (.int .u8 11), .lit (.int .u8 5), .lit (.int .u8 10), .lit (.int .u8 9)]
def laid_math_bits_deBruijn64tab {H : Type} : DataW H := .agg [.lit (.int .u8 0), .lit (.int .u8 1), .lit (.int .u8 56), .lit (.int .u8 2), .lit (.int .u8 57), .lit (.int .u8 49), .lit (.int .u8 28), .lit (.int .u8 3), .lit (.int .u8 61), .lit (.int .u8 58), .lit (.int .u8 42), .lit (.int .u8 50), .lit (.int .u8 38), .lit (.int .u8 29), .lit (.int .u8 17), .lit (.int .u8 4), .lit (.int .u8 62), .lit (.int .u8 47), .lit (.int .u8 59), .lit (.int .u8 36), .lit (.int .u8 45), .lit (.int .u8 43), .lit (.int .u8 51), .lit (.int .u8 22), .lit (.int .u8 53), .lit (.int .u8 39), .lit (.int .u8 33), .lit (.int .u8 30), .lit (.int .u8 24), .lit (.int .u8 18), .lit (.int .u8 12), .lit (.int .u8 5), .lit (.int .u8 63), .lit (.int .u8 55), .lit (.int .u8 48), .lit (.int .u8 27), .lit (.int .u8 60), .lit (.int .u8 41), .lit (.int .u8 37), .lit (.int .u8 16), .lit (.int .u8 46), .lit (.int .u8 35), .lit (.int .u8 44), .lit (.int .u8 21), .lit (.int .u8 52), .lit (.int .u8 32), .lit (.int .u8 23), .lit (.int .u8 11), .lit (.int .u8 54), .lit (.int .u8 26), .lit (.int .u8 40), .lit (.int .u8 15), .lit (.int .u8 34), .lit (.int .u8 20), .lit (.int .u8 31), .lit (.int .u8 10), .lit (.int .u8 25), .lit (.int .u8 14), .lit (.int .u8 19), .lit (.int .u8 9), .lit (.int .u8 13), .lit (.int .u8 8), .lit (.int .u8 7), .lit (.int .u8 6)]
def laid_internal_strconv_uint64pow10 {H : Type} : DataW H := .agg [.lit (.int .u64 1), .lit (.int .u64 10), .lit (.int .u64 100), .lit (.int .u64 1000), .lit (.int .u64 10000), .lit (.int .u64 100000), .lit (.int .u64 1000000), .lit (.int .u64 10000000), .lit (.int .u64 100000000), .lit (.int .u64 1000000000), .lit (.int .u64 10000000000), .lit (.int .u64 100000000000), .lit (.int .u64 1000000000000), .lit (.int .u64 10000000000000), .lit (.int .u64 100000000000000), .lit (.int .u64 1000000000000000), .lit (.int .u64 10000000000000000), .lit (.int .u64 100000000000000000), .lit (.int .u64 1000000000000000000), .lit (.int .u64 10000000000000000000)]

/-- 'payofflaw02.CalSixty': WHATEVER THE INPUT: true; the input reads as it did. -/
def calSixtySpec : ChangeSpec := { name := "calSixty", fn := fun _ => fun
  | [d1, d2, d3] => { results := [.lit (.bool true)], args := [d1, d2, d3] }
  | _ => none }
def calSixtyRow : OpenClaim := { program := "ytceomklkicpmoaadoor", sum := "35c1717672d4cd1ca6c4d130e0d6663c77f253093c98a2d22c35fba2c4fc60e0", func := "payoff/payofflaw02.CalSixty", spec := "calSixty", named := ["payoff/cal.monthDays"], apart := false, laid := [("payoff/cal.monthDays", laid_payoff_cal_monthDays)] }
def CalSixtySaid : Prop := calSixtyRow.holds Tryd.pinned (OpenSpec.ofChange calSixtySpec)

/-- ITS FALSE NEIGHBOUR: 'it returns false'. Refute it at one input. -/
def calSixtyWrong : ChangeSpec := { name := "calSixty", fn := fun _ => fun
  | [d1, d2, d3] => { results := [.lit (.bool false)], args := [d1, d2, d3] }
  | _ => none }
def CalSixtyWrongFalsely : Prop := calSixtyRow.holds Tryd.pinned (OpenSpec.ofChange calSixtyWrong)

/-- 'payofflaw02.CalThirds': WHATEVER THE INPUT: true; the input reads as it did. -/
def calThirdsSpec : ChangeSpec := { name := "calThirds", fn := fun _ => fun
  | [d1, d2] => { results := [.lit (.bool true)], args := [d1, d2] }
  | _ => none }
def calThirdsRow : OpenClaim := { program := "ytceomklkicpmoaadoor", sum := "35c1717672d4cd1ca6c4d130e0d6663c77f253093c98a2d22c35fba2c4fc60e0", func := "payoff/payofflaw02.CalThirds", spec := "calThirds", named := ["payoff/cal.monthDays"], apart := false, laid := [("payoff/cal.monthDays", laid_payoff_cal_monthDays)] }
def CalThirdsSaid : Prop := calThirdsRow.holds Tryd.pinned (OpenSpec.ofChange calThirdsSpec)

/-- ITS FALSE NEIGHBOUR: 'it returns false'. Refute it at one input. -/
def calThirdsWrong : ChangeSpec := { name := "calThirds", fn := fun _ => fun
  | [d1, d2] => { results := [.lit (.bool false)], args := [d1, d2] }
  | _ => none }
def CalThirdsWrongFalsely : Prop := calThirdsRow.holds Tryd.pinned (OpenSpec.ofChange calThirdsWrong)

/-- 'payofflaw02.CalOne': WHATEVER THE INPUT: true; the input reads as it did. -/
def calOneSpec : ChangeSpec := { name := "calOne", fn := fun _ => fun
  | [d] => { results := [.lit (.bool true)], args := [d] }
  | _ => none }
def calOneRow : OpenClaim := { program := "ytceomklkicpmoaadoor", sum := "35c1717672d4cd1ca6c4d130e0d6663c77f253093c98a2d22c35fba2c4fc60e0", func := "payoff/payofflaw02.CalOne", spec := "calOne", named := ["payoff/cal.monthDays"], apart := false, laid := [("payoff/cal.monthDays", laid_payoff_cal_monthDays)] }
def CalOneSaid : Prop := calOneRow.holds Tryd.pinned (OpenSpec.ofChange calOneSpec)

/-- ITS FALSE NEIGHBOUR: 'it returns false'. Refute it at one input. -/
def calOneWrong : ChangeSpec := { name := "calOne", fn := fun _ => fun
  | [d] => { results := [.lit (.bool false)], args := [d] }
  | _ => none }
def CalOneWrongFalsely : Prop := calOneRow.holds Tryd.pinned (OpenSpec.ofChange calOneWrong)

/-- 'payofflaw02.CalTenors': WHATEVER THE INPUT: true; the input reads as it did. -/
def calTenorsSpec : ChangeSpec := { name := "calTenors", fn := fun _ => fun
  | [d1, d2, d3] => { results := [.lit (.bool true)], args := [d1, d2, d3] }
  | _ => none }
def calTenorsRow : OpenClaim := { program := "ytceomklkicpmoaadoor", sum := "35c1717672d4cd1ca6c4d130e0d6663c77f253093c98a2d22c35fba2c4fc60e0", func := "payoff/payofflaw02.CalTenors", spec := "calTenors", named := ["payoff/cal.monthDays"], apart := false, laid := [("payoff/cal.monthDays", laid_payoff_cal_monthDays)] }
def CalTenorsSaid : Prop := calTenorsRow.holds Tryd.pinned (OpenSpec.ofChange calTenorsSpec)

/-- ITS FALSE NEIGHBOUR: 'it returns false'. Refute it at one input. -/
def calTenorsWrong : ChangeSpec := { name := "calTenors", fn := fun _ => fun
  | [d1, d2, d3] => { results := [.lit (.bool false)], args := [d1, d2, d3] }
  | _ => none }
def CalTenorsWrongFalsely : Prop := calTenorsRow.holds Tryd.pinned (OpenSpec.ofChange calTenorsWrong)

/-- 'payofflaw02.CalThereAndBack': WHATEVER THE INPUT: true; the input reads as it did. -/
def calThereAndBackSpec : ChangeSpec := { name := "calThereAndBack", fn := fun _ => fun
  | [d] => { results := [.lit (.bool true)], args := [d] }
  | _ => none }
def calThereAndBackRow : OpenClaim := { program := "ytceomklkicpmoaadoor", sum := "35c1717672d4cd1ca6c4d130e0d6663c77f253093c98a2d22c35fba2c4fc60e0", func := "payoff/payofflaw02.CalThereAndBack", spec := "calThereAndBack", named := ["payoff/cal.monthDays", "internal/strconv.uint64pow10", "math/bits.deBruijn32tab", "math/bits.deBruijn64tab"], apart := false, laid := [("math/bits.deBruijn32tab", laid_math_bits_deBruijn32tab), ("math/bits.deBruijn64tab", laid_math_bits_deBruijn64tab), ("internal/strconv.uint64pow10", laid_internal_strconv_uint64pow10), ("payoff/cal.monthDays", laid_payoff_cal_monthDays)] }
def CalThereAndBackSaid : Prop := calThereAndBackRow.holds Tryd.pinned (OpenSpec.ofChange calThereAndBackSpec)

/-- ITS FALSE NEIGHBOUR: 'it returns false'. Refute it at one input. -/
def calThereAndBackWrong : ChangeSpec := { name := "calThereAndBack", fn := fun _ => fun
  | [d] => { results := [.lit (.bool false)], args := [d] }
  | _ => none }
def CalThereAndBackWrongFalsely : Prop := calThereAndBackRow.holds Tryd.pinned (OpenSpec.ofChange calThereAndBackWrong)

/-- 'payofflaw02.CalTexts': WHATEVER THE INPUT: true; the input reads as it did. -/
def calTextsSpec : ChangeSpec := { name := "calTexts", fn := fun _ => fun
  | [d1, d2] => { results := [.lit (.bool true)], args := [d1, d2] }
  | _ => none }
def calTextsRow : OpenClaim := { program := "ytceomklkicpmoaadoor", sum := "35c1717672d4cd1ca6c4d130e0d6663c77f253093c98a2d22c35fba2c4fc60e0", func := "payoff/payofflaw02.CalTexts", spec := "calTexts", named := ["payoff/cal.monthDays", "internal/strconv.uint64pow10", "math/bits.deBruijn32tab", "math/bits.deBruijn64tab"], apart := false, laid := [("math/bits.deBruijn32tab", laid_math_bits_deBruijn32tab), ("math/bits.deBruijn64tab", laid_math_bits_deBruijn64tab), ("internal/strconv.uint64pow10", laid_internal_strconv_uint64pow10), ("payoff/cal.monthDays", laid_payoff_cal_monthDays)] }
def CalTextsSaid : Prop := calTextsRow.holds Tryd.pinned (OpenSpec.ofChange calTextsSpec)

/-- ITS FALSE NEIGHBOUR: 'it returns false'. Refute it at one input. -/
def calTextsWrong : ChangeSpec := { name := "calTexts", fn := fun _ => fun
  | [d1, d2] => { results := [.lit (.bool false)], args := [d1, d2] }
  | _ => none }
def CalTextsWrongFalsely : Prop := calTextsRow.holds Tryd.pinned (OpenSpec.ofChange calTextsWrong)

/-- 'payofflaw02.CalNumbers': WHATEVER THE INPUT: true; the input reads as it did. -/
def calNumbersSpec : ChangeSpec := { name := "calNumbers", fn := fun _ => fun
  | [d1, d2] => { results := [.lit (.bool true)], args := [d1, d2] }
  | _ => none }
def calNumbersRow : OpenClaim := { program := "ytceomklkicpmoaadoor", sum := "35c1717672d4cd1ca6c4d130e0d6663c77f253093c98a2d22c35fba2c4fc60e0", func := "payoff/payofflaw02.CalNumbers", spec := "calNumbers", named := ["payoff/cal.monthDays"], apart := false, laid := [("payoff/cal.monthDays", laid_payoff_cal_monthDays)] }
def CalNumbersSaid : Prop := calNumbersRow.holds Tryd.pinned (OpenSpec.ofChange calNumbersSpec)

/-- ITS FALSE NEIGHBOUR: 'it returns false'. Refute it at one input. -/
def calNumbersWrong : ChangeSpec := { name := "calNumbers", fn := fun _ => fun
  | [d1, d2] => { results := [.lit (.bool false)], args := [d1, d2] }
  | _ => none }
def CalNumbersWrongFalsely : Prop := calNumbersRow.holds Tryd.pinned (OpenSpec.ofChange calNumbersWrong)

/-- 'payofflaw02.CalAdds': WHATEVER THE INPUT: true; the input reads as it did. -/
def calAddsSpec : ChangeSpec := { name := "calAdds", fn := fun _ => fun
  | [d1, d2, d3] => { results := [.lit (.bool true)], args := [d1, d2, d3] }
  | _ => none }
def calAddsRow : OpenClaim := { program := "ytceomklkicpmoaadoor", sum := "35c1717672d4cd1ca6c4d130e0d6663c77f253093c98a2d22c35fba2c4fc60e0", func := "payoff/payofflaw02.CalAdds", spec := "calAdds", named := ["payoff/cal.monthDays"], apart := false, laid := [("payoff/cal.monthDays", laid_payoff_cal_monthDays)] }
def CalAddsSaid : Prop := calAddsRow.holds Tryd.pinned (OpenSpec.ofChange calAddsSpec)

/-- ITS FALSE NEIGHBOUR: 'it returns false'. Refute it at one input. -/
def calAddsWrong : ChangeSpec := { name := "calAdds", fn := fun _ => fun
  | [d1, d2, d3] => { results := [.lit (.bool false)], args := [d1, d2, d3] }
  | _ => none }
def CalAddsWrongFalsely : Prop := calAddsRow.holds Tryd.pinned (OpenSpec.ofChange calAddsWrong)

/- THE SECOND FORM. 'bulk': how many values and letters a reading holds, each counted each time it is reached (what is shared counts as often as it is met; a slice's spare places count too). A statement '..UptoSaid' is the law's where the arguments, and the package variables that the reading takes, are together of bulk at most 1048576: NARROWER than '..Said'. Prove '..Said' where nothing that the law and all that it calls make is longer than what came in: it says more and counts as full. Else prove '..UptoSaid'. A law counts once. -/
mutual
def uptoBulk {H : Type} : DataW H → Nat
  | .lit (.string bytes) => bytes.length + 1
  | .lit _ => 1
  | .nil => 1
  | .ptr d => uptoBulk d + 1
  | .slice elems spare => uptoBulkAll elems + uptoBulkAll spare + 1
  | .agg parts => uptoBulkAll parts + 1
  | .iface _ d => uptoBulk d + 1
  | .map entries => uptoBulkEntries entries + 1
  | .held _ => 1
def uptoBulkAll {H : Type} : List (DataW H) → Nat
  | [] => 0
  | d :: r => uptoBulk d + uptoBulkAll r
def uptoBulkEntries {H : Type} : List (Lit × DataW H) → Nat
  | [] => 0
  | x :: r => uptoBulkEntry x + uptoBulkEntries r
def uptoBulkEntry {H : Type} : Lit × DataW H → Nat
  | (.string bytes, d) => bytes.length + uptoBulk d + 1
  | (_, d) => uptoBulk d + 1
 end
def uptoSmall : (H : Type) → List (DataW H) → Bool := fun _ ds => decide (uptoBulkAll ds ≤ 1048576)
def OpenSpec.upto (s : _root_.Go.ChangeSpec) : _root_.Go.OpenSpec := { _root_.Go.OpenSpec.ofChange s with cond := some uptoSmall }

/-- 'payofflaw02.CalSixty', WHERE WHAT IT READS IS OF BULK AT MOST 1048576: true; the input reads as it did. -/
def calSixtyUptoRow : OpenClaim := { program := "ytceomklkicpmoaadoor", sum := "35c1717672d4cd1ca6c4d130e0d6663c77f253093c98a2d22c35fba2c4fc60e0", func := "payoff/payofflaw02.CalSixty", spec := "calSixty", named := ["payoff/cal.monthDays"], apart := false, laid := [("payoff/cal.monthDays", laid_payoff_cal_monthDays)], narrowed := true }
def CalSixtyUptoSaid : Prop := calSixtyUptoRow.holds Tryd.pinned (OpenSpec.upto calSixtySpec)

/-- 'payofflaw02.CalThirds', WHERE WHAT IT READS IS OF BULK AT MOST 1048576: true; the input reads as it did. -/
def calThirdsUptoRow : OpenClaim := { program := "ytceomklkicpmoaadoor", sum := "35c1717672d4cd1ca6c4d130e0d6663c77f253093c98a2d22c35fba2c4fc60e0", func := "payoff/payofflaw02.CalThirds", spec := "calThirds", named := ["payoff/cal.monthDays"], apart := false, laid := [("payoff/cal.monthDays", laid_payoff_cal_monthDays)], narrowed := true }
def CalThirdsUptoSaid : Prop := calThirdsUptoRow.holds Tryd.pinned (OpenSpec.upto calThirdsSpec)

/-- 'payofflaw02.CalOne', WHERE WHAT IT READS IS OF BULK AT MOST 1048576: true; the input reads as it did. -/
def calOneUptoRow : OpenClaim := { program := "ytceomklkicpmoaadoor", sum := "35c1717672d4cd1ca6c4d130e0d6663c77f253093c98a2d22c35fba2c4fc60e0", func := "payoff/payofflaw02.CalOne", spec := "calOne", named := ["payoff/cal.monthDays"], apart := false, laid := [("payoff/cal.monthDays", laid_payoff_cal_monthDays)], narrowed := true }
def CalOneUptoSaid : Prop := calOneUptoRow.holds Tryd.pinned (OpenSpec.upto calOneSpec)

/-- 'payofflaw02.CalTenors', WHERE WHAT IT READS IS OF BULK AT MOST 1048576: true; the input reads as it did. -/
def calTenorsUptoRow : OpenClaim := { program := "ytceomklkicpmoaadoor", sum := "35c1717672d4cd1ca6c4d130e0d6663c77f253093c98a2d22c35fba2c4fc60e0", func := "payoff/payofflaw02.CalTenors", spec := "calTenors", named := ["payoff/cal.monthDays"], apart := false, laid := [("payoff/cal.monthDays", laid_payoff_cal_monthDays)], narrowed := true }
def CalTenorsUptoSaid : Prop := calTenorsUptoRow.holds Tryd.pinned (OpenSpec.upto calTenorsSpec)

/-- 'payofflaw02.CalThereAndBack', WHERE WHAT IT READS IS OF BULK AT MOST 1048576: true; the input reads as it did. -/
def calThereAndBackUptoRow : OpenClaim := { program := "ytceomklkicpmoaadoor", sum := "35c1717672d4cd1ca6c4d130e0d6663c77f253093c98a2d22c35fba2c4fc60e0", func := "payoff/payofflaw02.CalThereAndBack", spec := "calThereAndBack", named := ["payoff/cal.monthDays", "internal/strconv.uint64pow10", "math/bits.deBruijn32tab", "math/bits.deBruijn64tab"], apart := false, laid := [("math/bits.deBruijn32tab", laid_math_bits_deBruijn32tab), ("math/bits.deBruijn64tab", laid_math_bits_deBruijn64tab), ("internal/strconv.uint64pow10", laid_internal_strconv_uint64pow10), ("payoff/cal.monthDays", laid_payoff_cal_monthDays)], narrowed := true }
def CalThereAndBackUptoSaid : Prop := calThereAndBackUptoRow.holds Tryd.pinned (OpenSpec.upto calThereAndBackSpec)

/-- 'payofflaw02.CalTexts', WHERE WHAT IT READS IS OF BULK AT MOST 1048576: true; the input reads as it did. -/
def calTextsUptoRow : OpenClaim := { program := "ytceomklkicpmoaadoor", sum := "35c1717672d4cd1ca6c4d130e0d6663c77f253093c98a2d22c35fba2c4fc60e0", func := "payoff/payofflaw02.CalTexts", spec := "calTexts", named := ["payoff/cal.monthDays", "internal/strconv.uint64pow10", "math/bits.deBruijn32tab", "math/bits.deBruijn64tab"], apart := false, laid := [("math/bits.deBruijn32tab", laid_math_bits_deBruijn32tab), ("math/bits.deBruijn64tab", laid_math_bits_deBruijn64tab), ("internal/strconv.uint64pow10", laid_internal_strconv_uint64pow10), ("payoff/cal.monthDays", laid_payoff_cal_monthDays)], narrowed := true }
def CalTextsUptoSaid : Prop := calTextsUptoRow.holds Tryd.pinned (OpenSpec.upto calTextsSpec)

/-- 'payofflaw02.CalNumbers', WHERE WHAT IT READS IS OF BULK AT MOST 1048576: true; the input reads as it did. -/
def calNumbersUptoRow : OpenClaim := { program := "ytceomklkicpmoaadoor", sum := "35c1717672d4cd1ca6c4d130e0d6663c77f253093c98a2d22c35fba2c4fc60e0", func := "payoff/payofflaw02.CalNumbers", spec := "calNumbers", named := ["payoff/cal.monthDays"], apart := false, laid := [("payoff/cal.monthDays", laid_payoff_cal_monthDays)], narrowed := true }
def CalNumbersUptoSaid : Prop := calNumbersUptoRow.holds Tryd.pinned (OpenSpec.upto calNumbersSpec)

/-- 'payofflaw02.CalAdds', WHERE WHAT IT READS IS OF BULK AT MOST 1048576: true; the input reads as it did. -/
def calAddsUptoRow : OpenClaim := { program := "ytceomklkicpmoaadoor", sum := "35c1717672d4cd1ca6c4d130e0d6663c77f253093c98a2d22c35fba2c4fc60e0", func := "payoff/payofflaw02.CalAdds", spec := "calAdds", named := ["payoff/cal.monthDays"], apart := false, laid := [("payoff/cal.monthDays", laid_payoff_cal_monthDays)], narrowed := true }
def CalAddsUptoSaid : Prop := calAddsUptoRow.holds Tryd.pinned (OpenSpec.upto calAddsSpec)

end Rows
end Go.Proofs.YtceomklkicpmoaaDoor
