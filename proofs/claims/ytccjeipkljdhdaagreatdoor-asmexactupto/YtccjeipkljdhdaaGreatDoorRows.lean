/-
  NARROWER THAN 'FOR EVERY INPUT', by the rows' own cells (each row's printed sentence says how): AsmOnly: laid · AsmWords: laid · AsmExact: laid.
  DERIVED. THE GIVEN ROWS OF THIS SEAT. 3 by the template 'for every input the law returns true; each argument reads behind the call as it read before'; 0 by the template 'total and deterministic' (their statements: YtccjeipkljdhdaaGreatDoorTotals.lean).
  GIVEN WITH THE SEED: the statements are not yours to turn. If you find one false, say at which input.
  Laid BY PROGRAM, IN A SANDBOX (cutbox-rows.mjs): the forced cells as the released guide's own fill.sh prints them over the translation c3d2cd2b53e705c5… (all of the seat's roots in one cut). By AI agents, Wed Nov 11 2026. No macro, syntax, notation, axiom, sorry.
-/
import Derived.Test.YtccjeipkljdhdaaGreatDoorChecked
import GoSem.Claim
import GoSem.ClaimJoined
import GoSem.ClaimMapViews
import Derived.JoinedTies
import Derived.KernelRfl
namespace Go.Proofs.YtccjeipkljdhdaaGreatDoor
/- THE CELL 'sum', in the pinned program and in every row, IS THE sha256 OF THE DUMP (.gsa) THAT YtccjeipkljdhdaaGreatDoorProg.lean LOADS. Nothing in Lean hashes anything: it is a label: what it is worth is what the hold of that sum in a sandbox is worth. -/
noncomputable def Tryz.pinned : Pinned := { name := "ytccjeipkljdhdaagreatdoor", sum := "c3d2cd2b53e705c597611fe932f4f5ae75fcf836d217afaef5d4b28bc5b25346", checked := Tryz.checked }
namespace Rows
def none {H : Type} : Left H := { results := [], args := [] }

/- WHAT THE LISTED PACKAGE-LEVEL VARIABLES READ AS WHEN THE CALL BEGINS. Each datum BY PROGRAM (the guide's laid-datum.mjs) off the statement by which the dump's own 'gosem.cut.vars' lays the variable. In a bare row this is a premise. The card (YtccjeipkljdhdaaGreatDoorCards.lean) ties it to the program's text. -/
def laid_math_bits_deBruijn32tab {H : Type} : DataW H := .agg [.lit (.int .u8 0), .lit (.int .u8 1), .lit (.int .u8 28), .lit (.int .u8 2), .lit (.int .u8 29), .lit (.int .u8 14), .lit (.int .u8 24), .lit (.int .u8 3), .lit (.int .u8 30), .lit (.int .u8 22), .lit (.int .u8 20), .lit (.int .u8 15), .lit (.int .u8 25), .lit (.int .u8 17), .lit (.int .u8 4), .lit (.int .u8 8), .lit (.int .u8 31), .lit (.int .u8 27), .lit (.int .u8 13), .lit (.int .u8 23), .lit (.int .u8 21), .lit (.int .u8 19), .lit (.int .u8 16), .lit (.int .u8 7), .lit (.int .u8 26), .lit (.int .u8 12), .lit (.int .u8 18), .lit (.int .u8 6), .lit (.int .u8 11), .lit (.int .u8 5), .lit (.int .u8 10), .lit (.int .u8 9)]
def laid_math_bits_deBruijn64tab {H : Type} : DataW H := .agg [.lit (.int .u8 0), .lit (.int .u8 1), .lit (.int .u8 56), .lit (.int .u8 2), .lit (.int .u8 57), .lit (.int .u8 49), .lit (.int .u8 28), .lit (.int .u8 3), .lit (.int .u8 61), .lit (.int .u8 58), .lit (.int .u8 42), .lit (.int .u8 50), .lit (.int .u8 38), .lit (.int .u8 29), .lit (.int .u8 17), .lit (.int .u8 4), .lit (.int .u8 62), .lit (.int .u8 47), .lit (.int .u8 59), .lit (.int .u8 36), .lit (.int .u8 45), .lit (.int .u8 43), .lit (.int .u8 51), .lit (.int .u8 22), .lit (.int .u8 53), .lit (.int .u8 39), .lit (.int .u8 33), .lit (.int .u8 30), .lit (.int .u8 24), .lit (.int .u8 18), .lit (.int .u8 12), .lit (.int .u8 5), .lit (.int .u8 63), .lit (.int .u8 55), .lit (.int .u8 48), .lit (.int .u8 27), .lit (.int .u8 60), .lit (.int .u8 41), .lit (.int .u8 37), .lit (.int .u8 16), .lit (.int .u8 46), .lit (.int .u8 35), .lit (.int .u8 44), .lit (.int .u8 21), .lit (.int .u8 52), .lit (.int .u8 32), .lit (.int .u8 23), .lit (.int .u8 11), .lit (.int .u8 54), .lit (.int .u8 26), .lit (.int .u8 40), .lit (.int .u8 15), .lit (.int .u8 34), .lit (.int .u8 20), .lit (.int .u8 31), .lit (.int .u8 10), .lit (.int .u8 25), .lit (.int .u8 14), .lit (.int .u8 19), .lit (.int .u8 9), .lit (.int .u8 13), .lit (.int .u8 8), .lit (.int .u8 7), .lit (.int .u8 6)]
def laid_internal_strconv_uint64pow10 {H : Type} : DataW H := .agg [.lit (.int .u64 1), .lit (.int .u64 10), .lit (.int .u64 100), .lit (.int .u64 1000), .lit (.int .u64 10000), .lit (.int .u64 100000), .lit (.int .u64 1000000), .lit (.int .u64 10000000), .lit (.int .u64 100000000), .lit (.int .u64 1000000000), .lit (.int .u64 10000000000), .lit (.int .u64 100000000000), .lit (.int .u64 1000000000000), .lit (.int .u64 10000000000000), .lit (.int .u64 100000000000000), .lit (.int .u64 1000000000000000), .lit (.int .u64 10000000000000000), .lit (.int .u64 100000000000000000), .lit (.int .u64 1000000000000000000), .lit (.int .u64 10000000000000000000)]
def laid_strconv_ErrRange {H : Type} : DataW H := .iface "*errors.errorString" (.ptr (.agg [.lit (.string [118, 97, 108, 117, 101, 32, 111, 117, 116, 32, 111, 102, 32, 114, 97, 110, 103, 101])]))
def laid_strconv_ErrSyntax {H : Type} : DataW H := .iface "*errors.errorString" (.ptr (.agg [.lit (.string [105, 110, 118, 97, 108, 105, 100, 32, 115, 121, 110, 116, 97, 120])]))
def laid_payoff_code_rows {H : Type} : DataW H := .agg [.agg [.lit (.string [101, 110, 100]), .lit (.int .u8 0), .lit (.int .u8 0), .lit (.int .u8 0), .lit (.int .i32 0), .lit (.int .i32 0)], .agg [.lit (.string [99, 111, 110, 115, 116]), .lit (.int .u8 1), .lit (.int .u8 0), .lit (.int .u8 1), .lit (.int .i32 16383), .lit (.int .i32 0)], .agg [.lit (.string [98, 111, 111, 108]), .lit (.int .u8 1), .lit (.int .u8 0), .lit (.int .u8 1), .lit (.int .i32 1), .lit (.int .i32 0)], .agg [.lit (.string [111, 98, 115]), .lit (.int .u8 2), .lit (.int .u8 0), .lit (.int .u8 1), .lit (.int .i32 63), .lit (.int .i32 3660)], .agg [.lit (.string [108, 111, 97, 100]), .lit (.int .u8 1), .lit (.int .u8 0), .lit (.int .u8 1), .lit (.int .i32 32767), .lit (.int .i32 0)], .agg [.lit (.string [115, 116, 111, 114, 101]), .lit (.int .u8 1), .lit (.int .u8 1), .lit (.int .u8 0), .lit (.int .i32 32767), .lit (.int .i32 0)], .agg [.lit (.string [107, 101, 101, 112]), .lit (.int .u8 1), .lit (.int .u8 1), .lit (.int .u8 1), .lit (.int .i32 16383), .lit (.int .i32 0)], .agg [.lit (.string [103, 101, 116]), .lit (.int .u8 1), .lit (.int .u8 0), .lit (.int .u8 1), .lit (.int .i32 16383), .lit (.int .i32 0)], .agg [.lit (.string [100, 114, 111, 112]), .lit (.int .u8 0), .lit (.int .u8 1), .lit (.int .u8 0), .lit (.int .i32 0), .lit (.int .i32 0)], .agg [.lit (.string [97, 100, 100]), .lit (.int .u8 0), .lit (.int .u8 2), .lit (.int .u8 1), .lit (.int .i32 0), .lit (.int .i32 0)], .agg [.lit (.string [115, 117, 98]), .lit (.int .u8 0), .lit (.int .u8 2), .lit (.int .u8 1), .lit (.int .i32 0), .lit (.int .i32 0)], .agg [.lit (.string [109, 117, 108]), .lit (.int .u8 0), .lit (.int .u8 2), .lit (.int .u8 1), .lit (.int .i32 0), .lit (.int .i32 0)], .agg [.lit (.string [110, 101, 103]), .lit (.int .u8 0), .lit (.int .u8 1), .lit (.int .u8 1), .lit (.int .i32 0), .lit (.int .i32 0)], .agg [.lit (.string [100, 105, 118]), .lit (.int .u8 0), .lit (.int .u8 2), .lit (.int .u8 1), .lit (.int .i32 0), .lit (.int .i32 0)], .agg [.lit (.string [109, 111, 100]), .lit (.int .u8 0), .lit (.int .u8 2), .lit (.int .u8 1), .lit (.int .i32 0), .lit (.int .i32 0)], .agg [.lit (.string [97, 98, 115]), .lit (.int .u8 0), .lit (.int .u8 1), .lit (.int .u8 1), .lit (.int .i32 0), .lit (.int .i32 0)], .agg [.lit (.string [109, 105, 110]), .lit (.int .u8 0), .lit (.int .u8 2), .lit (.int .u8 1), .lit (.int .i32 0), .lit (.int .i32 0)], .agg [.lit (.string [109, 97, 120]), .lit (.int .u8 0), .lit (.int .u8 2), .lit (.int .u8 1), .lit (.int .i32 0), .lit (.int .i32 0)], .agg [.lit (.string [114, 97, 116, 105, 111]), .lit (.int .u8 1), .lit (.int .u8 3), .lit (.int .u8 1), .lit (.int .i32 4), .lit (.int .i32 0)], .agg [.lit (.string [108, 116]), .lit (.int .u8 0), .lit (.int .u8 2), .lit (.int .u8 1), .lit (.int .i32 0), .lit (.int .i32 0)], .agg [.lit (.string [108, 101]), .lit (.int .u8 0), .lit (.int .u8 2), .lit (.int .u8 1), .lit (.int .i32 0), .lit (.int .i32 0)], .agg [.lit (.string [103, 116]), .lit (.int .u8 0), .lit (.int .u8 2), .lit (.int .u8 1), .lit (.int .i32 0), .lit (.int .i32 0)], .agg [.lit (.string [103, 101]), .lit (.int .u8 0), .lit (.int .u8 2), .lit (.int .u8 1), .lit (.int .i32 0), .lit (.int .i32 0)], .agg [.lit (.string [101, 113]), .lit (.int .u8 0), .lit (.int .u8 2), .lit (.int .u8 1), .lit (.int .i32 0), .lit (.int .i32 0)], .agg [.lit (.string [110, 101]), .lit (.int .u8 0), .lit (.int .u8 2), .lit (.int .u8 1), .lit (.int .i32 0), .lit (.int .i32 0)], .agg [.lit (.string [110, 111, 116]), .lit (.int .u8 0), .lit (.int .u8 1), .lit (.int .u8 1), .lit (.int .i32 0), .lit (.int .i32 0)], .agg [.lit (.string [106, 117, 109, 112]), .lit (.int .u8 1), .lit (.int .u8 0), .lit (.int .u8 0), .lit (.int .i32 262143), .lit (.int .i32 0)], .agg [.lit (.string [122, 101, 114, 111]), .lit (.int .u8 1), .lit (.int .u8 1), .lit (.int .u8 0), .lit (.int .i32 262143), .lit (.int .i32 0)], .agg [.lit (.string [102, 108, 111, 119]), .lit (.int .u8 1), .lit (.int .u8 1), .lit (.int .u8 0), .lit (.int .i32 4095), .lit (.int .i32 0)]]
def laid_payoff_asm_lines {H : Type} : DataW H := .agg [.agg [.lit (.string [110, 97, 109, 101, 115]), .lit (.bool true)], .agg [.lit (.string [99, 117, 114, 115]), .lit (.bool true)], .agg [.lit (.string [112, 111, 111, 108]), .lit (.bool true)], .agg [.lit (.string [104, 111, 114, 105, 122, 111, 110]), .lit (.bool false)], .agg [.lit (.string [99, 101, 108, 108, 115]), .lit (.bool false)], .agg [.lit (.string [115, 108, 111, 116, 115]), .lit (.bool false)], .agg [.lit (.string [115, 116, 97, 99, 107]), .lit (.bool false)], .agg [.lit (.string [100, 97, 121]), .lit (.bool true)]]
def laid_payoff_asm_modes {H : Type} : DataW H := .agg [.lit (.string [100, 111, 119, 110]), .lit (.string [102, 108, 111, 111, 114]), .lit (.string [99, 101, 105, 108]), .lit (.string [104, 97, 108, 102, 95, 117, 112]), .lit (.string [104, 97, 108, 102, 95, 101, 118, 101, 110])]
def laid_payoff_payoffref13_modes {H : Type} : DataW H := .agg [.lit (.string [100, 111, 119, 110]), .lit (.string [102, 108, 111, 111, 114]), .lit (.string [99, 101, 105, 108]), .lit (.string [104, 97, 108, 102, 95, 117, 112]), .lit (.string [104, 97, 108, 102, 95, 101, 118, 101, 110])]
def laid_payoff_payoffref13_heads {H : Type} : DataW H := .agg [.lit (.string [110, 97, 109, 101, 115]), .lit (.string [99, 117, 114, 115]), .lit (.string [112, 111, 111, 108]), .lit (.string [104, 111, 114, 105, 122, 111, 110]), .lit (.string [99, 101, 108, 108, 115]), .lit (.string [115, 108, 111, 116, 115]), .lit (.string [115, 116, 97, 99, 107])]

/-- 'payofflaw13.AsmOnly': WHATEVER THE INPUT: true; the input reads as it did. -/
def asmOnlySpec : ChangeSpec := { name := "asmOnly", fn := fun _ => fun
  | [d] => { results := [.lit (.bool true)], args := [d] }
  | _ => none }
def asmOnlyRow : OpenClaim := { program := "ytccjeipkljdhdaagreatdoor", sum := "c3d2cd2b53e705c597611fe932f4f5ae75fcf836d217afaef5d4b28bc5b25346", func := "payoff/payofflaw13.AsmOnly", spec := "asmOnly", inPlace := ["internal/abi.NoEscape", "internal/bytealg.MakeNoZero", "internal/bytealg.IndexByteString", "internal/bytealg.IndexString"], unfollowed := true, recurses := true, named := ["payoff/code.rows", "payoff/asm.lines", "internal/strconv.uint64pow10", "math/bits.deBruijn32tab", "math/bits.deBruijn64tab", "payoff/asm.modes", "internal/bytealg.MaxLen", "strconv.ErrSyntax", "strconv.ErrRange"], apart := false, laid := [("math/bits.deBruijn32tab", laid_math_bits_deBruijn32tab), ("math/bits.deBruijn64tab", laid_math_bits_deBruijn64tab), ("internal/strconv.uint64pow10", laid_internal_strconv_uint64pow10), ("strconv.ErrRange", laid_strconv_ErrRange), ("strconv.ErrSyntax", laid_strconv_ErrSyntax), ("payoff/code.rows", laid_payoff_code_rows), ("payoff/asm.lines", laid_payoff_asm_lines), ("payoff/asm.modes", laid_payoff_asm_modes)] }
def AsmOnlySaid : Prop := asmOnlyRow.holds Tryz.pinned (OpenSpec.ofChange asmOnlySpec)

/-- ITS FALSE NEIGHBOUR: 'it returns false'. Refute it at one input. -/
def asmOnlyWrong : ChangeSpec := { name := "asmOnly", fn := fun _ => fun
  | [d] => { results := [.lit (.bool false)], args := [d] }
  | _ => none }
def AsmOnlyWrongFalsely : Prop := asmOnlyRow.holds Tryz.pinned (OpenSpec.ofChange asmOnlyWrong)

/-- 'payofflaw13.AsmWords': WHATEVER THE INPUT: true; the input reads as it did. -/
def asmWordsSpec : ChangeSpec := { name := "asmWords", fn := fun _ => fun
  | [d] => { results := [.lit (.bool true)], args := [d] }
  | _ => none }
def asmWordsRow : OpenClaim := { program := "ytccjeipkljdhdaagreatdoor", sum := "c3d2cd2b53e705c597611fe932f4f5ae75fcf836d217afaef5d4b28bc5b25346", func := "payoff/payofflaw13.AsmWords", spec := "asmWords", inPlace := ["internal/abi.NoEscape", "internal/bytealg.MakeNoZero", "internal/bytealg.IndexByteString", "internal/bytealg.IndexString"], unfollowed := true, recurses := true, named := ["payoff/code.rows", "payoff/asm.lines", "internal/strconv.uint64pow10", "math/bits.deBruijn32tab", "math/bits.deBruijn64tab", "payoff/asm.modes", "internal/bytealg.MaxLen", "strconv.ErrSyntax", "strconv.ErrRange"], apart := false, laid := [("math/bits.deBruijn32tab", laid_math_bits_deBruijn32tab), ("math/bits.deBruijn64tab", laid_math_bits_deBruijn64tab), ("internal/strconv.uint64pow10", laid_internal_strconv_uint64pow10), ("strconv.ErrRange", laid_strconv_ErrRange), ("strconv.ErrSyntax", laid_strconv_ErrSyntax), ("payoff/code.rows", laid_payoff_code_rows), ("payoff/asm.lines", laid_payoff_asm_lines), ("payoff/asm.modes", laid_payoff_asm_modes)] }
def AsmWordsSaid : Prop := asmWordsRow.holds Tryz.pinned (OpenSpec.ofChange asmWordsSpec)

/-- ITS FALSE NEIGHBOUR: 'it returns false'. Refute it at one input. -/
def asmWordsWrong : ChangeSpec := { name := "asmWords", fn := fun _ => fun
  | [d] => { results := [.lit (.bool false)], args := [d] }
  | _ => none }
def AsmWordsWrongFalsely : Prop := asmWordsRow.holds Tryz.pinned (OpenSpec.ofChange asmWordsWrong)

/-- 'payofflaw13.AsmExact': WHATEVER THE INPUT: true; the input reads as it did. -/
def asmExactSpec : ChangeSpec := { name := "asmExact", fn := fun _ => fun
  | [d] => { results := [.lit (.bool true)], args := [d] }
  | _ => none }
def asmExactRow : OpenClaim := { program := "ytccjeipkljdhdaagreatdoor", sum := "c3d2cd2b53e705c597611fe932f4f5ae75fcf836d217afaef5d4b28bc5b25346", func := "payoff/payofflaw13.AsmExact", spec := "asmExact", inPlace := ["internal/bytealg.IndexByteString", "internal/bytealg.IndexString", "internal/abi.NoEscape", "internal/bytealg.MakeNoZero"], unfollowed := true, recurses := true, named := ["internal/bytealg.MaxLen", "payoff/asm.lines", "payoff/code.rows", "strconv.ErrSyntax", "strconv.ErrRange", "internal/strconv.uint64pow10", "math/bits.deBruijn32tab", "math/bits.deBruijn64tab", "payoff/asm.modes", "payoff/payoffref13.heads", "payoff/payoffref13.modes"], apart := false, laid := [("math/bits.deBruijn32tab", laid_math_bits_deBruijn32tab), ("math/bits.deBruijn64tab", laid_math_bits_deBruijn64tab), ("internal/strconv.uint64pow10", laid_internal_strconv_uint64pow10), ("payoff/payoffref13.modes", laid_payoff_payoffref13_modes), ("payoff/payoffref13.heads", laid_payoff_payoffref13_heads), ("strconv.ErrRange", laid_strconv_ErrRange), ("strconv.ErrSyntax", laid_strconv_ErrSyntax), ("payoff/code.rows", laid_payoff_code_rows), ("payoff/asm.lines", laid_payoff_asm_lines), ("payoff/asm.modes", laid_payoff_asm_modes)] }
def AsmExactSaid : Prop := asmExactRow.holds Tryz.pinned (OpenSpec.ofChange asmExactSpec)

/-- ITS FALSE NEIGHBOUR: 'it returns false'. Refute it at one input. -/
def asmExactWrong : ChangeSpec := { name := "asmExact", fn := fun _ => fun
  | [d] => { results := [.lit (.bool false)], args := [d] }
  | _ => none }
def AsmExactWrongFalsely : Prop := asmExactRow.holds Tryz.pinned (OpenSpec.ofChange asmExactWrong)

/- THE SECOND FORM. 'bulk': how many values and letters a reading holds, each counted each time it is reached (what is shared counts as often as it is met; a slice's spare places count too). A statement '..UptoSaid' is the law's where the arguments, and the package variables that the reading takes, are together of bulk at most 1048576: NARROWER than '..Said'. Prove '..Said' where nothing that the law and all that it calls make is longer than what came in: it says more and counts as full. Else prove '..UptoSaid'. A law counts once. -/
mutual
def uptoBulk {H : Type} : DataW H → Nat
  | .lit (.string bytes) => bytes.length + 1
  | .lit _ => 1
  | .nil => 1
  | .ptr d => uptoBulk d + 1
  | .slice elems spare => uptoBulkAll elems + uptoBulkAll spare + 1
  | .agg parts => uptoBulkAll parts + 1
  | .iface _ d => uptoBulk d + 1
  | .map entries => uptoBulkEntries entries + 1
  | .held _ => 1
def uptoBulkAll {H : Type} : List (DataW H) → Nat
  | [] => 0
  | d :: r => uptoBulk d + uptoBulkAll r
def uptoBulkEntries {H : Type} : List (Lit × DataW H) → Nat
  | [] => 0
  | x :: r => uptoBulkEntry x + uptoBulkEntries r
def uptoBulkEntry {H : Type} : Lit × DataW H → Nat
  | (.string bytes, d) => bytes.length + uptoBulk d + 1
  | (_, d) => uptoBulk d + 1
 end
def uptoSmall : (H : Type) → List (DataW H) → Bool := fun _ ds => decide (uptoBulkAll ds ≤ 1048576)
def OpenSpec.upto (s : _root_.Go.ChangeSpec) : _root_.Go.OpenSpec := { _root_.Go.OpenSpec.ofChange s with cond := some uptoSmall }

/-- 'payofflaw13.AsmOnly', WHERE WHAT IT READS IS OF BULK AT MOST 1048576: true; the input reads as it did. -/
def asmOnlyUptoRow : OpenClaim := { program := "ytccjeipkljdhdaagreatdoor", sum := "c3d2cd2b53e705c597611fe932f4f5ae75fcf836d217afaef5d4b28bc5b25346", func := "payoff/payofflaw13.AsmOnly", spec := "asmOnly", inPlace := ["internal/abi.NoEscape", "internal/bytealg.MakeNoZero", "internal/bytealg.IndexByteString", "internal/bytealg.IndexString"], unfollowed := true, recurses := true, named := ["payoff/code.rows", "payoff/asm.lines", "internal/strconv.uint64pow10", "math/bits.deBruijn32tab", "math/bits.deBruijn64tab", "payoff/asm.modes", "internal/bytealg.MaxLen", "strconv.ErrSyntax", "strconv.ErrRange"], apart := false, laid := [("math/bits.deBruijn32tab", laid_math_bits_deBruijn32tab), ("math/bits.deBruijn64tab", laid_math_bits_deBruijn64tab), ("internal/strconv.uint64pow10", laid_internal_strconv_uint64pow10), ("strconv.ErrRange", laid_strconv_ErrRange), ("strconv.ErrSyntax", laid_strconv_ErrSyntax), ("payoff/code.rows", laid_payoff_code_rows), ("payoff/asm.lines", laid_payoff_asm_lines), ("payoff/asm.modes", laid_payoff_asm_modes)], narrowed := true }
def AsmOnlyUptoSaid : Prop := asmOnlyUptoRow.holds Tryz.pinned (OpenSpec.upto asmOnlySpec)

/-- 'payofflaw13.AsmWords', WHERE WHAT IT READS IS OF BULK AT MOST 1048576: true; the input reads as it did. -/
def asmWordsUptoRow : OpenClaim := { program := "ytccjeipkljdhdaagreatdoor", sum := "c3d2cd2b53e705c597611fe932f4f5ae75fcf836d217afaef5d4b28bc5b25346", func := "payoff/payofflaw13.AsmWords", spec := "asmWords", inPlace := ["internal/abi.NoEscape", "internal/bytealg.MakeNoZero", "internal/bytealg.IndexByteString", "internal/bytealg.IndexString"], unfollowed := true, recurses := true, named := ["payoff/code.rows", "payoff/asm.lines", "internal/strconv.uint64pow10", "math/bits.deBruijn32tab", "math/bits.deBruijn64tab", "payoff/asm.modes", "internal/bytealg.MaxLen", "strconv.ErrSyntax", "strconv.ErrRange"], apart := false, laid := [("math/bits.deBruijn32tab", laid_math_bits_deBruijn32tab), ("math/bits.deBruijn64tab", laid_math_bits_deBruijn64tab), ("internal/strconv.uint64pow10", laid_internal_strconv_uint64pow10), ("strconv.ErrRange", laid_strconv_ErrRange), ("strconv.ErrSyntax", laid_strconv_ErrSyntax), ("payoff/code.rows", laid_payoff_code_rows), ("payoff/asm.lines", laid_payoff_asm_lines), ("payoff/asm.modes", laid_payoff_asm_modes)], narrowed := true }
def AsmWordsUptoSaid : Prop := asmWordsUptoRow.holds Tryz.pinned (OpenSpec.upto asmWordsSpec)

/-- 'payofflaw13.AsmExact', WHERE WHAT IT READS IS OF BULK AT MOST 1048576: true; the input reads as it did. -/
def asmExactUptoRow : OpenClaim := { program := "ytccjeipkljdhdaagreatdoor", sum := "c3d2cd2b53e705c597611fe932f4f5ae75fcf836d217afaef5d4b28bc5b25346", func := "payoff/payofflaw13.AsmExact", spec := "asmExact", inPlace := ["internal/bytealg.IndexByteString", "internal/bytealg.IndexString", "internal/abi.NoEscape", "internal/bytealg.MakeNoZero"], unfollowed := true, recurses := true, named := ["internal/bytealg.MaxLen", "payoff/asm.lines", "payoff/code.rows", "strconv.ErrSyntax", "strconv.ErrRange", "internal/strconv.uint64pow10", "math/bits.deBruijn32tab", "math/bits.deBruijn64tab", "payoff/asm.modes", "payoff/payoffref13.heads", "payoff/payoffref13.modes"], apart := false, laid := [("math/bits.deBruijn32tab", laid_math_bits_deBruijn32tab), ("math/bits.deBruijn64tab", laid_math_bits_deBruijn64tab), ("internal/strconv.uint64pow10", laid_internal_strconv_uint64pow10), ("payoff/payoffref13.modes", laid_payoff_payoffref13_modes), ("payoff/payoffref13.heads", laid_payoff_payoffref13_heads), ("strconv.ErrRange", laid_strconv_ErrRange), ("strconv.ErrSyntax", laid_strconv_ErrSyntax), ("payoff/code.rows", laid_payoff_code_rows), ("payoff/asm.lines", laid_payoff_asm_lines), ("payoff/asm.modes", laid_payoff_asm_modes)], narrowed := true }
def AsmExactUptoSaid : Prop := asmExactUptoRow.holds Tryz.pinned (OpenSpec.upto asmExactSpec)

end Rows
end Go.Proofs.YtccjeipkljdhdaaGreatDoor
