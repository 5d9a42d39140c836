import Derived.Test.YtccjeipkljdhdaaGreatDoorRows
import Derived.Test.YtccjeipkljdhdaaGreatDoorCards
import Derived.Test.YtccjeipkljdhdaaGreatDoorTie
import Derived.SevenTiedAt
import Derived.WalkKit
import Derived.ProofKit
import Derived.OpenShut
import Derived.ShutString
import Derived.ChangeOld
import Derived.Below
import Derived.SizedLaws
import Derived.Lib.LaidTab
import Derived.Stop.LaidErr
import Derived.JoinedCond
import Derived.Deep.CondSized
import Derived.Deep.DeepHandedRow
import Derived.Test.YtccjeipkljdhdaaGreatDoorXAB
import Derived.Test.YtccjeipkljdhdaaGreatDoorXBU
import Derived.Test.YtccjeipkljdhdaaGreatDoorXAJ
import Derived.Test.YtccjeipkljdhdaaGreatDoorXBO
import Derived.Test.YtccjeipkljdhdaaGreatDoorXBV
namespace Go.Proofs.YtccjeipkljdhdaaGreatDoor.asmExact
open Go.ChangeShapes Go.WideShapes Go.ChangeAt Go.RowKit
open Go.ChangeMaps (open_string shut_string)
set_option linter.unusedVariables false

theorem own : ownKnob Tryz.prog.godebug = none := by kernel_rfl
theorem laidOut : laidOutB Tryz.prog = true := by kernel_rfl
def IsRow (k : IntKind) (w : World) (a : Option Addr) (len cap : Nat) (zs : List Int) : Prop :=
  (a = none ∧ len = 0 ∧ cap = 0 ∧ zs = []) ∨
  ∃ x, a = some x ∧ len ≤ cap ∧ cap ≤ maxLen ∧ zs.length = cap ∧ (∀ i, i < zs.length → w.cell? (x.add i) = some (.int k (zs.getD i 0))) ∧ ∀ n ∈ zs, (Lit.int k n).wf = true
def tab_laid_math_bits_deBruijn32tab : Array Value := #[.int .u8 0, .int .u8 1, .int .u8 28, .int .u8 2, .int .u8 29, .int .u8 14, .int .u8 24, .int .u8 3, .int .u8 30, .int .u8 22, .int .u8 20, .int .u8 15, .int .u8 25, .int .u8 17, .int .u8 4, .int .u8 8, .int .u8 31, .int .u8 27, .int .u8 13, .int .u8 23, .int .u8 21, .int .u8 19, .int .u8 16, .int .u8 7, .int .u8 26, .int .u8 12, .int .u8 18, .int .u8 6, .int .u8 11, .int .u8 5, .int .u8 10, .int .u8 9]
def tab_laid_math_bits_deBruijn64tab : Array Value := #[.int .u8 0, .int .u8 1, .int .u8 56, .int .u8 2, .int .u8 57, .int .u8 49, .int .u8 28, .int .u8 3, .int .u8 61, .int .u8 58, .int .u8 42, .int .u8 50, .int .u8 38, .int .u8 29, .int .u8 17, .int .u8 4, .int .u8 62, .int .u8 47, .int .u8 59, .int .u8 36, .int .u8 45, .int .u8 43, .int .u8 51, .int .u8 22, .int .u8 53, .int .u8 39, .int .u8 33, .int .u8 30, .int .u8 24, .int .u8 18, .int .u8 12, .int .u8 5, .int .u8 63, .int .u8 55, .int .u8 48, .int .u8 27, .int .u8 60, .int .u8 41, .int .u8 37, .int .u8 16, .int .u8 46, .int .u8 35, .int .u8 44, .int .u8 21, .int .u8 52, .int .u8 32, .int .u8 23, .int .u8 11, .int .u8 54, .int .u8 26, .int .u8 40, .int .u8 15, .int .u8 34, .int .u8 20, .int .u8 31, .int .u8 10, .int .u8 25, .int .u8 14, .int .u8 19, .int .u8 9, .int .u8 13, .int .u8 8, .int .u8 7, .int .u8 6]
def tab_laid_internal_strconv_uint64pow10 : Array Value := #[.int .u64 1, .int .u64 10, .int .u64 100, .int .u64 1000, .int .u64 10000, .int .u64 100000, .int .u64 1000000, .int .u64 10000000, .int .u64 100000000, .int .u64 1000000000, .int .u64 10000000000, .int .u64 100000000000, .int .u64 1000000000000, .int .u64 10000000000000, .int .u64 100000000000000, .int .u64 1000000000000000, .int .u64 10000000000000000, .int .u64 100000000000000000, .int .u64 1000000000000000000, .int .u64 10000000000000000000]
def tab_laid_payoff_payoffref13_modes : Array Value := #[.string ⟨#[100, 111, 119, 110]⟩, .string ⟨#[102, 108, 111, 111, 114]⟩, .string ⟨#[99, 101, 105, 108]⟩, .string ⟨#[104, 97, 108, 102, 95, 117, 112]⟩, .string ⟨#[104, 97, 108, 102, 95, 101, 118, 101, 110]⟩]
def tab_laid_payoff_payoffref13_heads : Array Value := #[.string ⟨#[110, 97, 109, 101, 115]⟩, .string ⟨#[99, 117, 114, 115]⟩, .string ⟨#[112, 111, 111, 108]⟩, .string ⟨#[104, 111, 114, 105, 122, 111, 110]⟩, .string ⟨#[99, 101, 108, 108, 115]⟩, .string ⟨#[115, 108, 111, 116, 115]⟩, .string ⟨#[115, 116, 97, 99, 107]⟩]
def tab_laid_strconv_ErrRange : Array Value := #[.iface 210 (.pointer (some ⟨16, 0, none⟩))]
def tab_laid_strconv_ErrSyntax : Array Value := #[.iface 210 (.pointer (some ⟨17, 0, none⟩))]
def tab_laid_payoff_code_rows : Array Value := #[.string ⟨#[101, 110, 100]⟩, .int .u8 0, .int .u8 0, .int .u8 0, .int .i32 0, .int .i32 0, .string ⟨#[99, 111, 110, 115, 116]⟩, .int .u8 1, .int .u8 0, .int .u8 1, .int .i32 16383, .int .i32 0, .string ⟨#[98, 111, 111, 108]⟩, .int .u8 1, .int .u8 0, .int .u8 1, .int .i32 1, .int .i32 0, .string ⟨#[111, 98, 115]⟩, .int .u8 2, .int .u8 0, .int .u8 1, .int .i32 63, .int .i32 3660, .string ⟨#[108, 111, 97, 100]⟩, .int .u8 1, .int .u8 0, .int .u8 1, .int .i32 32767, .int .i32 0, .string ⟨#[115, 116, 111, 114, 101]⟩, .int .u8 1, .int .u8 1, .int .u8 0, .int .i32 32767, .int .i32 0, .string ⟨#[107, 101, 101, 112]⟩, .int .u8 1, .int .u8 1, .int .u8 1, .int .i32 16383, .int .i32 0, .string ⟨#[103, 101, 116]⟩, .int .u8 1, .int .u8 0, .int .u8 1, .int .i32 16383, .int .i32 0, .string ⟨#[100, 114, 111, 112]⟩, .int .u8 0, .int .u8 1, .int .u8 0, .int .i32 0, .int .i32 0, .string ⟨#[97, 100, 100]⟩, .int .u8 0, .int .u8 2, .int .u8 1, .int .i32 0, .int .i32 0, .string ⟨#[115, 117, 98]⟩, .int .u8 0, .int .u8 2, .int .u8 1, .int .i32 0, .int .i32 0, .string ⟨#[109, 117, 108]⟩, .int .u8 0, .int .u8 2, .int .u8 1, .int .i32 0, .int .i32 0, .string ⟨#[110, 101, 103]⟩, .int .u8 0, .int .u8 1, .int .u8 1, .int .i32 0, .int .i32 0, .string ⟨#[100, 105, 118]⟩, .int .u8 0, .int .u8 2, .int .u8 1, .int .i32 0, .int .i32 0, .string ⟨#[109, 111, 100]⟩, .int .u8 0, .int .u8 2, .int .u8 1, .int .i32 0, .int .i32 0, .string ⟨#[97, 98, 115]⟩, .int .u8 0, .int .u8 1, .int .u8 1, .int .i32 0, .int .i32 0, .string ⟨#[109, 105, 110]⟩, .int .u8 0, .int .u8 2, .int .u8 1, .int .i32 0, .int .i32 0, .string ⟨#[109, 97, 120]⟩, .int .u8 0, .int .u8 2, .int .u8 1, .int .i32 0, .int .i32 0, .string ⟨#[114, 97, 116, 105, 111]⟩, .int .u8 1, .int .u8 3, .int .u8 1, .int .i32 4, .int .i32 0, .string ⟨#[108, 116]⟩, .int .u8 0, .int .u8 2, .int .u8 1, .int .i32 0, .int .i32 0, .string ⟨#[108, 101]⟩, .int .u8 0, .int .u8 2, .int .u8 1, .int .i32 0, .int .i32 0, .string ⟨#[103, 116]⟩, .int .u8 0, .int .u8 2, .int .u8 1, .int .i32 0, .int .i32 0, .string ⟨#[103, 101]⟩, .int .u8 0, .int .u8 2, .int .u8 1, .int .i32 0, .int .i32 0, .string ⟨#[101, 113]⟩, .int .u8 0, .int .u8 2, .int .u8 1, .int .i32 0, .int .i32 0, .string ⟨#[110, 101]⟩, .int .u8 0, .int .u8 2, .int .u8 1, .int .i32 0, .int .i32 0, .string ⟨#[110, 111, 116]⟩, .int .u8 0, .int .u8 1, .int .u8 1, .int .i32 0, .int .i32 0, .string ⟨#[106, 117, 109, 112]⟩, .int .u8 1, .int .u8 0, .int .u8 0, .int .i32 262143, .int .i32 0, .string ⟨#[122, 101, 114, 111]⟩, .int .u8 1, .int .u8 1, .int .u8 0, .int .i32 262143, .int .i32 0, .string ⟨#[102, 108, 111, 119]⟩, .int .u8 1, .int .u8 1, .int .u8 0, .int .i32 4095, .int .i32 0]
def tab_laid_payoff_asm_lines : Array Value := #[.string ⟨#[110, 97, 109, 101, 115]⟩, .bool true, .string ⟨#[99, 117, 114, 115]⟩, .bool true, .string ⟨#[112, 111, 111, 108]⟩, .bool true, .string ⟨#[104, 111, 114, 105, 122, 111, 110]⟩, .bool false, .string ⟨#[99, 101, 108, 108, 115]⟩, .bool false, .string ⟨#[115, 108, 111, 116, 115]⟩, .bool false, .string ⟨#[115, 116, 97, 99, 107]⟩, .bool false, .string ⟨#[100, 97, 121]⟩, .bool true]
def tab_laid_payoff_asm_modes : Array Value := #[.string ⟨#[100, 111, 119, 110]⟩, .string ⟨#[102, 108, 111, 111, 114]⟩, .string ⟨#[99, 101, 105, 108]⟩, .string ⟨#[104, 97, 108, 102, 95, 117, 112]⟩, .string ⟨#[104, 97, 108, 102, 95, 101, 118, 101, 110]⟩]

theorem walk (a0 : Option Addr) (len0 cap0 : Nat) (z0 : List ByteArray) (w : World) (w0 : SR w a0 len0 cap0 z0) (u0 : len0 ≤ 1048576) (hL : laidMet Tryz.prog Rows.asmExactRow.laid w) :
    Calls Tryz.prog 5 #[.slice a0 len0 cap0] w fun e w' => e = .returned (.bool true) ∧ Below w.heap.size w w' := by
  exact asmExact_law w0 u0 ⟨pows_of_laid hL.tail.tail, ev_of_laid hL.tail.tail.tail.tail.tail, rws_of_laid hL.tail.tail.tail.tail.tail.tail.tail, mdsQ_of_laid hL.tail.tail.tail.tail.tail.tail.tail.tail.tail, lnr_of_laid hL.tail.tail.tail.tail.tail.tail.tail.tail⟩ (rmdQ_of_laid hL.tail.tail.tail) (hds_of_laid hL.tail.tail.tail.tail)

theorem bulk_one {H : Type} (d : DataW H) : 1 ≤ Rows.uptoBulk d := by
  cases d with
  | lit l => cases l <;> simp [Rows.uptoBulk]
  | nil => simp [Rows.uptoBulk]
  | ptr d => simp [Rows.uptoBulk]
  | slice elems spare => simp [Rows.uptoBulk]
  | agg parts => simp [Rows.uptoBulk]
  | iface t d => simp [Rows.uptoBulk]
  | map entries => simp [Rows.uptoBulk]
  | held h => simp [Rows.uptoBulk]
theorem bulk_str {H : Type} {d : DataW H} {b : List UInt8} (h : d = .lit (.string b)) : b.length ≤ Rows.uptoBulk d := by
  subst h; simp [Rows.uptoBulk]
theorem bulk_len {H : Type} (l : List (DataW H)) : l.length ≤ Rows.uptoBulkAll l := by
  induction l with
  | nil => simp [Rows.uptoBulkAll]
  | cons x r ih => have := bulk_one x; simp only [Rows.uptoBulkAll, List.length_cons]; omega
theorem bulk_part {H : Type} {d : DataW H} {l : List (DataW H)} (h : d ∈ l) : Rows.uptoBulk d ≤ Rows.uptoBulkAll l := by
  induction l with
  | nil => cases h
  | cons x r ih =>
    simp only [Rows.uptoBulkAll]
    cases List.mem_cons.1 h with
    | inl e => subst e; omega
    | inr e => have := ih e; omega
theorem bulk_slice {H : Type} {d : DataW H} {l r : List (DataW H)} (h : d = .slice l r) : l.length ≤ Rows.uptoBulk d := by
  subst h; have := bulk_len l; simp only [Rows.uptoBulk]; omega

theorem laid_met (os : Os) (args : Array Value) : laidMet Tryz.prog Rows.asmExactRow.laid (({ World.holding Tryz.prog os ⟨#[.cells #[.string ⟨#[118, 97, 108, 117, 101, 32, 111, 117, 116, 32, 111, 102, 32, 114, 97, 110, 103, 101]⟩] 212, .cells #[.string ⟨#[105, 110, 118, 97, 108, 105, 100, 32, 115, 121, 110, 116, 97, 120]⟩] 212], #[], []⟩ with heap := (((((((((((World.holding Tryz.prog os ⟨#[.cells #[.string ⟨#[118, 97, 108, 117, 101, 32, 111, 117, 116, 32, 111, 102, 32, 114, 97, 110, 103, 101]⟩] 212, .cells #[.string ⟨#[105, 110, 118, 97, 108, 105, 100, 32, 115, 121, 110, 116, 97, 120]⟩] 212], #[], []⟩).heap.modify (9) fun | .cells _ t frozen => .cells tab_laid_math_bits_deBruijn32tab t frozen | o => o).modify (10) fun | .cells _ t frozen => .cells tab_laid_math_bits_deBruijn64tab t frozen | o => o).modify (6) fun | .cells _ t frozen => .cells tab_laid_internal_strconv_uint64pow10 t frozen | o => o).modify (1) fun | .cells _ t frozen => .cells tab_laid_payoff_payoffref13_modes t frozen | o => o).modify (0) fun | .cells _ t frozen => .cells tab_laid_payoff_payoffref13_heads t frozen | o => o).modify (8) fun | .cells _ t frozen => .cells tab_laid_strconv_ErrRange t frozen | o => o).modify (7) fun | .cells _ t frozen => .cells tab_laid_strconv_ErrSyntax t frozen | o => o).modify (3) fun | .cells _ t frozen => .cells tab_laid_payoff_code_rows t frozen | o => o).modify (2) fun | .cells _ t frozen => .cells tab_laid_payoff_asm_lines t frozen | o => o).modify (4) fun | .cells _ t frozen => .cells tab_laid_payoff_asm_modes t frozen | o => o) } : World).forCall (fun _ _ => 0) ⟨#[], args, []⟩).memory :=
  laidMet_of_run' 8 (by kernel_rfl) (by kernel_rfl)
theorem reads (os : Os) {H : Type} (enc : TypeId × Value → H) : ∃ places, DataW.whole enc Tryz.prog (({ World.holding Tryz.prog os ⟨#[.cells #[.string ⟨#[118, 97, 108, 117, 101, 32, 111, 117, 116, 32, 111, 102, 32, 114, 97, 110, 103, 101]⟩] 212, .cells #[.string ⟨#[105, 110, 118, 97, 108, 105, 100, 32, 115, 121, 110, 116, 97, 120]⟩] 212], #[], []⟩ with heap := (((((((((((World.holding Tryz.prog os ⟨#[.cells #[.string ⟨#[118, 97, 108, 117, 101, 32, 111, 117, 116, 32, 111, 102, 32, 114, 97, 110, 103, 101]⟩] 212, .cells #[.string ⟨#[105, 110, 118, 97, 108, 105, 100, 32, 115, 121, 110, 116, 97, 120]⟩] 212], #[], []⟩).heap.modify (9) fun | .cells _ t frozen => .cells tab_laid_math_bits_deBruijn32tab t frozen | o => o).modify (10) fun | .cells _ t frozen => .cells tab_laid_math_bits_deBruijn64tab t frozen | o => o).modify (6) fun | .cells _ t frozen => .cells tab_laid_internal_strconv_uint64pow10 t frozen | o => o).modify (1) fun | .cells _ t frozen => .cells tab_laid_payoff_payoffref13_modes t frozen | o => o).modify (0) fun | .cells _ t frozen => .cells tab_laid_payoff_payoffref13_heads t frozen | o => o).modify (8) fun | .cells _ t frozen => .cells tab_laid_strconv_ErrRange t frozen | o => o).modify (7) fun | .cells _ t frozen => .cells tab_laid_strconv_ErrSyntax t frozen | o => o).modify (3) fun | .cells _ t frozen => .cells tab_laid_payoff_code_rows t frozen | o => o).modify (2) fun | .cells _ t frozen => .cells tab_laid_payoff_asm_lines t frozen | o => o).modify (4) fun | .cells _ t frozen => .cells tab_laid_payoff_asm_modes t frozen | o => o) } : World).forCall (fun _ _ => 0) ⟨#[], #[.slice none 0 0], []⟩).memory Tryz.f5.params.toList Rows.asmExactSpec.vars false (#[.slice none 0 0] : Array Value).toList 8 = some ([.nil], [], places) :=
  ⟨[], by kernel_rfl⟩

set_option maxRecDepth 100000 in
theorem lifted (os : Os) (started : os.Started) (H : Type) (enc : TypeId × Value → H) (F : Stop.Interp) :
    ReturnsInHanded {} Tryz.checked os 5 .any ((Rows.OpenSpec.upto Rows.asmExactSpec).preRow enc Tryz.prog Tryz.f5 Rows.asmExactUptoRow.domain false Rows.asmExactUptoRow.laid) (((Rows.OpenSpec.upto Rows.asmExactSpec).at F).post enc Tryz.prog Tryz.f5 false true false false) := by
  obtain ⟨places, hx⟩ := reads os enc
  refine returnsInHanded_of_row (C := Tryz.checked) (s := Rows.OpenSpec.upto Rows.asmExactSpec) own started (by kernel_rfl) Tryz.func5
    (witness_row_at (enc := enc) (C := Tryz.checked) false ({ World.holding Tryz.prog os ⟨#[.cells #[.string ⟨#[118, 97, 108, 117, 101, 32, 111, 117, 116, 32, 111, 102, 32, 114, 97, 110, 103, 101]⟩] 212, .cells #[.string ⟨#[105, 110, 118, 97, 108, 105, 100, 32, 115, 121, 110, 116, 97, 120]⟩] 212], #[], []⟩ with heap := (((((((((((World.holding Tryz.prog os ⟨#[.cells #[.string ⟨#[118, 97, 108, 117, 101, 32, 111, 117, 116, 32, 111, 102, 32, 114, 97, 110, 103, 101]⟩] 212, .cells #[.string ⟨#[105, 110, 118, 97, 108, 105, 100, 32, 115, 121, 110, 116, 97, 120]⟩] 212], #[], []⟩).heap.modify (9) fun | .cells _ t frozen => .cells tab_laid_math_bits_deBruijn32tab t frozen | o => o).modify (10) fun | .cells _ t frozen => .cells tab_laid_math_bits_deBruijn64tab t frozen | o => o).modify (6) fun | .cells _ t frozen => .cells tab_laid_internal_strconv_uint64pow10 t frozen | o => o).modify (1) fun | .cells _ t frozen => .cells tab_laid_payoff_payoffref13_modes t frozen | o => o).modify (0) fun | .cells _ t frozen => .cells tab_laid_payoff_payoffref13_heads t frozen | o => o).modify (8) fun | .cells _ t frozen => .cells tab_laid_strconv_ErrRange t frozen | o => o).modify (7) fun | .cells _ t frozen => .cells tab_laid_strconv_ErrSyntax t frozen | o => o).modify (3) fun | .cells _ t frozen => .cells tab_laid_payoff_code_rows t frozen | o => o).modify (2) fun | .cells _ t frozen => .cells tab_laid_payoff_asm_lines t frozen | o => o).modify (4) fun | .cells _ t frozen => .cells tab_laid_payoff_asm_modes t frozen | o => o) }) #[.slice none 0 0] rfl (by kernel_rfl) (by kernel_rfl) (by kernel_rfl)
      (OpenSpec.preRow_of_cond 8 hx (by kernel_rfl) (fun k hk => by cases hk; kernel_rfl) (by kernel_rfl) (laid_met os _))) ?_
  intro W base args ds gs before hval0 hW hcnd hk0 hsz0 hL0 _ _
  have hL : laidMet Tryz.prog Rows.asmExactRow.laid W := hL0
  have hsz : (DataW.weightsEach Tryz.prog (Tryz.f5.params.toList ++ Rows.asmExactSpec.plain.varTypes Tryz.prog) (ds ++ gs)).all (· ≤ reachBytes) = true := hsz0
  have hk : Rows.uptoBulkAll (ds ++ gs) ≤ 1048576 := of_decide_eq_true (hk0 _ rfl)
  clear hsz0 hk0
  have hval : ∀ (j : Nat) t v, Tryz.f5.params[j]? = some t → args[j]? = some v → Value.okWide Tryz.prog W .any base t v := hval0
  have hW' := hW
  obtain ⟨p, q, hA0, hV, rfl, hfz, hnd⟩ := hW
  have hA : DataW.TrodAll enc Tryz.prog W 0 (fun _ => true) true Tryz.f5.params.toList args.toList ds p := hA0
  rw [Tryz.params5] at hA hval hsz
  obtain ⟨v0, vs0, d0, ds0, p0, q0, hargs, rfl, rfl, h0, r0⟩ := trodAll_cons hA
  obtain ⟨rfl, rfl, rfl⟩ := trodAll_nil r0
  obtain rfl : args = #[v0] := by cases args; simp_all
  obtain ⟨rfl, rfl⟩ := trodVars_none hV
  have kb : Rows.uptoBulkAll ([d0] ++ []) ≤ 1048576 := hk
  simp only [List.cons_append, List.nil_append, Rows.uptoBulkAll] at kb
  have k0 := h0
  have lt0 : ∀ x ∈ p0, x.block < W.heap.size := by obtain ⟨m, hm⟩ := k0; exact DataW.trod_lt m _ _ _ hm
  obtain ⟨a0, len0, cap0, rfl⟩ := okWide_slice Tryz.underlying23 (hval 0 23 v0 rfl rfl)
  obtain ⟨z0, w0, u0⟩ : ∃ zs, SR W a0 len0 cap0 zs ∧ len0 ≤ 1048576 := by
    obtain ⟨fuel, hf⟩ := h0
    refine open_textsUp pt hf (fun n hn => ?_) (by show Rows.uptoBulk d0 ≤ 1048576; omega)
    have := List.all_eq_true.1 hsz n (DataW.weights_mem_each (j := 0) (t := 23) rfl rfl n hn)
    simpa using this
  clear hA0 hval0
  refine (walk a0 len0 cap0 z0 W w0 u0 hL).mono fun e W' ⟨he, bel⟩ => ?_
  subst he
  exact ⟨_, rfl, _, _, _, [], _, [], hW', trodAll_mk1 (shut_bool Tryz.underlying4 _), (trodAll_cons_mk (Below.trod laidOut (by kernel_rfl) (of_decide_eq_true (by kernel_rfl)) k0 bel lt0) trodAll_mk0), rfl, bel.frame _, fun h => by cases h⟩

theorem over : Rows.AsmExactUptoSaid :=
  OpenClaim.holds_of_cond 5 Tryz.f5 rfl rfl rfl rfl rfl rfl rfl ⟨rfl, rfl, rfl, rfl, rfl⟩ rfl rfl rfl rfl rfl (by kernel_rfl) Tryz.func5 (by kernel_rfl)
    (of_decide_eq_true (by kernel_rfl)) (by unfold Func.isWrapper; first | (rw [if_pos (by decide +kernel)]; kernel_rfl) | (rw [if_neg (by decide +kernel)]; exact ⟨rfl, rfl⟩))
    (fun os started H enc _ F => by rw [OpenClaim.pre_eq_preRow]; exact lifted os started H enc F)

theorem card : Rows.AsmExactUptoCardSaid :=
  Claim7.holds_tied_plain_at .later [] [.data, .data, .data, .data, .data, .sentinel, .sentinel, .data, .data, .data] true (true, "e803b24289a216ac722ffae90190b184877a6860cca103315d09c4d06464b594") true
    over (fun _ h => by cases h) (by kernel_rfl) (fun _ h => by cases h) asmExactUpto_row_tie rfl ⟨rfl, rfl⟩ (by kernel_rfl) rfl
    (fun f fn hf hfn => by
      obtain rfl : f = 5 := Option.some.inj ((show Tryz.prog.funcNamed "payoff/payofflaw13.AsmExact" = some 5 by kernel_rfl).symm.trans hf) |>.symm
      obtain rfl : fn = Tryz.f5 := (Option.some.inj (Tryz.func5.symm.trans hfn)).symm
      exact ⟨by kernel_rfl, fun j t ht => by
        rw [Tryz.params5] at ht
        have h3 : t = 23 := by
          match j, ht with
          | 0, ht => simp at ht; subst ht; simp
          | (k + 1), ht => simp at ht
        rcases h3 with rfl
        · exact (show Tryz.prog.wantsStandIn 23 = false by kernel_rfl)⟩)
    (by kernel_rfl)
end Go.Proofs.YtccjeipkljdhdaaGreatDoor.asmExact

namespace Go.Proofs.YtccjeipkljdhdaaGreatDoor
theorem asmExact_holds : Rows.AsmExactUptoCardSaid := asmExact.card
end Go.Proofs.YtccjeipkljdhdaaGreatDoor
