import Derived.Test.YtccjeipkljdhdaaGreatDoorRows
import Derived.Test.YtccjeipkljdhdaaGreatDoorCards
import Derived.Test.YtccjeipkljdhdaaGreatDoorTie
import Derived.SevenTiedAt
import Derived.WalkKit
import Derived.ProofKit
import Derived.OpenShut
import Derived.ShutString
import Derived.ChangeOld
import Derived.Below
import Derived.SizedLaws
import Derived.Lib.LaidTab
import Derived.Stop.LaidErr
import Derived.Test.YtccjeipkljdhdaaGreatDoorXAA
import Derived.Test.YtccjeipkljdhdaaGreatDoorXBH
import Derived.Test.YtccjeipkljdhdaaGreatDoorXBJ
import Derived.Test.YtccjeipkljdhdaaGreatDoorXAF
import Derived.Test.YtccjeipkljdhdaaGreatDoorXBK
namespace Go.Proofs.YtccjeipkljdhdaaGreatDoor.asmWords
open Go.ChangeShapes Go.WideShapes Go.ChangeAt Go.RowKit
open Go.ChangeMaps (open_string shut_string)
set_option linter.unusedVariables false

theorem own : ownKnob Tryz.prog.godebug = none := by kernel_rfl
theorem laidOut : laidOutB Tryz.prog = true := by kernel_rfl
def tab_laid_math_bits_deBruijn32tab : Array Value := #[.int .u8 0, .int .u8 1, .int .u8 28, .int .u8 2, .int .u8 29, .int .u8 14, .int .u8 24, .int .u8 3, .int .u8 30, .int .u8 22, .int .u8 20, .int .u8 15, .int .u8 25, .int .u8 17, .int .u8 4, .int .u8 8, .int .u8 31, .int .u8 27, .int .u8 13, .int .u8 23, .int .u8 21, .int .u8 19, .int .u8 16, .int .u8 7, .int .u8 26, .int .u8 12, .int .u8 18, .int .u8 6, .int .u8 11, .int .u8 5, .int .u8 10, .int .u8 9]
def tab_laid_math_bits_deBruijn64tab : Array Value := #[.int .u8 0, .int .u8 1, .int .u8 56, .int .u8 2, .int .u8 57, .int .u8 49, .int .u8 28, .int .u8 3, .int .u8 61, .int .u8 58, .int .u8 42, .int .u8 50, .int .u8 38, .int .u8 29, .int .u8 17, .int .u8 4, .int .u8 62, .int .u8 47, .int .u8 59, .int .u8 36, .int .u8 45, .int .u8 43, .int .u8 51, .int .u8 22, .int .u8 53, .int .u8 39, .int .u8 33, .int .u8 30, .int .u8 24, .int .u8 18, .int .u8 12, .int .u8 5, .int .u8 63, .int .u8 55, .int .u8 48, .int .u8 27, .int .u8 60, .int .u8 41, .int .u8 37, .int .u8 16, .int .u8 46, .int .u8 35, .int .u8 44, .int .u8 21, .int .u8 52, .int .u8 32, .int .u8 23, .int .u8 11, .int .u8 54, .int .u8 26, .int .u8 40, .int .u8 15, .int .u8 34, .int .u8 20, .int .u8 31, .int .u8 10, .int .u8 25, .int .u8 14, .int .u8 19, .int .u8 9, .int .u8 13, .int .u8 8, .int .u8 7, .int .u8 6]
def tab_laid_internal_strconv_uint64pow10 : Array Value := #[.int .u64 1, .int .u64 10, .int .u64 100, .int .u64 1000, .int .u64 10000, .int .u64 100000, .int .u64 1000000, .int .u64 10000000, .int .u64 100000000, .int .u64 1000000000, .int .u64 10000000000, .int .u64 100000000000, .int .u64 1000000000000, .int .u64 10000000000000, .int .u64 100000000000000, .int .u64 1000000000000000, .int .u64 10000000000000000, .int .u64 100000000000000000, .int .u64 1000000000000000000, .int .u64 10000000000000000000]
def tab_laid_strconv_ErrRange : Array Value := #[.iface 210 (.pointer (some ⟨16, 0, none⟩))]
def tab_laid_strconv_ErrSyntax : Array Value := #[.iface 210 (.pointer (some ⟨17, 0, none⟩))]
def tab_laid_payoff_code_rows : Array Value := #[.string ⟨#[101, 110, 100]⟩, .int .u8 0, .int .u8 0, .int .u8 0, .int .i32 0, .int .i32 0, .string ⟨#[99, 111, 110, 115, 116]⟩, .int .u8 1, .int .u8 0, .int .u8 1, .int .i32 16383, .int .i32 0, .string ⟨#[98, 111, 111, 108]⟩, .int .u8 1, .int .u8 0, .int .u8 1, .int .i32 1, .int .i32 0, .string ⟨#[111, 98, 115]⟩, .int .u8 2, .int .u8 0, .int .u8 1, .int .i32 63, .int .i32 3660, .string ⟨#[108, 111, 97, 100]⟩, .int .u8 1, .int .u8 0, .int .u8 1, .int .i32 32767, .int .i32 0, .string ⟨#[115, 116, 111, 114, 101]⟩, .int .u8 1, .int .u8 1, .int .u8 0, .int .i32 32767, .int .i32 0, .string ⟨#[107, 101, 101, 112]⟩, .int .u8 1, .int .u8 1, .int .u8 1, .int .i32 16383, .int .i32 0, .string ⟨#[103, 101, 116]⟩, .int .u8 1, .int .u8 0, .int .u8 1, .int .i32 16383, .int .i32 0, .string ⟨#[100, 114, 111, 112]⟩, .int .u8 0, .int .u8 1, .int .u8 0, .int .i32 0, .int .i32 0, .string ⟨#[97, 100, 100]⟩, .int .u8 0, .int .u8 2, .int .u8 1, .int .i32 0, .int .i32 0, .string ⟨#[115, 117, 98]⟩, .int .u8 0, .int .u8 2, .int .u8 1, .int .i32 0, .int .i32 0, .string ⟨#[109, 117, 108]⟩, .int .u8 0, .int .u8 2, .int .u8 1, .int .i32 0, .int .i32 0, .string ⟨#[110, 101, 103]⟩, .int .u8 0, .int .u8 1, .int .u8 1, .int .i32 0, .int .i32 0, .string ⟨#[100, 105, 118]⟩, .int .u8 0, .int .u8 2, .int .u8 1, .int .i32 0, .int .i32 0, .string ⟨#[109, 111, 100]⟩, .int .u8 0, .int .u8 2, .int .u8 1, .int .i32 0, .int .i32 0, .string ⟨#[97, 98, 115]⟩, .int .u8 0, .int .u8 1, .int .u8 1, .int .i32 0, .int .i32 0, .string ⟨#[109, 105, 110]⟩, .int .u8 0, .int .u8 2, .int .u8 1, .int .i32 0, .int .i32 0, .string ⟨#[109, 97, 120]⟩, .int .u8 0, .int .u8 2, .int .u8 1, .int .i32 0, .int .i32 0, .string ⟨#[114, 97, 116, 105, 111]⟩, .int .u8 1, .int .u8 3, .int .u8 1, .int .i32 4, .int .i32 0, .string ⟨#[108, 116]⟩, .int .u8 0, .int .u8 2, .int .u8 1, .int .i32 0, .int .i32 0, .string ⟨#[108, 101]⟩, .int .u8 0, .int .u8 2, .int .u8 1, .int .i32 0, .int .i32 0, .string ⟨#[103, 116]⟩, .int .u8 0, .int .u8 2, .int .u8 1, .int .i32 0, .int .i32 0, .string ⟨#[103, 101]⟩, .int .u8 0, .int .u8 2, .int .u8 1, .int .i32 0, .int .i32 0, .string ⟨#[101, 113]⟩, .int .u8 0, .int .u8 2, .int .u8 1, .int .i32 0, .int .i32 0, .string ⟨#[110, 101]⟩, .int .u8 0, .int .u8 2, .int .u8 1, .int .i32 0, .int .i32 0, .string ⟨#[110, 111, 116]⟩, .int .u8 0, .int .u8 1, .int .u8 1, .int .i32 0, .int .i32 0, .string ⟨#[106, 117, 109, 112]⟩, .int .u8 1, .int .u8 0, .int .u8 0, .int .i32 262143, .int .i32 0, .string ⟨#[122, 101, 114, 111]⟩, .int .u8 1, .int .u8 1, .int .u8 0, .int .i32 262143, .int .i32 0, .string ⟨#[102, 108, 111, 119]⟩, .int .u8 1, .int .u8 1, .int .u8 0, .int .i32 4095, .int .i32 0]
def tab_laid_payoff_asm_lines : Array Value := #[.string ⟨#[110, 97, 109, 101, 115]⟩, .bool true, .string ⟨#[99, 117, 114, 115]⟩, .bool true, .string ⟨#[112, 111, 111, 108]⟩, .bool true, .string ⟨#[104, 111, 114, 105, 122, 111, 110]⟩, .bool false, .string ⟨#[99, 101, 108, 108, 115]⟩, .bool false, .string ⟨#[115, 108, 111, 116, 115]⟩, .bool false, .string ⟨#[115, 116, 97, 99, 107]⟩, .bool false, .string ⟨#[100, 97, 121]⟩, .bool true]
def tab_laid_payoff_asm_modes : Array Value := #[.string ⟨#[100, 111, 119, 110]⟩, .string ⟨#[102, 108, 111, 111, 114]⟩, .string ⟨#[99, 101, 105, 108]⟩, .string ⟨#[104, 97, 108, 102, 95, 117, 112]⟩, .string ⟨#[104, 97, 108, 102, 95, 101, 118, 101, 110]⟩]

theorem walk (p0 : Pg) (w : World) (w0 : PV w p0) (hL : laidMet Tryz.prog Rows.asmWordsRow.laid w) :
    Calls Tryz.prog 4 #[.agg p0.cs.toArray] w fun e w' => e = .returned (.bool true) ∧ Below w.heap.size w w' := by
  exact asmWords_any w0 ⟨pows_of_laid hL.tail.tail, ev_of_laid hL.tail.tail.tail, rws_of_laid hL.tail.tail.tail.tail.tail, mdsQ_of_laid hL.tail.tail.tail.tail.tail.tail.tail, lnr_of_laid hL.tail.tail.tail.tail.tail.tail⟩

theorem laid_met (os : Os) (args : Array Value) : laidMet Tryz.prog Rows.asmWordsRow.laid (({ World.holding Tryz.prog os ⟨#[.cells #[.string ⟨#[118, 97, 108, 117, 101, 32, 111, 117, 116, 32, 111, 102, 32, 114, 97, 110, 103, 101]⟩] 212, .cells #[.string ⟨#[105, 110, 118, 97, 108, 105, 100, 32, 115, 121, 110, 116, 97, 120]⟩] 212], #[], []⟩ with heap := (((((((((World.holding Tryz.prog os ⟨#[.cells #[.string ⟨#[118, 97, 108, 117, 101, 32, 111, 117, 116, 32, 111, 102, 32, 114, 97, 110, 103, 101]⟩] 212, .cells #[.string ⟨#[105, 110, 118, 97, 108, 105, 100, 32, 115, 121, 110, 116, 97, 120]⟩] 212], #[], []⟩).heap.modify (9) fun | .cells _ t frozen => .cells tab_laid_math_bits_deBruijn32tab t frozen | o => o).modify (10) fun | .cells _ t frozen => .cells tab_laid_math_bits_deBruijn64tab t frozen | o => o).modify (6) fun | .cells _ t frozen => .cells tab_laid_internal_strconv_uint64pow10 t frozen | o => o).modify (8) fun | .cells _ t frozen => .cells tab_laid_strconv_ErrRange t frozen | o => o).modify (7) fun | .cells _ t frozen => .cells tab_laid_strconv_ErrSyntax t frozen | o => o).modify (3) fun | .cells _ t frozen => .cells tab_laid_payoff_code_rows t frozen | o => o).modify (2) fun | .cells _ t frozen => .cells tab_laid_payoff_asm_lines t frozen | o => o).modify (4) fun | .cells _ t frozen => .cells tab_laid_payoff_asm_modes t frozen | o => o) } : World).forCall (fun _ _ => 0) ⟨#[], args, []⟩).memory :=
  laidMet_of_run' 8 (by kernel_rfl) (by kernel_rfl)

set_option maxRecDepth 100000 in
theorem lifted (os : Os) (started : os.Started) (H : Type) (enc : TypeId × Value → H) :
    ReturnsInHanded {} Tryz.checked os 4 .any (fun w args => (Rows.asmWordsSpec.pre enc Tryz.prog Tryz.f4 Rows.asmWordsRow.domain false w args ∧ laidMet Tryz.prog Rows.asmWordsRow.laid w) ∧ sizedMet enc Tryz.prog Tryz.f4 (OpenSpec.ofChange Rows.asmWordsSpec) false w args)
      (Rows.asmWordsSpec.post enc Tryz.prog Tryz.f4 false true false false) := by
  refine returnsInHanded_of_change_and (C := Tryz.checked) (X := fun w _ => laidMet Tryz.prog Rows.asmWordsRow.laid w) (fun _ _ _ hh h => h.of_heap hh) own started (by kernel_rfl) Tryz.func4
    (ChangeSpec.witness_at (enc := enc) (C := Tryz.checked) (os := os) (X := fun w _ => laidMet Tryz.prog Rows.asmWordsRow.laid w) false ({ World.holding Tryz.prog os ⟨#[.cells #[.string ⟨#[118, 97, 108, 117, 101, 32, 111, 117, 116, 32, 111, 102, 32, 114, 97, 110, 103, 101]⟩] 212, .cells #[.string ⟨#[105, 110, 118, 97, 108, 105, 100, 32, 115, 121, 110, 116, 97, 120]⟩] 212], #[], []⟩ with heap := (((((((((World.holding Tryz.prog os ⟨#[.cells #[.string ⟨#[118, 97, 108, 117, 101, 32, 111, 117, 116, 32, 111, 102, 32, 114, 97, 110, 103, 101]⟩] 212, .cells #[.string ⟨#[105, 110, 118, 97, 108, 105, 100, 32, 115, 121, 110, 116, 97, 120]⟩] 212], #[], []⟩).heap.modify (9) fun | .cells _ t frozen => .cells tab_laid_math_bits_deBruijn32tab t frozen | o => o).modify (10) fun | .cells _ t frozen => .cells tab_laid_math_bits_deBruijn64tab t frozen | o => o).modify (6) fun | .cells _ t frozen => .cells tab_laid_internal_strconv_uint64pow10 t frozen | o => o).modify (8) fun | .cells _ t frozen => .cells tab_laid_strconv_ErrRange t frozen | o => o).modify (7) fun | .cells _ t frozen => .cells tab_laid_strconv_ErrSyntax t frozen | o => o).modify (3) fun | .cells _ t frozen => .cells tab_laid_payoff_code_rows t frozen | o => o).modify (2) fun | .cells _ t frozen => .cells tab_laid_payoff_asm_lines t frozen | o => o).modify (4) fun | .cells _ t frozen => .cells tab_laid_payoff_asm_modes t frozen | o => o) }) #[.agg #[.slice none 0 0, .slice none 0 0, .slice none 0 0, .int .i64 0, .int .i64 0, .int .i64 0, .int .i64 0, .slice none 0 0]] 8 rfl (by kernel_rfl) (by kernel_rfl) (by kernel_rfl) (by kernel_rfl) (by kernel_rfl) (laid_met os _)) ?_
  intro W base args ds gs before hval0 hW hcnd hsz0 hL _
  have hsz : (DataW.weightsEach Tryz.prog (Tryz.f4.params.toList ++ Rows.asmWordsSpec.plain.varTypes Tryz.prog) (ds ++ gs)).all (· ≤ reachBytes) = true := hsz0
  clear hsz0
  have hval : ∀ (j : Nat) t v, Tryz.f4.params[j]? = some t → args[j]? = some v → Value.okWide Tryz.prog W .any base t v := hval0
  have hW' := hW
  obtain ⟨p, q, hA0, hV, rfl, hfz, hnd⟩ := hW
  have hA : DataW.TrodAll enc Tryz.prog W 0 (fun _ => true) true Tryz.f4.params.toList args.toList ds p := hA0
  rw [Tryz.params4] at hA hval hsz
  obtain ⟨v0, vs0, d0, ds0, p0, q0, hargs, rfl, rfl, h0, r0⟩ := trodAll_cons hA
  obtain ⟨rfl, rfl, rfl⟩ := trodAll_nil r0
  obtain rfl : args = #[v0] := by cases args; simp_all
  obtain ⟨rfl, rfl⟩ := trodVars_none hV
  have k0 := h0
  have lt0 : ∀ x ∈ p0, x.block < W.heap.size := by obtain ⟨m, hm⟩ := k0; exact DataW.trod_lt m _ _ _ hm
  obtain ⟨p0x, rfl, w0⟩ := open_pg (r := .any) pt (hval 0 27 v0 rfl rfl) h0 (fun n hn => by
    have := List.all_eq_true.1 hsz n (DataW.weights_mem_each (j := 0) (t := 27) rfl rfl n hn)
    simpa using this)
  clear hA0 hval0
  refine (walk p0x W w0 hL).mono fun e W' ⟨he, bel⟩ => ?_
  subst he
  exact ⟨_, rfl, _, _, _, [], _, [], hW', trodAll_mk1 (shut_bool Tryz.underlying4 _), (trodAll_cons_mk (Below.trod laidOut (by kernel_rfl) (of_decide_eq_true (by kernel_rfl)) k0 bel lt0) trodAll_mk0), rfl, bel.frame _, fun h => by cases h⟩

theorem over : Rows.AsmWordsSaid :=
  OpenClaim.holds_of_wide 4 Tryz.f4 rfl rfl rfl rfl rfl rfl rfl ⟨rfl, rfl, rfl, rfl, rfl⟩ rfl rfl rfl rfl rfl (by kernel_rfl) Tryz.func4 (by kernel_rfl)
    (of_decide_eq_true (by kernel_rfl)) (by unfold Func.isWrapper; first | (rw [if_pos (by decide +kernel)]; kernel_rfl) | (rw [if_neg (by decide +kernel)]; exact ⟨rfl, rfl⟩))
    (fun os started H enc _ => lifted os started H enc)

theorem card : Rows.AsmWordsCardSaid :=
  Claim7.holds_tied_plain_at .later [] [.data, .data, .data, .sentinel, .sentinel, .data, .data, .data] true (true, "e803b24289a216ac722ffae90190b184877a6860cca103315d09c4d06464b594") true
    over (fun _ h => by cases h) (by kernel_rfl) (fun _ h => by cases h) asmWords_row_tie rfl ⟨rfl, rfl⟩ (by kernel_rfl) rfl
    (fun f fn hf hfn => by
      obtain rfl : f = 4 := Option.some.inj ((show Tryz.prog.funcNamed "payoff/payofflaw13.AsmWords" = some 4 by kernel_rfl).symm.trans hf) |>.symm
      obtain rfl : fn = Tryz.f4 := (Option.some.inj (Tryz.func4.symm.trans hfn)).symm
      exact ⟨by kernel_rfl, fun j t ht => by
        rw [Tryz.params4] at ht
        have h3 : t = 27 := by
          match j, ht with
          | 0, ht => simp at ht; subst ht; simp
          | (k + 1), ht => simp at ht
        rcases h3 with rfl
        · exact (show Tryz.prog.wantsStandIn 27 = false by kernel_rfl)⟩)
    (by kernel_rfl)
end Go.Proofs.YtccjeipkljdhdaaGreatDoor.asmWords

namespace Go.Proofs.YtccjeipkljdhdaaGreatDoor
theorem asmWords_holds : Rows.AsmWordsCardSaid := asmWords.card
end Go.Proofs.YtccjeipkljdhdaaGreatDoor
