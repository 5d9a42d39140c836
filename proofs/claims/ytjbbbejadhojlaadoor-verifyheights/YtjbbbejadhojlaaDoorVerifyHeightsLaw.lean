import Derived.Test.YtjbbbejadhojlaaDoorRows
import Derived.Test.YtjbbbejadhojlaaDoorCards
import Derived.Test.YtjbbbejadhojlaaDoorTie
import Derived.SevenTiedAt
import Derived.WalkKit
import Derived.ProofKit
import Derived.OpenShut
import Derived.ShutString
import Derived.ChangeOld
import Derived.Below
import Derived.SizedLaws
import Derived.Lib.LaidTab
import Derived.Stop.LaidErr
import Derived.Test.YtjbbbejadhojlaaDoorXAA
import Derived.Test.YtjbbbejadhojlaaDoorXBN
import Derived.Test.YtjbbbejadhojlaaDoorXBO
namespace Go.Proofs.YtjbbbejadhojlaaDoor.verifyHeights
open Go.ChangeShapes Go.WideShapes Go.ChangeAt Go.RowKit
open Go.ChangeMaps (open_string shut_string)
set_option linter.unusedVariables false

theorem own : ownKnob Tryd.prog.godebug = none := by kernel_rfl
theorem laidOut : laidOutB Tryd.prog = true := by kernel_rfl
def tab_laid_payoff_code_rows : Array Value := #[.string ⟨#[101, 110, 100]⟩, .int .u8 0, .int .u8 0, .int .u8 0, .int .i32 0, .int .i32 0, .string ⟨#[99, 111, 110, 115, 116]⟩, .int .u8 1, .int .u8 0, .int .u8 1, .int .i32 16383, .int .i32 0, .string ⟨#[98, 111, 111, 108]⟩, .int .u8 1, .int .u8 0, .int .u8 1, .int .i32 1, .int .i32 0, .string ⟨#[111, 98, 115]⟩, .int .u8 2, .int .u8 0, .int .u8 1, .int .i32 63, .int .i32 3660, .string ⟨#[108, 111, 97, 100]⟩, .int .u8 1, .int .u8 0, .int .u8 1, .int .i32 32767, .int .i32 0, .string ⟨#[115, 116, 111, 114, 101]⟩, .int .u8 1, .int .u8 1, .int .u8 0, .int .i32 32767, .int .i32 0, .string ⟨#[107, 101, 101, 112]⟩, .int .u8 1, .int .u8 1, .int .u8 1, .int .i32 16383, .int .i32 0, .string ⟨#[103, 101, 116]⟩, .int .u8 1, .int .u8 0, .int .u8 1, .int .i32 16383, .int .i32 0, .string ⟨#[100, 114, 111, 112]⟩, .int .u8 0, .int .u8 1, .int .u8 0, .int .i32 0, .int .i32 0, .string ⟨#[97, 100, 100]⟩, .int .u8 0, .int .u8 2, .int .u8 1, .int .i32 0, .int .i32 0, .string ⟨#[115, 117, 98]⟩, .int .u8 0, .int .u8 2, .int .u8 1, .int .i32 0, .int .i32 0, .string ⟨#[109, 117, 108]⟩, .int .u8 0, .int .u8 2, .int .u8 1, .int .i32 0, .int .i32 0, .string ⟨#[110, 101, 103]⟩, .int .u8 0, .int .u8 1, .int .u8 1, .int .i32 0, .int .i32 0, .string ⟨#[100, 105, 118]⟩, .int .u8 0, .int .u8 2, .int .u8 1, .int .i32 0, .int .i32 0, .string ⟨#[109, 111, 100]⟩, .int .u8 0, .int .u8 2, .int .u8 1, .int .i32 0, .int .i32 0, .string ⟨#[97, 98, 115]⟩, .int .u8 0, .int .u8 1, .int .u8 1, .int .i32 0, .int .i32 0, .string ⟨#[109, 105, 110]⟩, .int .u8 0, .int .u8 2, .int .u8 1, .int .i32 0, .int .i32 0, .string ⟨#[109, 97, 120]⟩, .int .u8 0, .int .u8 2, .int .u8 1, .int .i32 0, .int .i32 0, .string ⟨#[114, 97, 116, 105, 111]⟩, .int .u8 1, .int .u8 3, .int .u8 1, .int .i32 4, .int .i32 0, .string ⟨#[108, 116]⟩, .int .u8 0, .int .u8 2, .int .u8 1, .int .i32 0, .int .i32 0, .string ⟨#[108, 101]⟩, .int .u8 0, .int .u8 2, .int .u8 1, .int .i32 0, .int .i32 0, .string ⟨#[103, 116]⟩, .int .u8 0, .int .u8 2, .int .u8 1, .int .i32 0, .int .i32 0, .string ⟨#[103, 101]⟩, .int .u8 0, .int .u8 2, .int .u8 1, .int .i32 0, .int .i32 0, .string ⟨#[101, 113]⟩, .int .u8 0, .int .u8 2, .int .u8 1, .int .i32 0, .int .i32 0, .string ⟨#[110, 101]⟩, .int .u8 0, .int .u8 2, .int .u8 1, .int .i32 0, .int .i32 0, .string ⟨#[110, 111, 116]⟩, .int .u8 0, .int .u8 1, .int .u8 1, .int .i32 0, .int .i32 0, .string ⟨#[106, 117, 109, 112]⟩, .int .u8 1, .int .u8 0, .int .u8 0, .int .i32 262143, .int .i32 0, .string ⟨#[122, 101, 114, 111]⟩, .int .u8 1, .int .u8 1, .int .u8 0, .int .i32 262143, .int .i32 0, .string ⟨#[102, 108, 111, 119]⟩, .int .u8 1, .int .u8 1, .int .u8 0, .int .i32 4095, .int .i32 0]
def tab_laid_payoff_verify_rules : Array Value := #[.int .u8 0, .int .u8 0, .int .u8 0, .int .u8 0, .int .u8 0, .int .u8 0, .int .u8 0, .int .u8 1, .int .u8 0, .int .u8 0, .int .u8 0, .int .u8 2, .int .u8 0, .int .u8 0, .int .u8 0, .int .u8 1, .int .u8 0, .int .u8 0, .int .u8 0, .int .u8 1, .int .u8 1, .int .u8 0, .int .u8 0, .int .u8 0, .int .u8 3, .int .u8 0, .int .u8 0, .int .u8 0, .int .u8 0, .int .u8 0, .int .u8 0, .int .u8 0, .int .u8 3, .int .u8 0, .int .u8 0, .int .u8 0, .int .u8 1, .int .u8 1, .int .u8 0, .int .u8 1, .int .u8 1, .int .u8 1, .int .u8 0, .int .u8 1, .int .u8 1, .int .u8 1, .int .u8 0, .int .u8 1, .int .u8 1, .int .u8 0, .int .u8 0, .int .u8 1, .int .u8 1, .int .u8 1, .int .u8 0, .int .u8 1, .int .u8 1, .int .u8 1, .int .u8 0, .int .u8 1, .int .u8 1, .int .u8 0, .int .u8 0, .int .u8 1, .int .u8 1, .int .u8 1, .int .u8 0, .int .u8 1, .int .u8 1, .int .u8 1, .int .u8 0, .int .u8 1, .int .u8 1, .int .u8 1, .int .u8 1, .int .u8 1, .int .u8 1, .int .u8 1, .int .u8 0, .int .u8 2, .int .u8 1, .int .u8 1, .int .u8 0, .int .u8 2, .int .u8 1, .int .u8 1, .int .u8 0, .int .u8 2, .int .u8 1, .int .u8 1, .int .u8 0, .int .u8 2, .int .u8 1, .int .u8 1, .int .u8 0, .int .u8 2, .int .u8 1, .int .u8 1, .int .u8 0, .int .u8 2, .int .u8 2, .int .u8 0, .int .u8 0, .int .u8 2, .int .u8 0, .int .u8 0, .int .u8 0, .int .u8 0, .int .u8 2, .int .u8 0, .int .u8 0, .int .u8 0, .int .u8 1, .int .u8 0, .int .u8 0, .int .u8 0]

theorem walk (p0 : Pg) (a1 : Int) (w : World) (w0 : PV w p0) (w1 : (Lit.int .i64 a1).wf = true) (hL : laidMet Tryd.prog Rows.verifyHeightsRow.laid w) :
    Calls Tryd.prog 4 #[.agg p0.cs.toArray, .int .i64 a1] w fun e w' => e = .returned (.bool true) ∧ Below w.heap.size w w' := by
  exact (verifyHeights_any w0 (rws_of_laid hL) (rul_of_laid hL.tail))

theorem laid_met (os : Os) (args : Array Value) : laidMet Tryd.prog Rows.verifyHeightsRow.laid (({ World.holding Tryd.prog os ⟨#[], #[], []⟩ with heap := (((World.holding Tryd.prog os ⟨#[], #[], []⟩).heap.modify (1) fun | .cells _ t frozen => .cells tab_laid_payoff_code_rows t frozen | o => o).modify (0) fun | .cells _ t frozen => .cells tab_laid_payoff_verify_rules t frozen | o => o) } : World).forCall (fun _ _ => 0) ⟨#[], args, []⟩).memory :=
  laidMet_of_run' 8 (by kernel_rfl) (by kernel_rfl)

set_option maxRecDepth 100000 in
theorem lifted (os : Os) (started : os.Started) (H : Type) (enc : TypeId × Value → H) :
    ReturnsInHanded {} Tryd.checked os 4 .any (fun w args => (Rows.verifyHeightsSpec.pre enc Tryd.prog Tryd.f4 Rows.verifyHeightsRow.domain false w args ∧ laidMet Tryd.prog Rows.verifyHeightsRow.laid w) ∧ sizedMet enc Tryd.prog Tryd.f4 (OpenSpec.ofChange Rows.verifyHeightsSpec) false w args)
      (Rows.verifyHeightsSpec.post enc Tryd.prog Tryd.f4 false true false false) := by
  refine returnsInHanded_of_change_and (C := Tryd.checked) (X := fun w _ => laidMet Tryd.prog Rows.verifyHeightsRow.laid w) (fun _ _ _ hh h => h.of_heap hh) own started (by kernel_rfl) Tryd.func4
    (ChangeSpec.witness_at (enc := enc) (C := Tryd.checked) (os := os) (X := fun w _ => laidMet Tryd.prog Rows.verifyHeightsRow.laid w) false ({ World.holding Tryd.prog os ⟨#[], #[], []⟩ with heap := (((World.holding Tryd.prog os ⟨#[], #[], []⟩).heap.modify (1) fun | .cells _ t frozen => .cells tab_laid_payoff_code_rows t frozen | o => o).modify (0) fun | .cells _ t frozen => .cells tab_laid_payoff_verify_rules t frozen | o => o) }) #[.agg #[.slice none 0 0, .slice none 0 0, .slice none 0 0, .int .i64 0, .int .i64 0, .int .i64 0, .int .i64 0, .slice none 0 0], .int .i64 0] 8 rfl (by kernel_rfl) (by kernel_rfl) (by kernel_rfl) (by kernel_rfl) (by kernel_rfl) (laid_met os _)) ?_
  intro W base args ds gs before hval0 hW hcnd hsz0 hL _
  have hsz : (DataW.weightsEach Tryd.prog (Tryd.f4.params.toList ++ Rows.verifyHeightsSpec.plain.varTypes Tryd.prog) (ds ++ gs)).all (· ≤ reachBytes) = true := hsz0
  clear hsz0
  have hval : ∀ (j : Nat) t v, Tryd.f4.params[j]? = some t → args[j]? = some v → Value.okWide Tryd.prog W .any base t v := hval0
  have hW' := hW
  obtain ⟨p, q, hA0, hV, rfl, hfz, hnd⟩ := hW
  have hA : DataW.TrodAll enc Tryd.prog W 0 (fun _ => true) true Tryd.f4.params.toList args.toList ds p := hA0
  rw [Tryd.params4] at hA hval hsz
  obtain ⟨v0, vs0, d0, ds0, p0, q0, hargs, rfl, rfl, h0, r0⟩ := trodAll_cons hA
  obtain ⟨v1, vs1, d1, ds1, p1, q1, rfl, rfl, rfl, h1, r1⟩ := trodAll_cons r0
  obtain ⟨rfl, rfl, rfl⟩ := trodAll_nil r1
  obtain rfl : args = #[v0, v1] := by cases args; simp_all
  obtain ⟨rfl, rfl⟩ := trodVars_none hV
  have k0 := h0
  have lt0 : ∀ x ∈ p0, x.block < W.heap.size := by obtain ⟨m, hm⟩ := k0; exact DataW.trod_lt m _ _ _ hm
  have k1 := h1
  have lt1 : ∀ x ∈ p1, x.block < W.heap.size := by obtain ⟨m, hm⟩ := k1; exact DataW.trod_lt m _ _ _ hm
  obtain ⟨p0x, rfl, w0⟩ := open_pg (r := .any) pt (hval 0 26 v0 rfl rfl) h0 (fun n hn => by
    have := List.all_eq_true.1 hsz n (DataW.weights_mem_each (j := 0) (t := 26) rfl rfl n hn)
    simpa using this)
  obtain ⟨a1, rfl, _, _, w1⟩ := open_int Tryd.underlying3 (hval 1 3 v1 rfl rfl) h1
  clear hA0 hval0
  refine (walk p0x a1 W w0 w1 hL).mono fun e W' ⟨he, bel⟩ => ?_
  subst he
  exact ⟨_, rfl, _, _, _, [], _, [], hW', trodAll_mk1 (shut_bool Tryd.underlying4 _), (trodAll_cons_mk (Below.trod laidOut (by kernel_rfl) (of_decide_eq_true (by kernel_rfl)) k0 bel lt0) (trodAll_cons_mk (Below.trod laidOut (by kernel_rfl) (of_decide_eq_true (by kernel_rfl)) k1 bel lt1) trodAll_mk0)), rfl, bel.frame _, fun h => by cases h⟩

theorem over : Rows.VerifyHeightsSaid :=
  OpenClaim.holds_of_wide 4 Tryd.f4 rfl rfl rfl rfl rfl rfl rfl ⟨rfl, rfl, rfl, rfl, rfl⟩ rfl rfl rfl rfl rfl (by kernel_rfl) Tryd.func4 (by kernel_rfl)
    (of_decide_eq_true (by kernel_rfl)) (by unfold Func.isWrapper; first | (rw [if_pos (by decide +kernel)]; kernel_rfl) | (rw [if_neg (by decide +kernel)]; exact ⟨rfl, rfl⟩))
    (fun os started H enc _ => lifted os started H enc)

theorem card : Rows.VerifyHeightsCardSaid :=
  Claim7.holds_tied_plain_at .later [] [.data, .data] true (true, "db3da3885519e5b9ce3c29300e86d35b0527b05c05bddddf8de8665a43e8bd16") false
    over (fun _ h => by cases h) (by kernel_rfl) (fun _ h => by cases h) verifyHeights_row_tie rfl ⟨rfl, rfl⟩ (by kernel_rfl) rfl
    (fun f fn hf hfn => by
      obtain rfl : f = 4 := Option.some.inj ((show Tryd.prog.funcNamed "payoff/payofflaw14.VerifyHeights" = some 4 by kernel_rfl).symm.trans hf) |>.symm
      obtain rfl : fn = Tryd.f4 := (Option.some.inj (Tryd.func4.symm.trans hfn)).symm
      exact ⟨by kernel_rfl, fun j t ht => by
        rw [Tryd.params4] at ht
        have h3 : t = 3 ∨ t = 26 := by
          match j, ht with
          | 0, ht => simp at ht; subst ht; simp
          | 1, ht => simp at ht; subst ht; simp
          | (k + 2), ht => simp at ht
        rcases h3 with rfl | rfl
        · exact (show Tryd.prog.wantsStandIn 3 = false by kernel_rfl)
        · exact (show Tryd.prog.wantsStandIn 26 = false by kernel_rfl)⟩)
    (by kernel_rfl)
end Go.Proofs.YtjbbbejadhojlaaDoor.verifyHeights

namespace Go.Proofs.YtjbbbejadhojlaaDoor
theorem verifyHeights_holds : Rows.VerifyHeightsCardSaid := verifyHeights.card
end Go.Proofs.YtjbbbejadhojlaaDoor
