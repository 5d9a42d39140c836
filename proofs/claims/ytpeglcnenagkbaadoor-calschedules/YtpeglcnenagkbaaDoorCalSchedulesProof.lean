/-
  THE STATEMENT CalSchedules, out of its walk.
-/
import Derived.Test.YtpeglcnenagkbaaDoorRows
import Derived.Test.YtpeglcnenagkbaaDoorCards
import Derived.Test.YtpeglcnenagkbaaDoorTie
import Derived.SevenTiedAt
import Derived.WalkKit
import Derived.ProofKit
import Derived.OpenShut
import Derived.ShutString
import Derived.ChangeOld
import Derived.Below
import Derived.SizedLaws
import Derived.Lib.LaidTab
import Derived.Stop.LaidErr
import Derived.Test.YtpeglcnenagkbaaDoorOpenPlan
import Derived.Test.YtpeglcnenagkbaaDoorWLate
import Derived.Test.YtpeglcnenagkbaaDoorWTzL
import Derived.Test.YtpeglcnenagkbaaDoorWCalLaid
namespace Go.Proofs.YtpeglcnenagkbaaDoor.calSchedules
open Go.ChangeShapes Go.WideShapes Go.ChangeAt Go.RowKit
open Go.ChangeMaps (open_string shut_string)
set_option linter.unusedVariables false

theorem own : ownKnob Tryd.prog.godebug = none := by kernel_rfl
theorem laidOut : laidOutB Tryd.prog = true := by kernel_rfl
def tab_laid_math_bits_deBruijn64tab : Array Value := #[.int .u8 0, .int .u8 1, .int .u8 56, .int .u8 2, .int .u8 57, .int .u8 49, .int .u8 28, .int .u8 3, .int .u8 61, .int .u8 58, .int .u8 42, .int .u8 50, .int .u8 38, .int .u8 29, .int .u8 17, .int .u8 4, .int .u8 62, .int .u8 47, .int .u8 59, .int .u8 36, .int .u8 45, .int .u8 43, .int .u8 51, .int .u8 22, .int .u8 53, .int .u8 39, .int .u8 33, .int .u8 30, .int .u8 24, .int .u8 18, .int .u8 12, .int .u8 5, .int .u8 63, .int .u8 55, .int .u8 48, .int .u8 27, .int .u8 60, .int .u8 41, .int .u8 37, .int .u8 16, .int .u8 46, .int .u8 35, .int .u8 44, .int .u8 21, .int .u8 52, .int .u8 32, .int .u8 23, .int .u8 11, .int .u8 54, .int .u8 26, .int .u8 40, .int .u8 15, .int .u8 34, .int .u8 20, .int .u8 31, .int .u8 10, .int .u8 25, .int .u8 14, .int .u8 19, .int .u8 9, .int .u8 13, .int .u8 8, .int .u8 7, .int .u8 6]
def tab_laid_payoff_cal_monthDays : Array Value := #[.int .i64 31, .int .i64 28, .int .i64 31, .int .i64 30, .int .i64 31, .int .i64 30, .int .i64 31, .int .i64 31, .int .i64 30, .int .i64 31, .int .i64 30, .int .i64 31]

theorem walk (py0 pm0 pd0 qy0 qm0 qd0 pn0 pu0 pc0 : Int) (a0 : Option Addr) (len0 cap0 : Nat) (z0 : List Dt) (w : World) (w0 : HoD w a0 len0 cap0 z0) (hL : laidMet Tryd.prog Rows.calSchedulesRow.laid w) :
    Calls Tryd.prog 6 #[.agg #[.int .i64 py0, .int .i64 pm0, .int .i64 pd0, .int .i64 qy0, .int .i64 qm0, .int .i64 qd0, .int .i64 pn0, .int .i64 pu0, .int .i64 pc0, .slice a0 len0 cap0]] w fun e w' => e = .returned (.bool true) ∧ Below w.heap.size w w' := by
  exact calSchedules_walk py0 pm0 pd0 qy0 qm0 qd0 pn0 pu0 pc0 a0 len0 cap0 z0 w (tz_of_laid hL) (mon_of_laid (laidMet.tail hL)) w0

theorem laid_met (os : Os) (args : Array Value) : laidMet Tryd.prog Rows.calSchedulesRow.laid (({ World.holding Tryd.prog os ⟨#[], #[], []⟩ with heap := (((World.holding Tryd.prog os ⟨#[], #[], []⟩).heap.modify (0) fun | .cells _ t frozen => .cells tab_laid_math_bits_deBruijn64tab t frozen | o => o).modify (1) fun | .cells _ t frozen => .cells tab_laid_payoff_cal_monthDays t frozen | o => o) } : World).forCall (fun _ _ => 0) ⟨#[], args, []⟩).memory :=
  laidMet_of_run' 8 (by kernel_rfl) (by kernel_rfl)

set_option maxRecDepth 100000 in
theorem lifted (os : Os) (started : os.Started) (H : Type) (enc : TypeId × Value → H) :
    ReturnsInHanded {} Tryd.checked os 6 .any (fun w args => (Rows.calSchedulesSpec.pre enc Tryd.prog Tryd.f6 Rows.calSchedulesRow.domain false w args ∧ laidMet Tryd.prog Rows.calSchedulesRow.laid w) ∧ sizedMet enc Tryd.prog Tryd.f6 (OpenSpec.ofChange Rows.calSchedulesSpec) false w args)
      (Rows.calSchedulesSpec.post enc Tryd.prog Tryd.f6 false true false false) := by
  refine returnsInHanded_of_change_and (C := Tryd.checked) (X := fun w _ => laidMet Tryd.prog Rows.calSchedulesRow.laid w) (fun _ _ _ hh h => h.of_heap hh) own started (by kernel_rfl) Tryd.func6
    (ChangeSpec.witness_at (enc := enc) (C := Tryd.checked) (os := os) (X := fun w _ => laidMet Tryd.prog Rows.calSchedulesRow.laid w) false ({ World.holding Tryd.prog os ⟨#[], #[], []⟩ with heap := (((World.holding Tryd.prog os ⟨#[], #[], []⟩).heap.modify (0) fun | .cells _ t frozen => .cells tab_laid_math_bits_deBruijn64tab t frozen | o => o).modify (1) fun | .cells _ t frozen => .cells tab_laid_payoff_cal_monthDays t frozen | o => o) }) #[.agg #[.int .i64 0, .int .i64 0, .int .i64 0, .int .i64 0, .int .i64 0, .int .i64 0, .int .i64 0, .int .i64 0, .int .i64 0, .slice none 0 0]] 8 rfl (by kernel_rfl) (by kernel_rfl) (by kernel_rfl) (by kernel_rfl) (by kernel_rfl) (laid_met os _)) ?_
  intro W base args ds gs before hval0 hW hcnd hsz0 hL _
  have hsz : (DataW.weightsEach Tryd.prog (Tryd.f6.params.toList ++ Rows.calSchedulesSpec.plain.varTypes Tryd.prog) (ds ++ gs)).all (· ≤ reachBytes) = true := hsz0
  clear hsz0
  have hval : ∀ (j : Nat) t v, Tryd.f6.params[j]? = some t → args[j]? = some v → Value.okWide Tryd.prog W .any base t v := hval0
  have hW' := hW
  obtain ⟨p, q, hA0, hV, rfl, hfz, hnd⟩ := hW
  have hA : DataW.TrodAll enc Tryd.prog W 0 (fun _ => true) true Tryd.f6.params.toList args.toList ds p := hA0
  rw [Tryd.params6] at hA hval hsz
  obtain ⟨v0, vs0, d0, ds0, p0, q0, hargs, rfl, rfl, h0, r0⟩ := trodAll_cons hA
  obtain ⟨rfl, rfl, rfl⟩ := trodAll_nil r0
  obtain rfl : args = #[v0] := by cases args; simp_all
  obtain ⟨rfl, rfl⟩ := trodVars_none hV
  have k0 := h0
  have lt0 : ∀ x ∈ p0, x.block < W.heap.size := by obtain ⟨m, hm⟩ := k0; exact DataW.trod_lt m _ _ _ hm
  obtain ⟨py0, pm0, pd0, qy0, qm0, qd0, pn0, pu0, pc0, a0, len0, cap0, z0, rfl, w0⟩ := open_plan (r := .any) (S := 40) (D := 35) (T := 37) (e := 3) (L := 38) Tryd.underlying40 rfl (by kernel_rfl) Tryd.underlying35 rfl (by kernel_rfl) (by kernel_rfl) Tryd.underlying37 rfl (by kernel_rfl) Tryd.underlying3 (by kernel_rfl) Tryd.underlying38 (by kernel_rfl) (hval 0 40 v0 rfl rfl) h0 (fun n hn => by
    have := List.all_eq_true.1 hsz n (DataW.weights_mem_each (j := 0) (t := 40) rfl rfl n hn)
    simpa using this)
  clear hA0 hval0
  refine (walk py0 pm0 pd0 qy0 qm0 qd0 pn0 pu0 pc0 a0 len0 cap0 z0 W w0 hL).mono fun e W' ⟨he, bel⟩ => ?_
  subst he
  exact ⟨_, rfl, _, _, _, [], _, [], hW', trodAll_mk1 (shut_bool Tryd.underlying4 _), (trodAll_cons_mk (Below.trod laidOut (by kernel_rfl) (of_decide_eq_true (by kernel_rfl)) k0 bel lt0) trodAll_mk0), rfl, bel.frame _, fun h => by cases h⟩

theorem over : Rows.CalSchedulesSaid :=
  OpenClaim.holds_of_wide 6 Tryd.f6 rfl rfl rfl rfl rfl rfl rfl ⟨rfl, rfl, rfl, rfl, rfl⟩ rfl rfl rfl rfl rfl (by kernel_rfl) Tryd.func6 (by kernel_rfl)
    (of_decide_eq_true (by kernel_rfl)) (by unfold Func.isWrapper; first | (rw [if_pos (by decide +kernel)]; kernel_rfl) | (rw [if_neg (by decide +kernel)]; exact ⟨rfl, rfl⟩))
    (fun os started H enc _ => lifted os started H enc)

theorem card : Rows.CalSchedulesCardSaid :=
  Claim7.holds_tied_plain_at .later [] [.data, .data] true (true, "25b0fab6600dcf1bf61ab09772ea2f7a6346c017b815a74d8c205ed251f31097") false
    over (fun _ h => by cases h) (by kernel_rfl) (fun _ h => by cases h) calSchedules_row_tie rfl ⟨rfl, rfl⟩ (by kernel_rfl) rfl
    (fun f fn hf hfn => by
      obtain rfl : f = 6 := Option.some.inj ((show Tryd.prog.funcNamed "payoff/payofflaw02.CalSchedules" = some 6 by kernel_rfl).symm.trans hf) |>.symm
      obtain rfl : fn = Tryd.f6 := (Option.some.inj (Tryd.func6.symm.trans hfn)).symm
      exact ⟨by kernel_rfl, fun j t ht => by
        rw [Tryd.params6] at ht
        have h3 : t = 40 := by
          match j, ht with
          | 0, ht => simp at ht; subst ht; simp
          | (k + 1), ht => simp at ht
        rcases h3 with rfl
        · exact (show Tryd.prog.wantsStandIn 40 = false by kernel_rfl)⟩)
    (by kernel_rfl)
end Go.Proofs.YtpeglcnenagkbaaDoor.calSchedules

namespace Go.Proofs.YtpeglcnenagkbaaDoor
theorem calSchedules_holds : Rows.CalSchedulesCardSaid := calSchedules.card
end Go.Proofs.YtpeglcnenagkbaaDoor
