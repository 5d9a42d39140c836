import Derived.Test.YtpfjnnkjoabgbaaGreatDoorRows
import Derived.Test.YtpfjnnkjoabgbaaGreatDoorCards
import Derived.Test.YtpfjnnkjoabgbaaGreatDoorTie
import Derived.SevenTiedAt
import Derived.WalkKit
import Derived.ProofKit
import Derived.OpenShut
import Derived.ShutString
import Derived.ChangeOld
import Derived.Below
import Derived.SizedLaws
import Derived.Lib.LaidTab
import Derived.Stop.LaidErr
import Derived.Test.YtpfjnnkjoabgbaaGreatDoorXAA
import Derived.Test.YtpfjnnkjoabgbaaGreatDoorXBV
import Derived.Test.YtpfjnnkjoabgbaaGreatDoorXBW
namespace Go.Proofs.YtpfjnnkjoabgbaaGreatDoor.machineBounds
open Go.ChangeShapes Go.WideShapes Go.ChangeAt Go.RowKit
open Go.ChangeMaps (open_string shut_string)
set_option linter.unusedVariables false

theorem own : ownKnob Tryz.prog.godebug = none := by kernel_rfl
theorem laidOut : laidOutB Tryz.prog = true := by kernel_rfl
def IsRow (k : IntKind) (w : World) (a : Option Addr) (len cap : Nat) (zs : List Int) : Prop :=
  (a = none ∧ len = 0 ∧ cap = 0 ∧ zs = []) ∨
  ∃ x, a = some x ∧ len ≤ cap ∧ cap ≤ maxLen ∧ zs.length = cap ∧ (∀ i, i < zs.length → w.cell? (x.add i) = some (.int k (zs.getD i 0))) ∧ ∀ n ∈ zs, (Lit.int k n).wf = true
def tab_laid_payoff_code_rows : Array Value := #[.string ⟨#[101, 110, 100]⟩, .int .u8 0, .int .u8 0, .int .u8 0, .int .i32 0, .int .i32 0, .string ⟨#[99, 111, 110, 115, 116]⟩, .int .u8 1, .int .u8 0, .int .u8 1, .int .i32 16383, .int .i32 0, .string ⟨#[98, 111, 111, 108]⟩, .int .u8 1, .int .u8 0, .int .u8 1, .int .i32 1, .int .i32 0, .string ⟨#[111, 98, 115]⟩, .int .u8 2, .int .u8 0, .int .u8 1, .int .i32 63, .int .i32 3660, .string ⟨#[108, 111, 97, 100]⟩, .int .u8 1, .int .u8 0, .int .u8 1, .int .i32 32767, .int .i32 0, .string ⟨#[115, 116, 111, 114, 101]⟩, .int .u8 1, .int .u8 1, .int .u8 0, .int .i32 32767, .int .i32 0, .string ⟨#[107, 101, 101, 112]⟩, .int .u8 1, .int .u8 1, .int .u8 1, .int .i32 16383, .int .i32 0, .string ⟨#[103, 101, 116]⟩, .int .u8 1, .int .u8 0, .int .u8 1, .int .i32 16383, .int .i32 0, .string ⟨#[100, 114, 111, 112]⟩, .int .u8 0, .int .u8 1, .int .u8 0, .int .i32 0, .int .i32 0, .string ⟨#[97, 100, 100]⟩, .int .u8 0, .int .u8 2, .int .u8 1, .int .i32 0, .int .i32 0, .string ⟨#[115, 117, 98]⟩, .int .u8 0, .int .u8 2, .int .u8 1, .int .i32 0, .int .i32 0, .string ⟨#[109, 117, 108]⟩, .int .u8 0, .int .u8 2, .int .u8 1, .int .i32 0, .int .i32 0, .string ⟨#[110, 101, 103]⟩, .int .u8 0, .int .u8 1, .int .u8 1, .int .i32 0, .int .i32 0, .string ⟨#[100, 105, 118]⟩, .int .u8 0, .int .u8 2, .int .u8 1, .int .i32 0, .int .i32 0, .string ⟨#[109, 111, 100]⟩, .int .u8 0, .int .u8 2, .int .u8 1, .int .i32 0, .int .i32 0, .string ⟨#[97, 98, 115]⟩, .int .u8 0, .int .u8 1, .int .u8 1, .int .i32 0, .int .i32 0, .string ⟨#[109, 105, 110]⟩, .int .u8 0, .int .u8 2, .int .u8 1, .int .i32 0, .int .i32 0, .string ⟨#[109, 97, 120]⟩, .int .u8 0, .int .u8 2, .int .u8 1, .int .i32 0, .int .i32 0, .string ⟨#[114, 97, 116, 105, 111]⟩, .int .u8 1, .int .u8 3, .int .u8 1, .int .i32 4, .int .i32 0, .string ⟨#[108, 116]⟩, .int .u8 0, .int .u8 2, .int .u8 1, .int .i32 0, .int .i32 0, .string ⟨#[108, 101]⟩, .int .u8 0, .int .u8 2, .int .u8 1, .int .i32 0, .int .i32 0, .string ⟨#[103, 116]⟩, .int .u8 0, .int .u8 2, .int .u8 1, .int .i32 0, .int .i32 0, .string ⟨#[103, 101]⟩, .int .u8 0, .int .u8 2, .int .u8 1, .int .i32 0, .int .i32 0, .string ⟨#[101, 113]⟩, .int .u8 0, .int .u8 2, .int .u8 1, .int .i32 0, .int .i32 0, .string ⟨#[110, 101]⟩, .int .u8 0, .int .u8 2, .int .u8 1, .int .i32 0, .int .i32 0, .string ⟨#[110, 111, 116]⟩, .int .u8 0, .int .u8 1, .int .u8 1, .int .i32 0, .int .i32 0, .string ⟨#[106, 117, 109, 112]⟩, .int .u8 1, .int .u8 0, .int .u8 0, .int .i32 262143, .int .i32 0, .string ⟨#[122, 101, 114, 111]⟩, .int .u8 1, .int .u8 1, .int .u8 0, .int .i32 262143, .int .i32 0, .string ⟨#[102, 108, 111, 119]⟩, .int .u8 1, .int .u8 1, .int .u8 0, .int .i32 4095, .int .i32 0]
def tab_laid_payoff_verify_rules : Array Value := #[.int .u8 0, .int .u8 0, .int .u8 0, .int .u8 0, .int .u8 0, .int .u8 0, .int .u8 0, .int .u8 1, .int .u8 0, .int .u8 0, .int .u8 0, .int .u8 2, .int .u8 0, .int .u8 0, .int .u8 0, .int .u8 1, .int .u8 0, .int .u8 0, .int .u8 0, .int .u8 1, .int .u8 1, .int .u8 0, .int .u8 0, .int .u8 0, .int .u8 3, .int .u8 0, .int .u8 0, .int .u8 0, .int .u8 0, .int .u8 0, .int .u8 0, .int .u8 0, .int .u8 3, .int .u8 0, .int .u8 0, .int .u8 0, .int .u8 1, .int .u8 1, .int .u8 0, .int .u8 1, .int .u8 1, .int .u8 1, .int .u8 0, .int .u8 1, .int .u8 1, .int .u8 1, .int .u8 0, .int .u8 1, .int .u8 1, .int .u8 0, .int .u8 0, .int .u8 1, .int .u8 1, .int .u8 1, .int .u8 0, .int .u8 1, .int .u8 1, .int .u8 1, .int .u8 0, .int .u8 1, .int .u8 1, .int .u8 0, .int .u8 0, .int .u8 1, .int .u8 1, .int .u8 1, .int .u8 0, .int .u8 1, .int .u8 1, .int .u8 1, .int .u8 0, .int .u8 1, .int .u8 1, .int .u8 1, .int .u8 1, .int .u8 1, .int .u8 1, .int .u8 1, .int .u8 0, .int .u8 2, .int .u8 1, .int .u8 1, .int .u8 0, .int .u8 2, .int .u8 1, .int .u8 1, .int .u8 0, .int .u8 2, .int .u8 1, .int .u8 1, .int .u8 0, .int .u8 2, .int .u8 1, .int .u8 1, .int .u8 0, .int .u8 2, .int .u8 1, .int .u8 1, .int .u8 0, .int .u8 2, .int .u8 2, .int .u8 0, .int .u8 0, .int .u8 2, .int .u8 0, .int .u8 0, .int .u8 0, .int .u8 0, .int .u8 2, .int .u8 0, .int .u8 0, .int .u8 0, .int .u8 1, .int .u8 0, .int .u8 0, .int .u8 0]

theorem walk (p0 : Pg) (a1 : Option Addr) (len1 cap1 : Nat) (z1 : List Rw) (a2 : Option Addr) (len2 cap2 : Nat) (z2 : List Bool) (w : World) (w0 : PV w p0) (w1 : RL w a1 len1 z1) (w2 : IsBools w a2 len2 cap2 z2) (b2 : len2 * 1 ≤ 140737488351232) (hL : laidMet Tryz.prog Rows.machineBoundsRow.laid w) :
    Calls Tryz.prog 6 #[.agg p0.cs.toArray, .slice a1 len1 cap1, .slice a2 len2 cap2] w fun e w' => e = .returned (.bool true) ∧ Below w.heap.size w w' := by
  exact (machineBounds_any w0 (rws_of_laid hL) (rul_of_laid hL.tail) w1 (hop_of w2) (hop_len w2))

theorem laid_met (os : Os) (args : Array Value) : laidMet Tryz.prog Rows.machineBoundsRow.laid (({ World.holding Tryz.prog os ⟨#[], #[], []⟩ with heap := (((World.holding Tryz.prog os ⟨#[], #[], []⟩).heap.modify (1) fun | .cells _ t frozen => .cells tab_laid_payoff_code_rows t frozen | o => o).modify (0) fun | .cells _ t frozen => .cells tab_laid_payoff_verify_rules t frozen | o => o) } : World).forCall (fun _ _ => 0) ⟨#[], args, []⟩).memory :=
  laidMet_of_run' 8 (by kernel_rfl) (by kernel_rfl)

set_option maxRecDepth 100000 in
theorem lifted (os : Os) (started : os.Started) (H : Type) (enc : TypeId × Value → H) :
    ReturnsInHanded {} Tryz.checked os 6 .any (fun w args => (Rows.machineBoundsSpec.pre enc Tryz.prog Tryz.f6 Rows.machineBoundsRow.domain false w args ∧ laidMet Tryz.prog Rows.machineBoundsRow.laid w) ∧ sizedMet enc Tryz.prog Tryz.f6 (OpenSpec.ofChange Rows.machineBoundsSpec) false w args)
      (Rows.machineBoundsSpec.post enc Tryz.prog Tryz.f6 false true false false) := by
  refine returnsInHanded_of_change_and (C := Tryz.checked) (X := fun w _ => laidMet Tryz.prog Rows.machineBoundsRow.laid w) (fun _ _ _ hh h => h.of_heap hh) own started (by kernel_rfl) Tryz.func6
    (ChangeSpec.witness_at (enc := enc) (C := Tryz.checked) (os := os) (X := fun w _ => laidMet Tryz.prog Rows.machineBoundsRow.laid w) false ({ World.holding Tryz.prog os ⟨#[], #[], []⟩ with heap := (((World.holding Tryz.prog os ⟨#[], #[], []⟩).heap.modify (1) fun | .cells _ t frozen => .cells tab_laid_payoff_code_rows t frozen | o => o).modify (0) fun | .cells _ t frozen => .cells tab_laid_payoff_verify_rules t frozen | o => o) }) #[.agg #[.slice none 0 0, .slice none 0 0, .slice none 0 0, .int .i64 0, .int .i64 0, .int .i64 0, .int .i64 0, .slice none 0 0], .slice none 0 0, .slice none 0 0] 8 rfl (by kernel_rfl) (by kernel_rfl) (by kernel_rfl) (by kernel_rfl) (by kernel_rfl) (laid_met os _)) ?_
  intro W base args ds gs before hval0 hW hcnd hsz0 hL _
  have hsz : (DataW.weightsEach Tryz.prog (Tryz.f6.params.toList ++ Rows.machineBoundsSpec.plain.varTypes Tryz.prog) (ds ++ gs)).all (· ≤ reachBytes) = true := hsz0
  clear hsz0
  have hval : ∀ (j : Nat) t v, Tryz.f6.params[j]? = some t → args[j]? = some v → Value.okWide Tryz.prog W .any base t v := hval0
  have hW' := hW
  obtain ⟨p, q, hA0, hV, rfl, hfz, hnd⟩ := hW
  have hA : DataW.TrodAll enc Tryz.prog W 0 (fun _ => true) true Tryz.f6.params.toList args.toList ds p := hA0
  rw [Tryz.params6] at hA hval hsz
  obtain ⟨v0, vs0, d0, ds0, p0, q0, hargs, rfl, rfl, h0, r0⟩ := trodAll_cons hA
  obtain ⟨v1, vs1, d1, ds1, p1, q1, rfl, rfl, rfl, h1, r1⟩ := trodAll_cons r0
  obtain ⟨v2, vs2, d2, ds2, p2, q2, rfl, rfl, rfl, h2, r2⟩ := trodAll_cons r1
  obtain ⟨rfl, rfl, rfl⟩ := trodAll_nil r2
  obtain rfl : args = #[v0, v1, v2] := by cases args; simp_all
  obtain ⟨rfl, rfl⟩ := trodVars_none hV
  have k0 := h0
  have lt0 : ∀ x ∈ p0, x.block < W.heap.size := by obtain ⟨m, hm⟩ := k0; exact DataW.trod_lt m _ _ _ hm
  have k1 := h1
  have lt1 : ∀ x ∈ p1, x.block < W.heap.size := by obtain ⟨m, hm⟩ := k1; exact DataW.trod_lt m _ _ _ hm
  have k2 := h2
  have lt2 : ∀ x ∈ p2, x.block < W.heap.size := by obtain ⟨m, hm⟩ := k2; exact DataW.trod_lt m _ _ _ hm
  obtain ⟨p0x, rfl, w0⟩ := open_pg (r := .any) pt (hval 0 26 v0 rfl rfl) h0 (fun n hn => by
    have := List.all_eq_true.1 hsz n (DataW.weights_mem_each (j := 0) (t := 26) rfl rfl n hn)
    simpa using this)
  obtain ⟨a1, len1, cap1, rfl⟩ := okWide_slice Tryz.underlying27 (hval 1 27 v1 rfl rfl)
  obtain ⟨z1, w1⟩ : ∃ zs, RL W a1 len1 zs := by
    obtain ⟨fuel, hf⟩ := h1
    obtain ⟨zs, hz, _⟩ := open_rowsT (TT := 27) (T := 47) (t := 73) (bt := 4) (e := 3) Tryz.underlying27 (by kernel_rfl) (by kernel_rfl) Tryz.underlying47 Tryz.underlying73 rfl Tryz.underlying4 Tryz.underlying3 (by kernel_rfl) (by kernel_rfl) (by kernel_rfl) (by kernel_rfl) hf (fun n hn => by
      have := List.all_eq_true.1 hsz n (DataW.weights_mem_each (j := 1) (t := 27) rfl rfl n hn)
      simpa using this)
    exact ⟨zs, hz⟩
  obtain ⟨a2, len2, cap2, rfl⟩ := okWide_slice Tryz.underlying61 (hval 2 61 v2 rfl rfl)
  obtain ⟨z2, w2, b2⟩ : ∃ zs, IsBools W a2 len2 cap2 zs ∧ len2 * 1 ≤ 140737488351232 := by
    obtain ⟨fuel, hf⟩ := h2
    obtain ⟨zs, hz, hb⟩ := open_bools Tryz.underlying61 Tryz.underlying4 (by kernel_rfl) hf
    refine ⟨zs, hz, ?_⟩
    rcases hb with hb | ⟨l, r, hd, hl⟩
    · omega
    · have hd' : d2 = .slice l r := hd
      rw [hd'] at hsz
      have hs8 := sized_slice hsz (j := 2) (t := 61) (e := 4) rfl rfl Tryz.underlying61
      rw [show Tryz.prog.bytesOf 4 = 1 by kernel_rfl] at hs8
      simp only [reachBytes] at hs8
      omega
  clear hA0 hval0
  refine (walk p0x a1 len1 cap1 z1 a2 len2 cap2 z2 W w0 w1 w2 b2 hL).mono fun e W' ⟨he, bel⟩ => ?_
  subst he
  exact ⟨_, rfl, _, _, _, [], _, [], hW', trodAll_mk1 (shut_bool Tryz.underlying4 _), (trodAll_cons_mk (Below.trod laidOut (by kernel_rfl) (of_decide_eq_true (by kernel_rfl)) k0 bel lt0) (trodAll_cons_mk (Below.trod laidOut (by kernel_rfl) (of_decide_eq_true (by kernel_rfl)) k1 bel lt1) (trodAll_cons_mk (Below.trod laidOut (by kernel_rfl) (of_decide_eq_true (by kernel_rfl)) k2 bel lt2) trodAll_mk0))), rfl, bel.frame _, fun h => by cases h⟩

theorem over : Rows.MachineBoundsSaid :=
  OpenClaim.holds_of_wide 6 Tryz.f6 rfl rfl rfl rfl rfl rfl rfl ⟨rfl, rfl, rfl, rfl, rfl⟩ rfl rfl rfl rfl rfl (by kernel_rfl) Tryz.func6 (by kernel_rfl)
    (of_decide_eq_true (by kernel_rfl)) (by unfold Func.isWrapper; first | (rw [if_pos (by decide +kernel)]; kernel_rfl) | (rw [if_neg (by decide +kernel)]; exact ⟨rfl, rfl⟩))
    (fun os started H enc _ => lifted os started H enc)

theorem card : Rows.MachineBoundsCardSaid :=
  Claim7.holds_tied_plain_at .later [] [.data, .data] true (true, "989d9ff9598d3337c3a5bfa5142f6e6beaba6172736fffc6bdcc7cc3e825963c") false
    over (fun _ h => by cases h) (by kernel_rfl) (fun _ h => by cases h) machineBounds_row_tie rfl ⟨rfl, rfl⟩ (by kernel_rfl) rfl
    (fun f fn hf hfn => by
      obtain rfl : f = 6 := Option.some.inj ((show Tryz.prog.funcNamed "payoff/payofflaw15.MachineBounds" = some 6 by kernel_rfl).symm.trans hf) |>.symm
      obtain rfl : fn = Tryz.f6 := (Option.some.inj (Tryz.func6.symm.trans hfn)).symm
      exact ⟨by kernel_rfl, fun j t ht => by
        rw [Tryz.params6] at ht
        have h3 : t = 26 ∨ t = 27 ∨ t = 61 := by
          match j, ht with
          | 0, ht => simp at ht; subst ht; simp
          | 1, ht => simp at ht; subst ht; simp
          | 2, ht => simp at ht; subst ht; simp
          | (k + 3), ht => simp at ht
        rcases h3 with rfl | rfl | rfl
        · exact (show Tryz.prog.wantsStandIn 26 = false by kernel_rfl)
        · exact (show Tryz.prog.wantsStandIn 27 = false by kernel_rfl)
        · exact (show Tryz.prog.wantsStandIn 61 = false by kernel_rfl)⟩)
    (by kernel_rfl)
end Go.Proofs.YtpfjnnkjoabgbaaGreatDoor.machineBounds

namespace Go.Proofs.YtpfjnnkjoabgbaaGreatDoor
theorem machineBounds_holds : Rows.MachineBoundsCardSaid := machineBounds.card
end Go.Proofs.YtpfjnnkjoabgbaaGreatDoor
