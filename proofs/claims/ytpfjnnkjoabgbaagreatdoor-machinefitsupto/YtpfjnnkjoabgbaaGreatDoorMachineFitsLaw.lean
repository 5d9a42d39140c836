import Derived.Test.YtpfjnnkjoabgbaaGreatDoorRows
import Derived.Test.YtpfjnnkjoabgbaaGreatDoorCards
import Derived.Test.YtpfjnnkjoabgbaaGreatDoorTie
import Derived.SevenTiedAt
import Derived.WalkKit
import Derived.ProofKit
import Derived.OpenShut
import Derived.ShutString
import Derived.ChangeOld
import Derived.Below
import Derived.SizedLaws
import Derived.Lib.LaidTab
import Derived.Stop.LaidErr
import Derived.JoinedCond
import Derived.Deep.CondSized
import Derived.Deep.DeepHandedRow
import Derived.Test.YtpfjnnkjoabgbaaGreatDoorXAB
import Derived.Test.YtpfjnnkjoabgbaaGreatDoorXBT
import Derived.Test.YtpfjnnkjoabgbaaGreatDoorXBU
namespace Go.Proofs.YtpfjnnkjoabgbaaGreatDoor.machineFits
open Go.ChangeShapes Go.WideShapes Go.ChangeAt Go.RowKit
open Go.ChangeMaps (open_string shut_string)
set_option linter.unusedVariables false

theorem own : ownKnob Tryz.prog.godebug = none := by kernel_rfl
theorem laidOut : laidOutB Tryz.prog = true := by kernel_rfl
def IsRow (k : IntKind) (w : World) (a : Option Addr) (len cap : Nat) (zs : List Int) : Prop :=
  (a = none ∧ len = 0 ∧ cap = 0 ∧ zs = []) ∨
  ∃ x, a = some x ∧ len ≤ cap ∧ cap ≤ maxLen ∧ zs.length = cap ∧ (∀ i, i < zs.length → w.cell? (x.add i) = some (.int k (zs.getD i 0))) ∧ ∀ n ∈ zs, (Lit.int k n).wf = true
def tab_laid_payoff_code_rows : Array Value := #[.string ⟨#[101, 110, 100]⟩, .int .u8 0, .int .u8 0, .int .u8 0, .int .i32 0, .int .i32 0, .string ⟨#[99, 111, 110, 115, 116]⟩, .int .u8 1, .int .u8 0, .int .u8 1, .int .i32 16383, .int .i32 0, .string ⟨#[98, 111, 111, 108]⟩, .int .u8 1, .int .u8 0, .int .u8 1, .int .i32 1, .int .i32 0, .string ⟨#[111, 98, 115]⟩, .int .u8 2, .int .u8 0, .int .u8 1, .int .i32 63, .int .i32 3660, .string ⟨#[108, 111, 97, 100]⟩, .int .u8 1, .int .u8 0, .int .u8 1, .int .i32 32767, .int .i32 0, .string ⟨#[115, 116, 111, 114, 101]⟩, .int .u8 1, .int .u8 1, .int .u8 0, .int .i32 32767, .int .i32 0, .string ⟨#[107, 101, 101, 112]⟩, .int .u8 1, .int .u8 1, .int .u8 1, .int .i32 16383, .int .i32 0, .string ⟨#[103, 101, 116]⟩, .int .u8 1, .int .u8 0, .int .u8 1, .int .i32 16383, .int .i32 0, .string ⟨#[100, 114, 111, 112]⟩, .int .u8 0, .int .u8 1, .int .u8 0, .int .i32 0, .int .i32 0, .string ⟨#[97, 100, 100]⟩, .int .u8 0, .int .u8 2, .int .u8 1, .int .i32 0, .int .i32 0, .string ⟨#[115, 117, 98]⟩, .int .u8 0, .int .u8 2, .int .u8 1, .int .i32 0, .int .i32 0, .string ⟨#[109, 117, 108]⟩, .int .u8 0, .int .u8 2, .int .u8 1, .int .i32 0, .int .i32 0, .string ⟨#[110, 101, 103]⟩, .int .u8 0, .int .u8 1, .int .u8 1, .int .i32 0, .int .i32 0, .string ⟨#[100, 105, 118]⟩, .int .u8 0, .int .u8 2, .int .u8 1, .int .i32 0, .int .i32 0, .string ⟨#[109, 111, 100]⟩, .int .u8 0, .int .u8 2, .int .u8 1, .int .i32 0, .int .i32 0, .string ⟨#[97, 98, 115]⟩, .int .u8 0, .int .u8 1, .int .u8 1, .int .i32 0, .int .i32 0, .string ⟨#[109, 105, 110]⟩, .int .u8 0, .int .u8 2, .int .u8 1, .int .i32 0, .int .i32 0, .string ⟨#[109, 97, 120]⟩, .int .u8 0, .int .u8 2, .int .u8 1, .int .i32 0, .int .i32 0, .string ⟨#[114, 97, 116, 105, 111]⟩, .int .u8 1, .int .u8 3, .int .u8 1, .int .i32 4, .int .i32 0, .string ⟨#[108, 116]⟩, .int .u8 0, .int .u8 2, .int .u8 1, .int .i32 0, .int .i32 0, .string ⟨#[108, 101]⟩, .int .u8 0, .int .u8 2, .int .u8 1, .int .i32 0, .int .i32 0, .string ⟨#[103, 116]⟩, .int .u8 0, .int .u8 2, .int .u8 1, .int .i32 0, .int .i32 0, .string ⟨#[103, 101]⟩, .int .u8 0, .int .u8 2, .int .u8 1, .int .i32 0, .int .i32 0, .string ⟨#[101, 113]⟩, .int .u8 0, .int .u8 2, .int .u8 1, .int .i32 0, .int .i32 0, .string ⟨#[110, 101]⟩, .int .u8 0, .int .u8 2, .int .u8 1, .int .i32 0, .int .i32 0, .string ⟨#[110, 111, 116]⟩, .int .u8 0, .int .u8 1, .int .u8 1, .int .i32 0, .int .i32 0, .string ⟨#[106, 117, 109, 112]⟩, .int .u8 1, .int .u8 0, .int .u8 0, .int .i32 262143, .int .i32 0, .string ⟨#[122, 101, 114, 111]⟩, .int .u8 1, .int .u8 1, .int .u8 0, .int .i32 262143, .int .i32 0, .string ⟨#[102, 108, 111, 119]⟩, .int .u8 1, .int .u8 1, .int .u8 0, .int .i32 4095, .int .i32 0]
def tab_laid_payoff_verify_rules : Array Value := #[.int .u8 0, .int .u8 0, .int .u8 0, .int .u8 0, .int .u8 0, .int .u8 0, .int .u8 0, .int .u8 1, .int .u8 0, .int .u8 0, .int .u8 0, .int .u8 2, .int .u8 0, .int .u8 0, .int .u8 0, .int .u8 1, .int .u8 0, .int .u8 0, .int .u8 0, .int .u8 1, .int .u8 1, .int .u8 0, .int .u8 0, .int .u8 0, .int .u8 3, .int .u8 0, .int .u8 0, .int .u8 0, .int .u8 0, .int .u8 0, .int .u8 0, .int .u8 0, .int .u8 3, .int .u8 0, .int .u8 0, .int .u8 0, .int .u8 1, .int .u8 1, .int .u8 0, .int .u8 1, .int .u8 1, .int .u8 1, .int .u8 0, .int .u8 1, .int .u8 1, .int .u8 1, .int .u8 0, .int .u8 1, .int .u8 1, .int .u8 0, .int .u8 0, .int .u8 1, .int .u8 1, .int .u8 1, .int .u8 0, .int .u8 1, .int .u8 1, .int .u8 1, .int .u8 0, .int .u8 1, .int .u8 1, .int .u8 0, .int .u8 0, .int .u8 1, .int .u8 1, .int .u8 1, .int .u8 0, .int .u8 1, .int .u8 1, .int .u8 1, .int .u8 0, .int .u8 1, .int .u8 1, .int .u8 1, .int .u8 1, .int .u8 1, .int .u8 1, .int .u8 1, .int .u8 0, .int .u8 2, .int .u8 1, .int .u8 1, .int .u8 0, .int .u8 2, .int .u8 1, .int .u8 1, .int .u8 0, .int .u8 2, .int .u8 1, .int .u8 1, .int .u8 0, .int .u8 2, .int .u8 1, .int .u8 1, .int .u8 0, .int .u8 2, .int .u8 1, .int .u8 1, .int .u8 0, .int .u8 2, .int .u8 2, .int .u8 0, .int .u8 0, .int .u8 2, .int .u8 0, .int .u8 0, .int .u8 0, .int .u8 0, .int .u8 2, .int .u8 0, .int .u8 0, .int .u8 0, .int .u8 1, .int .u8 0, .int .u8 0, .int .u8 0]

theorem walk (p0 : Pg) (a1 : Option Addr) (len1 cap1 : Nat) (z1 : List Rw) (a2 : Option Addr) (len2 cap2 : Nat) (z2 : List Cl) (w : World) (w0 : PV w p0) (w1 : RL w a1 len1 z1) (w2 : RC w a2 len2 z2 ∧ (a2 = none → len2 = 0 ∧ cap2 = 0) ∧ len2 ≤ cap2 ∧ cap2 ≤ maxLen) (u2 : len2 ≤ 1048576) (hL : laidMet Tryz.prog Rows.machineFitsRow.laid w) :
    Calls Tryz.prog 5 #[.agg p0.cs.toArray, .slice a1 len1 cap1, .slice a2 len2 cap2] w fun e w' => e = .returned (.bool true) ∧ Below w.heap.size w w' := by
  exact (machineFits_any w0 (rws_of_laid hL) (rul_of_laid hL.tail) w1 w2 u2)

theorem bulk_one {H : Type} (d : DataW H) : 1 ≤ Rows.uptoBulk d := by
  cases d with
  | lit l => cases l <;> simp [Rows.uptoBulk]
  | nil => simp [Rows.uptoBulk]
  | ptr d => simp [Rows.uptoBulk]
  | slice elems spare => simp [Rows.uptoBulk]
  | agg parts => simp [Rows.uptoBulk]
  | iface t d => simp [Rows.uptoBulk]
  | map entries => simp [Rows.uptoBulk]
  | held h => simp [Rows.uptoBulk]
theorem bulk_str {H : Type} {d : DataW H} {b : List UInt8} (h : d = .lit (.string b)) : b.length ≤ Rows.uptoBulk d := by
  subst h; simp [Rows.uptoBulk]
theorem bulk_len {H : Type} (l : List (DataW H)) : l.length ≤ Rows.uptoBulkAll l := by
  induction l with
  | nil => simp [Rows.uptoBulkAll]
  | cons x r ih => have := bulk_one x; simp only [Rows.uptoBulkAll, List.length_cons]; omega
theorem bulk_part {H : Type} {d : DataW H} {l : List (DataW H)} (h : d ∈ l) : Rows.uptoBulk d ≤ Rows.uptoBulkAll l := by
  induction l with
  | nil => cases h
  | cons x r ih =>
    simp only [Rows.uptoBulkAll]
    cases List.mem_cons.1 h with
    | inl e => subst e; omega
    | inr e => have := ih e; omega
theorem bulk_slice {H : Type} {d : DataW H} {l r : List (DataW H)} (h : d = .slice l r) : l.length ≤ Rows.uptoBulk d := by
  subst h; have := bulk_len l; simp only [Rows.uptoBulk]; omega

theorem laid_met (os : Os) (args : Array Value) : laidMet Tryz.prog Rows.machineFitsRow.laid (({ World.holding Tryz.prog os ⟨#[], #[], []⟩ with heap := (((World.holding Tryz.prog os ⟨#[], #[], []⟩).heap.modify (1) fun | .cells _ t frozen => .cells tab_laid_payoff_code_rows t frozen | o => o).modify (0) fun | .cells _ t frozen => .cells tab_laid_payoff_verify_rules t frozen | o => o) } : World).forCall (fun _ _ => 0) ⟨#[], args, []⟩).memory :=
  laidMet_of_run' 8 (by kernel_rfl) (by kernel_rfl)
theorem reads (os : Os) {H : Type} (enc : TypeId × Value → H) : ∃ places, DataW.whole enc Tryz.prog (({ World.holding Tryz.prog os ⟨#[], #[], []⟩ with heap := (((World.holding Tryz.prog os ⟨#[], #[], []⟩).heap.modify (1) fun | .cells _ t frozen => .cells tab_laid_payoff_code_rows t frozen | o => o).modify (0) fun | .cells _ t frozen => .cells tab_laid_payoff_verify_rules t frozen | o => o) } : World).forCall (fun _ _ => 0) ⟨#[], #[.agg #[.slice none 0 0, .slice none 0 0, .slice none 0 0, .int .i64 0, .int .i64 0, .int .i64 0, .int .i64 0, .slice none 0 0], .slice none 0 0, .slice none 0 0], []⟩).memory Tryz.f5.params.toList Rows.machineFitsSpec.vars false (#[.agg #[.slice none 0 0, .slice none 0 0, .slice none 0 0, .int .i64 0, .int .i64 0, .int .i64 0, .int .i64 0, .slice none 0 0], .slice none 0 0, .slice none 0 0] : Array Value).toList 8 = some ([.agg [.nil, .nil, .nil, .lit (.int .i64 0), .lit (.int .i64 0), .lit (.int .i64 0), .lit (.int .i64 0), .nil], .nil, .nil], [], places) :=
  ⟨[], by kernel_rfl⟩

set_option maxRecDepth 100000 in
theorem lifted (os : Os) (started : os.Started) (H : Type) (enc : TypeId × Value → H) (F : Stop.Interp) :
    ReturnsInHanded {} Tryz.checked os 5 .any ((Rows.OpenSpec.upto Rows.machineFitsSpec).preRow enc Tryz.prog Tryz.f5 Rows.machineFitsUptoRow.domain false Rows.machineFitsUptoRow.laid) (((Rows.OpenSpec.upto Rows.machineFitsSpec).at F).post enc Tryz.prog Tryz.f5 false true false false) := by
  obtain ⟨places, hx⟩ := reads os enc
  refine returnsInHanded_of_row (C := Tryz.checked) (s := Rows.OpenSpec.upto Rows.machineFitsSpec) own started (by kernel_rfl) Tryz.func5
    (witness_row_at (enc := enc) (C := Tryz.checked) false ({ World.holding Tryz.prog os ⟨#[], #[], []⟩ with heap := (((World.holding Tryz.prog os ⟨#[], #[], []⟩).heap.modify (1) fun | .cells _ t frozen => .cells tab_laid_payoff_code_rows t frozen | o => o).modify (0) fun | .cells _ t frozen => .cells tab_laid_payoff_verify_rules t frozen | o => o) }) #[.agg #[.slice none 0 0, .slice none 0 0, .slice none 0 0, .int .i64 0, .int .i64 0, .int .i64 0, .int .i64 0, .slice none 0 0], .slice none 0 0, .slice none 0 0] rfl (by kernel_rfl) (by kernel_rfl) (by kernel_rfl)
      (OpenSpec.preRow_of_cond 8 hx (by kernel_rfl) (fun k hk => by cases hk; kernel_rfl) (by kernel_rfl) (laid_met os _))) ?_
  intro W base args ds gs before hval0 hW hcnd hk0 hsz0 hL0 _ _
  have hL : laidMet Tryz.prog Rows.machineFitsRow.laid W := hL0
  have hsz : (DataW.weightsEach Tryz.prog (Tryz.f5.params.toList ++ Rows.machineFitsSpec.plain.varTypes Tryz.prog) (ds ++ gs)).all (· ≤ reachBytes) = true := hsz0
  have hk : Rows.uptoBulkAll (ds ++ gs) ≤ 1048576 := of_decide_eq_true (hk0 _ rfl)
  clear hsz0 hk0
  have hval : ∀ (j : Nat) t v, Tryz.f5.params[j]? = some t → args[j]? = some v → Value.okWide Tryz.prog W .any base t v := hval0
  have hW' := hW
  obtain ⟨p, q, hA0, hV, rfl, hfz, hnd⟩ := hW
  have hA : DataW.TrodAll enc Tryz.prog W 0 (fun _ => true) true Tryz.f5.params.toList args.toList ds p := hA0
  rw [Tryz.params5] at hA hval hsz
  obtain ⟨v0, vs0, d0, ds0, p0, q0, hargs, rfl, rfl, h0, r0⟩ := trodAll_cons hA
  obtain ⟨v1, vs1, d1, ds1, p1, q1, rfl, rfl, rfl, h1, r1⟩ := trodAll_cons r0
  obtain ⟨v2, vs2, d2, ds2, p2, q2, rfl, rfl, rfl, h2, r2⟩ := trodAll_cons r1
  obtain ⟨rfl, rfl, rfl⟩ := trodAll_nil r2
  obtain rfl : args = #[v0, v1, v2] := by cases args; simp_all
  obtain ⟨rfl, rfl⟩ := trodVars_none hV
  have kb : Rows.uptoBulkAll ([d0, d1, d2] ++ []) ≤ 1048576 := hk
  simp only [List.cons_append, List.nil_append, Rows.uptoBulkAll] at kb
  have k0 := h0
  have lt0 : ∀ x ∈ p0, x.block < W.heap.size := by obtain ⟨m, hm⟩ := k0; exact DataW.trod_lt m _ _ _ hm
  have k1 := h1
  have lt1 : ∀ x ∈ p1, x.block < W.heap.size := by obtain ⟨m, hm⟩ := k1; exact DataW.trod_lt m _ _ _ hm
  have k2 := h2
  have lt2 : ∀ x ∈ p2, x.block < W.heap.size := by obtain ⟨m, hm⟩ := k2; exact DataW.trod_lt m _ _ _ hm
  obtain ⟨p0x, rfl, w0⟩ := open_pg (r := .any) pt (hval 0 26 v0 rfl rfl) h0 (fun n hn => by
    have := List.all_eq_true.1 hsz n (DataW.weights_mem_each (j := 0) (t := 26) rfl rfl n hn)
    simpa using this)
  obtain ⟨a1, len1, cap1, rfl⟩ := okWide_slice Tryz.underlying27 (hval 1 27 v1 rfl rfl)
  obtain ⟨z1, w1⟩ : ∃ zs, RL W a1 len1 zs := by
    obtain ⟨fuel, hf⟩ := h1
    obtain ⟨zs, hz, _⟩ := open_rowsT (TT := 27) (T := 47) (t := 73) (bt := 4) (e := 3) Tryz.underlying27 (by kernel_rfl) (by kernel_rfl) Tryz.underlying47 Tryz.underlying73 rfl Tryz.underlying4 Tryz.underlying3 (by kernel_rfl) (by kernel_rfl) (by kernel_rfl) (by kernel_rfl) hf (fun n hn => by
      have := List.all_eq_true.1 hsz n (DataW.weights_mem_each (j := 1) (t := 27) rfl rfl n hn)
      simpa using this)
    exact ⟨zs, hz⟩
  obtain ⟨a2, len2, cap2, rfl⟩ := okWide_slice Tryz.underlying47 (hval 2 47 v2 rfl rfl)
  obtain ⟨z2, w2, u2⟩ : ∃ zs, (RC W a2 len2 zs ∧ (a2 = none → len2 = 0 ∧ cap2 = 0) ∧ len2 ≤ cap2 ∧ cap2 ≤ maxLen) ∧ len2 ≤ 1048576 := by
    obtain ⟨fuel, hf⟩ := h2
    obtain ⟨zs, hz⟩ := open_cells (T := 47) (t := 73) (bt := 4) (e := 3) Tryz.underlying47 Tryz.underlying73 rfl Tryz.underlying4 Tryz.underlying3 (by kernel_rfl) (by kernel_rfl) (by kernel_rfl) (by kernel_rfl) hf (fun n hn => by
      have := List.all_eq_true.1 hsz n (DataW.weights_mem_each (j := 2) (t := 47) rfl rfl n hn)
      simpa using this)
    refine ⟨zs, hz, ?_⟩
    rcases Deep.open_slice (cs := [.slice a2 len2 cap2]) Tryz.underlying47 hf with ⟨q, _⟩ | ⟨y', l', c', m', n', D', Pl', q, _, _, _, _, xe, _⟩
    · simp at q; omega
    · simp at q
      obtain ⟨_, rfl, _⟩ := q
      have ul := bulk_slice (congrArg Prod.fst xe : d2 = _)
      simp at ul
      omega
  clear hA0 hval0
  refine (walk p0x a1 len1 cap1 z1 a2 len2 cap2 z2 W w0 w1 w2 u2 hL).mono fun e W' ⟨he, bel⟩ => ?_
  subst he
  exact ⟨_, rfl, _, _, _, [], _, [], hW', trodAll_mk1 (shut_bool Tryz.underlying4 _), (trodAll_cons_mk (Below.trod laidOut (by kernel_rfl) (of_decide_eq_true (by kernel_rfl)) k0 bel lt0) (trodAll_cons_mk (Below.trod laidOut (by kernel_rfl) (of_decide_eq_true (by kernel_rfl)) k1 bel lt1) (trodAll_cons_mk (Below.trod laidOut (by kernel_rfl) (of_decide_eq_true (by kernel_rfl)) k2 bel lt2) trodAll_mk0))), rfl, bel.frame _, fun h => by cases h⟩

theorem over : Rows.MachineFitsUptoSaid :=
  OpenClaim.holds_of_cond 5 Tryz.f5 rfl rfl rfl rfl rfl rfl rfl ⟨rfl, rfl, rfl, rfl, rfl⟩ rfl rfl rfl rfl rfl (by kernel_rfl) Tryz.func5 (by kernel_rfl)
    (of_decide_eq_true (by kernel_rfl)) (by unfold Func.isWrapper; first | (rw [if_pos (by decide +kernel)]; kernel_rfl) | (rw [if_neg (by decide +kernel)]; exact ⟨rfl, rfl⟩))
    (fun os started H enc _ F => by rw [OpenClaim.pre_eq_preRow]; exact lifted os started H enc F)

theorem card : Rows.MachineFitsUptoCardSaid :=
  Claim7.holds_tied_plain_at .later [] [.data, .data] true (true, "989d9ff9598d3337c3a5bfa5142f6e6beaba6172736fffc6bdcc7cc3e825963c") false
    over (fun _ h => by cases h) (by kernel_rfl) (fun _ h => by cases h) machineFitsUpto_row_tie rfl ⟨rfl, rfl⟩ (by kernel_rfl) rfl
    (fun f fn hf hfn => by
      obtain rfl : f = 5 := Option.some.inj ((show Tryz.prog.funcNamed "payoff/payofflaw15.MachineFits" = some 5 by kernel_rfl).symm.trans hf) |>.symm
      obtain rfl : fn = Tryz.f5 := (Option.some.inj (Tryz.func5.symm.trans hfn)).symm
      exact ⟨by kernel_rfl, fun j t ht => by
        rw [Tryz.params5] at ht
        have h3 : t = 26 ∨ t = 27 ∨ t = 47 := by
          match j, ht with
          | 0, ht => simp at ht; subst ht; simp
          | 1, ht => simp at ht; subst ht; simp
          | 2, ht => simp at ht; subst ht; simp
          | (k + 3), ht => simp at ht
        rcases h3 with rfl | rfl | rfl
        · exact (show Tryz.prog.wantsStandIn 26 = false by kernel_rfl)
        · exact (show Tryz.prog.wantsStandIn 27 = false by kernel_rfl)
        · exact (show Tryz.prog.wantsStandIn 47 = false by kernel_rfl)⟩)
    (by kernel_rfl)
end Go.Proofs.YtpfjnnkjoabgbaaGreatDoor.machineFits

namespace Go.Proofs.YtpfjnnkjoabgbaaGreatDoor
theorem machineFits_holds : Rows.MachineFitsUptoCardSaid := machineFits.card
end Go.Proofs.YtpfjnnkjoabgbaaGreatDoor
