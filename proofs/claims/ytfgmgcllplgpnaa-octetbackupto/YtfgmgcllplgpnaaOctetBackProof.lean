/-
  THE STATEMENT OctetBack, out of its walk.
-/
import Derived.Test.YtfgmgcllplgpnaaRows
import Derived.WalkKit
import Derived.ProofKit
import Derived.OpenShut
import Derived.ShutString
import Derived.ChangeOld
import Derived.Below
import Derived.SizedLaws
import Derived.Lib.LaidTab
import Derived.Stop.LaidErr
import Derived.JoinedCond
import Derived.Deep.CondSized
import Derived.Test.YtfgmgcllplgpnaaOpenIt
import Derived.Test.YtfgmgcllplgpnaaWBack3
namespace Go.Proofs.Ytfgmgcllplgpnaa.octetBack
open Go.ChangeShapes Go.WideShapes Go.ChangeAt Go.RowKit
open Go.ChangeMaps (open_string shut_string)
set_option linter.unusedVariables false

theorem own : ownKnob Try.prog.godebug = none := by kernel_rfl
theorem laidOut : laidOutB Try.prog = true := by kernel_rfl
def IsRow (k : IntKind) (w : World) (a : Option Addr) (len cap : Nat) (zs : List Int) : Prop :=
  (a = none ∧ len = 0 ∧ cap = 0 ∧ zs = []) ∨
  ∃ x, a = some x ∧ len ≤ cap ∧ cap ≤ maxLen ∧ zs.length = cap ∧ (∀ i, i < zs.length → w.cell? (x.add i) = some (.int k (zs.getD i 0))) ∧ ∀ n ∈ zs, (Lit.int k n).wf = true

theorem walk (a0 : Option Addr) (len0 cap0 : Nat) (z0 : List It4) (a1 : Int) (w : World) (w0 : IsIts w a0 len0 cap0 z0) (b0 : len0 * 40 ≤ 140737488351232) (v0z : ∀ f ∈ z0, f.s.size ≤ 1048576) (u0 : len0 ≤ 1048576) (w1 : (Lit.int .i64 a1).wf = true) :
    Calls Try.prog 7 #[.slice a0 len0 cap0, .int .i64 a1] w fun e w' => e = .returned (.bool true) ∧ Below w.heap.size w w' := by
  exact octetBack_walk a0 len0 cap0 z0 a1 w w0 u0 v0z w1

theorem bulk_one {H : Type} (d : DataW H) : 1 ≤ Rows.uptoBulk d := by
  cases d with
  | lit l => cases l <;> simp [Rows.uptoBulk]
  | nil => simp [Rows.uptoBulk]
  | ptr d => simp [Rows.uptoBulk]
  | slice elems spare => simp [Rows.uptoBulk]
  | agg parts => simp [Rows.uptoBulk]
  | iface t d => simp [Rows.uptoBulk]
  | map entries => simp [Rows.uptoBulk]
  | held h => simp [Rows.uptoBulk]
theorem bulk_str {H : Type} {d : DataW H} {b : List UInt8} (h : d = .lit (.string b)) : b.length ≤ Rows.uptoBulk d := by
  subst h; simp [Rows.uptoBulk]
theorem bulk_len {H : Type} (l : List (DataW H)) : l.length ≤ Rows.uptoBulkAll l := by
  induction l with
  | nil => simp [Rows.uptoBulkAll]
  | cons x r ih => have := bulk_one x; simp only [Rows.uptoBulkAll, List.length_cons]; omega
theorem bulk_part {H : Type} {d : DataW H} {l : List (DataW H)} (h : d ∈ l) : Rows.uptoBulk d ≤ Rows.uptoBulkAll l := by
  induction l with
  | nil => cases h
  | cons x r ih =>
    simp only [Rows.uptoBulkAll]
    cases List.mem_cons.1 h with
    | inl e => subst e; omega
    | inr e => have := ih e; omega
theorem its_none {w : World} {a : Option Addr} {len cap : Nat} {fs : List It4} (h0 : len = 0) (h : IsIts w a len cap fs) : ∀ f ∈ fs, f.s.size ≤ 1048576 := by
  have : fs = [] := by
    rcases h with ⟨_, _, _, h⟩ | ⟨x, _, _, _, h, _⟩
    · exact h
    · exact List.length_eq_zero_iff.1 (by omega)
  subst this
  intro f hf
  cases hf
theorem its_bound {H : Type} {d : DataW H} {l r : List (DataW H)} {fs : List It4} (hd : d = .slice l r) (hq : ∀ f ∈ fs, ∃ q, DataW.agg q ∈ l ∧ DataW.lit (.string f.s.data.toList) ∈ q) (dk : Rows.uptoBulk d ≤ 1048576) : ∀ f ∈ fs, f.s.size ≤ 1048576 := by
  intro f hf
  obtain ⟨q, h1, h2⟩ := hq f hf
  have b1 := bulk_part h1
  have b2 := bulk_part h2
  subst hd
  simp only [Rows.uptoBulk] at dk b1 b2
  have e : f.s.size = f.s.data.toList.length := (Array.length_toList).symm
  omega
theorem bulk_slice {H : Type} {d : DataW H} {l r : List (DataW H)} (h : d = .slice l r) : l.length ≤ Rows.uptoBulk d := by
  subst h; have := bulk_len l; simp only [Rows.uptoBulk]; omega

set_option maxRecDepth 100000 in
theorem lifted (os : Os) (started : os.Started) (H : Type) (enc : TypeId × Value → H) (F : Stop.Interp) :
    ReturnsInHanded {} Try.checked os 7 .any ((Rows.OpenSpec.upto Rows.octetBackSpec).pre6 enc Try.prog Try.f7 Rows.octetBackUptoRow.domain false) (((Rows.OpenSpec.upto Rows.octetBackSpec).at F).post enc Try.prog Try.f7 false true false false) := by
  refine returnsInHanded_of_cond_sized (C := Try.checked) (s := Rows.OpenSpec.upto Rows.octetBackSpec) (k := Rows.uptoSmall) rfl own started (by kernel_rfl) Try.func7
    (OpenSpec.witness (enc := enc) (C := Try.checked) (s := Rows.OpenSpec.upto Rows.octetBackSpec) (k := Rows.uptoSmall) rfl false ⟨#[], #[.slice none 0 0, .int .i64 0], []⟩ 8 (by kernel_rfl) (by kernel_rfl) (by kernel_rfl)
      (x := ([.nil, .lit (.int .i64 0)], [], [])) (by kernel_rfl) rfl (by kernel_rfl)) ?_
  intro W base args ds gs before hval0 hW hcnd hk0 hsz0 _
  have hsz : (DataW.weightsEach Try.prog (Try.f7.params.toList ++ Rows.octetBackSpec.plain.varTypes Try.prog) (ds ++ gs)).all (· ≤ reachBytes) = true := hsz0
  have hk : Rows.uptoBulkAll (ds ++ gs) ≤ 1048576 := of_decide_eq_true hk0
  clear hsz0 hk0
  have hval : ∀ (j : Nat) t v, Try.f7.params[j]? = some t → args[j]? = some v → Value.okWide Try.prog W .any base t v := hval0
  have hW' := hW
  obtain ⟨p, q, hA0, hV, rfl, hfz, hnd⟩ := hW
  have hA : DataW.TrodAll enc Try.prog W 0 (fun _ => true) true Try.f7.params.toList args.toList ds p := hA0
  rw [Try.params7] at hA hval hsz
  obtain ⟨v0, vs0, d0, ds0, p0, q0, hargs, rfl, rfl, h0, r0⟩ := trodAll_cons hA
  obtain ⟨v1, vs1, d1, ds1, p1, q1, rfl, rfl, rfl, h1, r1⟩ := trodAll_cons r0
  obtain ⟨rfl, rfl, rfl⟩ := trodAll_nil r1
  obtain rfl : args = #[v0, v1] := by cases args; simp_all
  obtain ⟨rfl, rfl⟩ := trodVars_none hV
  have kb : Rows.uptoBulkAll ([d0, d1] ++ []) ≤ 1048576 := hk
  simp only [List.cons_append, List.nil_append, Rows.uptoBulkAll] at kb
  have k0 := h0
  have lt0 : ∀ x ∈ p0, x.block < W.heap.size := by obtain ⟨m, hm⟩ := k0; exact DataW.trod_lt m _ _ _ hm
  have k1 := h1
  have lt1 : ∀ x ∈ p1, x.block < W.heap.size := by obtain ⟨m, hm⟩ := k1; exact DataW.trod_lt m _ _ _ hm
  obtain ⟨a0, len0, cap0, rfl⟩ := okWide_slice Try.underlying48 (hval 0 48 v0 rfl rfl)
  obtain ⟨z0, w0, b0, u0, v0z⟩ : ∃ zs, IsIts W a0 len0 cap0 zs ∧ len0 * 40 ≤ 140737488351232 ∧ len0 ≤ 1048576 ∧ ∀ f ∈ zs, f.s.size ≤ 1048576 := by
    obtain ⟨fuel, hf⟩ := h0
    obtain ⟨zs, hz, hb⟩ := open_its2 Try.underlying48 Try.underlying53 rfl Try.underlying3 Try.underlying23 Try.underlying9 (by kernel_rfl) (by kernel_rfl) (by kernel_rfl) (by kernel_rfl) hf
    refine ⟨zs, hz, ?_⟩
    rcases hb with hb | ⟨l, r, hd, hl, hq⟩
    · exact ⟨by omega, by omega, its_none hb hz⟩
    · have hd' : d0 = .slice l r := hd
      have ul := bulk_slice hd'
      rw [hd'] at hsz
      have hs8 := sized_slice hsz (j := 0) (t := 48) (e := 53) rfl rfl Try.underlying48
      rw [show Try.prog.bytesOf 53 = 40 by kernel_rfl] at hs8
      simp only [reachBytes] at hs8
      have dk : Rows.uptoBulk d0 ≤ 1048576 := by omega
      exact ⟨by omega, by omega, fun f hf => its_bound hd' hq dk f hf⟩
  obtain ⟨a1, rfl, _, _, w1⟩ := open_int Try.underlying3 (hval 1 3 v1 rfl rfl) h1
  clear hA0 hval0
  refine (walk a0 len0 cap0 z0 a1 W w0 b0 v0z u0 w1).mono fun e W' ⟨he, bel⟩ => ?_
  subst he
  exact ⟨_, rfl, _, _, _, [], _, [], hW', trodAll_mk1 (shut_bool Try.underlying4 _), (trodAll_cons_mk (Below.trod laidOut (by kernel_rfl) (of_decide_eq_true (by kernel_rfl)) k0 bel lt0) (trodAll_cons_mk (Below.trod laidOut (by kernel_rfl) (of_decide_eq_true (by kernel_rfl)) k1 bel lt1) trodAll_mk0)), rfl, bel.frame _, fun h => by cases h⟩

theorem over : Rows.OctetBackUptoSaid :=
  OpenClaim.holds_of_cond 7 Try.f7 rfl rfl rfl rfl rfl rfl rfl ⟨rfl, rfl, rfl, rfl, rfl⟩ rfl rfl rfl rfl rfl (by kernel_rfl) Try.func7 (by kernel_rfl)
    (of_decide_eq_true (by kernel_rfl)) (by unfold Func.isWrapper; first | (rw [if_pos (by decide +kernel)]; kernel_rfl) | (rw [if_neg (by decide +kernel)]; exact ⟨rfl, rfl⟩))
    (fun os started H enc _ F => lifted os started H enc F)
end Go.Proofs.Ytfgmgcllplgpnaa.octetBack

namespace Go.Proofs.Ytfgmgcllplgpnaa
theorem octetBack_holds : Rows.OctetBackUptoSaid := octetBack.over
end Go.Proofs.Ytfgmgcllplgpnaa
