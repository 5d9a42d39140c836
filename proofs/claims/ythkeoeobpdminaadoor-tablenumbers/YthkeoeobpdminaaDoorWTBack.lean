/-
  THE ITERATOR OF slices.Backward OVER STRINGS, AS A CONTRACT.
-/
import Derived.Test.YthkeoeobpdminaaDoorWTStain
import Derived.RangeFuncNested
import Derived.RangeFuncBound
import Derived.RangeFuncCalls
import Derived.RangeFuncLeaves
import Derived.RangeFuncWrites
import Derived.Maps.OwnIn
import Derived.Maps.OwnOps
import Derived.Maps.Views
import Derived.Shelf.Abstract
import Derived.Shelf.RegionOpen
import Derived.OwnWalkIn
import Derived.TacticsInMore
import Derived.LoopNIn
import Derived.LoopIn
namespace Go.Proofs.YthkeoeobpdminaaDoor
open Go.RowKit Go.Shelf
attribute [local go_sem] Oper.semAt_some
set_option linter.unusedVariables false
set_option linter.unusedSimpArgs false

/-- An index and a text. -/
abbrev SI := { x : Int × ByteArray // (Lit.int .i64 x.1).wf = true ∧ x.2.size ≤ 140737488351232 }
/-- What the box and all below n₀ keep. -/
def KB (n₀ Bs : Nat) (W W' : World) : Prop := Below n₀ W W' ∧ W'.cell? ⟨Bs, 0, none⟩ = W.cell? ⟨Bs, 0, none⟩
theorem KB.trans {n₀ Bs : Nat} {A B C : World} (h : KB n₀ Bs A B) (k : KB n₀ Bs B C) : KB n₀ Bs A C := ⟨h.1.trans k.1, k.2.trans h.2⟩
theorem KB.put {n₀ Bs : Nat} {w : World} (hn : n₀ ≤ w.heap.size) (hb : Bs < w.heap.size) (W : World) (l : Nat) (o o' : Obj) (hl : w.heap.size ≤ l) (h : W.heap[l]? = some o) (h1 : o.isCells = false) (h2 : o.isWalk = false) : KB n₀ Bs W (W.putObj l o') :=
  ⟨belowK_b hn W l o o' hl h h1 h2, World.cell?_of_block (a := ⟨Bs, 0, none⟩) ((grownBy_putObj' W l o').block Bs (by have := (Array.getElem?_eq_some_iff.1 h).1; omega) (by simp; omega))⟩
/-- What has come when k rounds are over: the last ones, from the end on. -/
def bwL (ss : List ByteArray) (k : Nat) : List (Int × ByteArray) := (List.range k).map fun j => (((ss.length - 1 - j : Nat) : Int), ss.getD (ss.length - 1 - j) default)
theorem bwL_succ (ss : List ByteArray) (k : Nat) : bwL ss (k + 1) = bwL ss k ++ [(((ss.length - 1 - k : Nat) : Int), ss.getD (ss.length - 1 - k) default)] := by simp [bwL, List.range_succ]
theorem bwL_length (ss : List ByteArray) (k : Nat) : (bwL ss k).length = k := by simp [bwL]

set_option maxHeartbeats 2000000 in
theorem bwd1_in (m : Nat) (hm : 1 ≤ m) (l Bs n₀ b o n cap : Nat) (ss : List ByteArray) (hl : ss.length = n) (hn : n ≤ 8796093021952) (hw : ∀ s ∈ ss, s.size ≤ 140737488351232) (hb : b < n₀) (J Jx : List SI → World → Prop)
    (hY : ∀ pre x W, J pre W → pre.length < n → YieldAt Fence.wide (m - 1) Tryd.prog l #[.int .i64 x.1.1, .string x.1.2] W fun e W' =>
      (e = .returned (.bool true) ∧ J (pre ++ [x]) W' ∧ KB n₀ Bs W W') ∨ (e = .returned (.bool false) ∧ Jx (pre ++ [x]) W'))
    (W : World) (hBs : W.cell? ⟨Bs, 0, none⟩ = some (.slice (some ⟨b, o, none⟩) n cap)) (hc : ∀ j, j < n → W.cell? ⟨b, o + j, none⟩ = some (.string (ss.getD j default))) (h0 : J [] W) :
    CallsIn Fence.wide m Tryd.prog 81 #[.func (.yield l) #[] #[], .pointer (some ⟨Bs, 0, none⟩)] W fun e W' => (∃ v, e = .returned v) ∧
      ((∃ ys : List SI, ys.map (·.1) = bwL ss n ∧ J ys W') ∨ (∃ pre : List SI, pre.length ≤ n ∧ Jx pre W')) := by
  have HY := Lib.hid hY
  have HC := Lib.hid hc
  have HL := Lib.hid hl
  have HV := Lib.hid (p := ∀ j, j < n → (Lit.int .i64 ((j : Nat) : Int)).wf = true ∧ (ss.getD j default).size ≤ 140737488351232) (fun j hj => ⟨WalkArith.wf_i64 (by omega), by
    have hi' : j < ss.length := by omega
    rw [show ss.getD j default = ss[j] by simp [List.getD, hi']]
    exact hw _ (List.getElem_mem hi')⟩)
  clear hY hc hl hw
  refine callsIn_of_wp Tryd.func81 rfl trivial ?_ rfl
  simp only [Tryd.ntmps81, List.size_toArray, List.length_cons, List.length_nil, Nat.reduceAdd, Nat.reduceSub, Array.replicate_succ, Array.replicate_zero, List.push_toArray, List.append_toArray, List.nil_append, List.cons_append]
  gi_wp2
  gi_loopw [3] (fun t wr => ∃ k : Nat, k ≤ n ∧ t = .int .i64 ((n : Int) - 1 - k) ∧ (∃ q : List SI, RowKit.Hid (q.map (·.1) = bwL ss k) ∧ J q wr) ∧ KB n₀ Bs W wr) (fun t _ => (intOf t + 1).toNat)
  case atStart => exact ⟨0, Nat.zero_le _, by go_num, ⟨[], rfl, h0⟩, Below.refl _ _, rfl⟩
  case round =>
    obtain ⟨k, hk, rfl, ⟨q, hq, hJ⟩, hB⟩ := hrel
    have hBx : wr.cell? ⟨Bs, 0, none⟩ = some (.slice (some ⟨b, o, none⟩) n cap) := hB.2.trans hBs
    have BB := Lib.hid hB
    by_cases hlt : k < n
    · obtain ⟨i, hi⟩ : ∃ i : Nat, n - 1 - k = i := ⟨_, rfl⟩
      have ei : (n : Int) - 1 - k = (i : Int) := by omega
      have hin : i < n := by omega
      have hcx := (hB.1.cell (p := ⟨b, o + i, none⟩) hb).trans (HC.out i hin)
      have V := HV.out i hin
      obtain ⟨f, hf⟩ : ∃ f, ss.getD i default = f := ⟨_, rfl⟩
      rw [hf] at hcx V
      have QL := Lib.hid (p := q.length = k) (by have := congrArg List.length hq.out; simpa [bwL_length] using this)
      obtain ⟨fn, tmps, assign, body, hy, hR⟩ := HY.out q ⟨((i : Int), f), V⟩ wr hJ (by rw [QL.out]; exact hlt)
      dsimp only at hy
      have NX := Lib.hid (p := (q ++ [(⟨((i : Int), f), V⟩ : SI)]).map (·.1) = bwL ss (k + 1)) (by
        rw [bwL_succ, HL.out, hi, List.map_append, hq.out, hf]; rfl)
      rw [ei]
      have HR := Lib.hid hR
      clear hR hB hJ hi hf
      have ic : (i : Int) < (n : Int) := by omega
      have EI := Lib.hid ei
      clear ei
      gi_wp2
      refine HR.out.mono ?_
      rintro e W3 (⟨rfl, hJ3, hk3⟩ | ⟨rfl, hJx3⟩)
      · gi_wp2
        go_roundw
        case rel => exact ⟨k + 1, by omega, by have := EI.out; first | (congr 1; omega) | (simp; omega), ⟨_, NX.out, hJ3⟩, BB.out.trans hk3⟩
        case measure => first | (simp [intOf]; done) | (simp [intOf]; omega)
      · gi_wp2
        refine bodyPost_ret (results_none rfl _ _ _) rfl ?_
        exact ⟨⟨_, rfl⟩, .inr ⟨_, by simp [QL.out]; omega, hJx3⟩⟩
    · obtain rfl : k = n := by omega
      have e1 : (k : Int) - 1 - k = -1 := by omega
      rw [e1]
      gi_wp2
      go_end0
      exact ⟨⟨_, rfl⟩, .inl ⟨_, hq.out, hJ⟩⟩

set_option maxHeartbeats 1000000 in
theorem bwd1_nil (m : Nat) (l Bs cap : Nat) (a : Option Addr) (J : List SI → World → Prop) (W : World) (hBs : W.cell? ⟨Bs, 0, none⟩ = some (.slice a 0 cap)) (h0 : J [] W) :
    CallsIn Fence.wide m Tryd.prog 81 #[.func (.yield l) #[] #[], .pointer (some ⟨Bs, 0, none⟩)] W fun e W' => (∃ v, e = .returned v) ∧ J [] W' := by
  refine callsIn_of_wp Tryd.func81 rfl trivial ?_ rfl
  simp only [Tryd.ntmps81, List.size_toArray, List.length_cons, List.length_nil, Nat.reduceAdd, Nat.reduceSub, Array.replicate_succ, Array.replicate_zero, List.push_toArray, List.append_toArray, List.nil_append, List.cons_append]
  gi_wp2
  gi_loopw [3] (fun t wr => t = .int .i64 (-1) ∧ J [] wr) (fun _ _ => 0)
  case atStart => exact ⟨by first | rfl | go_num, h0⟩
  case round =>
    obtain ⟨rfl, hJ⟩ := hrel
    gi_wp2
    go_end0
    exact ⟨⟨_, rfl⟩, hJ⟩

theorem bwd_stops (m : Nat) (hm : 1 ≤ m) (Bs n₀ n cap : Nat) (a : Option Addr) (ss : List ByteArray) (w : World) (hBs : Bs < w.heap.size) (hn₀ : n₀ ≤ w.heap.size) (hc : w.cell? ⟨Bs, 0, none⟩ = some (.slice a n cap)) (h : NL w a n ss) (hlow : ∀ x, a = some x → x.block < n₀ ∨ n = 0) :
    SeqStopsK Fence.wide m Tryd.prog 81 #[.pointer (some ⟨Bs, 0, none⟩)] (fun x : SI => #[Value.int .i64 x.1.1, Value.string x.1.2]) (KB n₀ Bs) (fun ys => ys.map (·.1) = bwL ss n) (fun pre => pre.length ≤ n) n w := fun l J Jx W hW _ _ hY h0 => by
  have hc' := (hW.cell (p := ⟨Bs, 0, none⟩) hBs).trans hc
  obtain ⟨h1, h2, h3, h4⟩ := h.later hW
  rcases h4 with h4 | ⟨b, o, rfl, hb, hcs⟩
  · subst h4
    obtain rfl : ss = [] := List.length_eq_zero_iff.1 h1
    exact (bwd1_nil m l Bs cap a J W hc' h0).mono fun e W' ⟨he, hj⟩ => ⟨he, .inl ⟨[], rfl, hj⟩⟩
  · rcases hlow _ rfl with hlt | rfl
    · exact bwd1_in m hm l Bs n₀ b o n cap ss h1 h2 h3 hlt J Jx hY W hc' hcs h0
    · obtain rfl : ss = [] := List.length_eq_zero_iff.1 h1
      exact (bwd1_nil m l Bs cap _ J W hc' h0).mono fun e W' ⟨he, hj⟩ => ⟨he, .inl ⟨[], rfl, hj⟩⟩

set_option maxHeartbeats 1000000 in
theorem backward_any (a : Option Addr) (n cap : Nat) (w : World) :
    Calls Tryd.prog 65 #[.slice a n cap] w fun e w' => e = .returned (.func (.func 81) #[] #[.pointer (some ⟨w.heap.size, 0, none⟩)]) ∧ w' = w.alloc (.cells #[.slice a n cap] 22) := by
  go_enter Tryd.func65, Tryd.ntmps65
  go_wp2
  go_ret
  exact ⟨rfl, rfl⟩
end Go.Proofs.YthkeoeobpdminaaDoor
