import Derived.Test.YtglgdfgdfkeogaaDoorXAA
import Derived.RangeFuncNested
import Derived.RangeFuncBound
import Derived.RangeFuncCalls
import Derived.RangeFuncLeaves
import Derived.RangeFuncWrites
import Derived.Maps.OwnIn
import Derived.Maps.OwnOps
import Derived.Maps.Views
import Derived.Shelf.Abstract
import Derived.Shelf.RegionOpen
import Derived.OwnWalkIn
import Derived.TacticsInMore
import Derived.LoopNIn
import Derived.LoopIn
import Derived.Laws.MakeOwn
import Derived.Lib.SmallJoins
namespace Go.Proofs.YtglgdfgdfkeogaaDoor
open Go.RowKit Go.Shelf
attribute [local go_sem] Oper.semAt_some
set_option linter.unusedVariables false
set_option linter.unusedSimpArgs false

/-- An index and a text. -/
abbrev SI := { x : Int × ByteArray // (Lit.int .i64 x.1).wf = true ∧ x.2.size ≤ 140737488351232 }
/-- What the box and all below n₀ keep. -/
def KB (n₀ Bs : Nat) (W W' : World) : Prop := Below n₀ W W' ∧ W'.cell? ⟨Bs, 0, none⟩ = W.cell? ⟨Bs, 0, none⟩
theorem KB.trans {n₀ Bs : Nat} {A B C : World} (h : KB n₀ Bs A B) (k : KB n₀ Bs B C) : KB n₀ Bs A C := ⟨h.1.trans k.1, k.2.trans h.2⟩
theorem KB.put {n₀ Bs : Nat} {w : World} (hn : n₀ ≤ w.heap.size) (hb : Bs < w.heap.size) (W : World) (l : Nat) (o o' : Obj) (hl : w.heap.size ≤ l) (h : W.heap[l]? = some o) (h1 : o.isCells = false) (h2 : o.isWalk = false) : KB n₀ Bs W (W.putObj l o') :=
  ⟨belowK_b hn W l o o' hl h h1 h2, World.cell?_of_block (a := ⟨Bs, 0, none⟩) ((grownBy_putObj' W l o').block Bs (by have := (Array.getElem?_eq_some_iff.1 h).1; omega) (by simp; omega))⟩
/-- What has come when k rounds are over: the last ones, from the end on. -/
def bwL (ss : List ByteArray) (k : Nat) : List (Int × ByteArray) := (List.range k).map fun j => (((ss.length - 1 - j : Nat) : Int), ss.getD (ss.length - 1 - j) default)
theorem bwL_succ (ss : List ByteArray) (k : Nat) : bwL ss (k + 1) = bwL ss k ++ [(((ss.length - 1 - k : Nat) : Int), ss.getD (ss.length - 1 - k) default)] := by simp [bwL, List.range_succ]
theorem bwL_length (ss : List ByteArray) (k : Nat) : (bwL ss k).length = k := by simp [bwL]

set_option maxHeartbeats 2000000 in
theorem bwd1_in (m : Nat) (hm : 1 ≤ m) (l Bs n₀ b o n cap : Nat) (ss : List ByteArray) (hl : ss.length = n) (hn : n ≤ 8796093021952) (hw : ∀ s ∈ ss, s.size ≤ 140737488351232) (hb : b < n₀) (J Jx : List SI → World → Prop)
    (hY : ∀ pre x W, J pre W → pre.length < n → YieldAt Fence.wide (m - 1) Tryd.prog l #[.int .i64 x.1.1, .string x.1.2] W fun e W' =>
      (e = .returned (.bool true) ∧ J (pre ++ [x]) W' ∧ KB n₀ Bs W W') ∨ (e = .returned (.bool false) ∧ Jx (pre ++ [x]) W'))
    (W : World) (hBs : W.cell? ⟨Bs, 0, none⟩ = some (.slice (some ⟨b, o, none⟩) n cap)) (hc : ∀ j, j < n → W.cell? ⟨b, o + j, none⟩ = some (.string (ss.getD j default))) (h0 : J [] W) :
    CallsIn Fence.wide m Tryd.prog 55 #[.func (.yield l) #[] #[], .pointer (some ⟨Bs, 0, none⟩)] W fun e W' => (∃ v, e = .returned v) ∧
      ((∃ ys : List SI, ys.map (·.1) = bwL ss n ∧ J ys W') ∨ (∃ pre : List SI, pre.length ≤ n ∧ Jx pre W')) := by
  have HY := Lib.hid hY
  have HC := Lib.hid hc
  have HL := Lib.hid hl
  have HV := Lib.hid (p := ∀ j, j < n → (Lit.int .i64 ((j : Nat) : Int)).wf = true ∧ (ss.getD j default).size ≤ 140737488351232) (fun j hj => ⟨WalkArith.wf_i64 (by omega), by
    have hi' : j < ss.length := by omega
    rw [show ss.getD j default = ss[j] by simp [List.getD, hi']]
    exact hw _ (List.getElem_mem hi')⟩)
  clear hY hc hl hw
  refine callsIn_of_wp Tryd.func55 rfl trivial ?_ rfl
  simp only [Tryd.ntmps55, List.size_toArray, List.length_cons, List.length_nil, Nat.reduceAdd, Nat.reduceSub, Array.replicate_succ, Array.replicate_zero, List.push_toArray, List.append_toArray, List.nil_append, List.cons_append]
  gi_wp2
  gi_loopw [3] (fun t wr => ∃ k : Nat, k ≤ n ∧ t = .int .i64 ((n : Int) - 1 - k) ∧ (∃ q : List SI, RowKit.Hid (q.map (·.1) = bwL ss k) ∧ J q wr) ∧ KB n₀ Bs W wr) (fun t _ => (intOf t + 1).toNat)
  case atStart => exact ⟨0, Nat.zero_le _, by go_num, ⟨[], rfl, h0⟩, Below.refl _ _, rfl⟩
  case round =>
    obtain ⟨k, hk, rfl, ⟨q, hq, hJ⟩, hB⟩ := hrel
    have hBx : wr.cell? ⟨Bs, 0, none⟩ = some (.slice (some ⟨b, o, none⟩) n cap) := hB.2.trans hBs
    have BB := Lib.hid hB
    by_cases hlt : k < n
    · obtain ⟨i, hi⟩ : ∃ i : Nat, n - 1 - k = i := ⟨_, rfl⟩
      have ei : (n : Int) - 1 - k = (i : Int) := by omega
      have hin : i < n := by omega
      have hcx := (hB.1.cell (p := ⟨b, o + i, none⟩) hb).trans (HC.out i hin)
      have V := HV.out i hin
      obtain ⟨f, hf⟩ : ∃ f, ss.getD i default = f := ⟨_, rfl⟩
      rw [hf] at hcx V
      have QL := Lib.hid (p := q.length = k) (by have := congrArg List.length hq.out; simpa [bwL_length] using this)
      obtain ⟨fn, tmps, assign, body, hy, hR⟩ := HY.out q ⟨((i : Int), f), V⟩ wr hJ (by rw [QL.out]; exact hlt)
      dsimp only at hy
      have NX := Lib.hid (p := (q ++ [(⟨((i : Int), f), V⟩ : SI)]).map (·.1) = bwL ss (k + 1)) (by
        rw [bwL_succ, HL.out, hi, List.map_append, hq.out, hf]; rfl)
      rw [ei]
      have HR := Lib.hid hR
      clear hR hB hJ hi hf
      have ic : (i : Int) < (n : Int) := by omega
      have EI := Lib.hid ei
      clear ei
      gi_wp2
      refine HR.out.mono ?_
      rintro e W3 (⟨rfl, hJ3, hk3⟩ | ⟨rfl, hJx3⟩)
      · gi_wp2
        go_roundw
        case rel => exact ⟨k + 1, by omega, by have := EI.out; first | (congr 1; omega) | (simp; omega), ⟨_, NX.out, hJ3⟩, BB.out.trans hk3⟩
        case measure => first | (simp [intOf]; done) | (simp [intOf]; omega)
      · gi_wp2
        refine bodyPost_ret (results_none rfl _ _ _) rfl ?_
        exact ⟨⟨_, rfl⟩, .inr ⟨_, by simp [QL.out]; omega, hJx3⟩⟩
    · obtain rfl : k = n := by omega
      have e1 : (k : Int) - 1 - k = -1 := by omega
      rw [e1]
      gi_wp2
      go_end0
      exact ⟨⟨_, rfl⟩, .inl ⟨_, hq.out, hJ⟩⟩

set_option maxHeartbeats 1000000 in
theorem bwd1_nil (m : Nat) (l Bs cap : Nat) (a : Option Addr) (J : List SI → World → Prop) (W : World) (hBs : W.cell? ⟨Bs, 0, none⟩ = some (.slice a 0 cap)) (h0 : J [] W) :
    CallsIn Fence.wide m Tryd.prog 55 #[.func (.yield l) #[] #[], .pointer (some ⟨Bs, 0, none⟩)] W fun e W' => (∃ v, e = .returned v) ∧ J [] W' := by
  refine callsIn_of_wp Tryd.func55 rfl trivial ?_ rfl
  simp only [Tryd.ntmps55, List.size_toArray, List.length_cons, List.length_nil, Nat.reduceAdd, Nat.reduceSub, Array.replicate_succ, Array.replicate_zero, List.push_toArray, List.append_toArray, List.nil_append, List.cons_append]
  gi_wp2
  gi_loopw [3] (fun t wr => t = .int .i64 (-1) ∧ J [] wr) (fun _ _ => 0)
  case atStart => exact ⟨by first | rfl | go_num, h0⟩
  case round =>
    obtain ⟨rfl, hJ⟩ := hrel
    gi_wp2
    go_end0
    exact ⟨⟨_, rfl⟩, hJ⟩

theorem bwd_stops (m : Nat) (hm : 1 ≤ m) (Bs n₀ n cap : Nat) (a : Option Addr) (ss : List ByteArray) (w : World) (hBs : Bs < w.heap.size) (hn₀ : n₀ ≤ w.heap.size) (hc : w.cell? ⟨Bs, 0, none⟩ = some (.slice a n cap)) (h : NL w a n ss) (hlow : ∀ x, a = some x → x.block < n₀ ∨ n = 0) :
    SeqStopsK Fence.wide m Tryd.prog 55 #[.pointer (some ⟨Bs, 0, none⟩)] (fun x : SI => #[Value.int .i64 x.1.1, Value.string x.1.2]) (KB n₀ Bs) (fun ys => ys.map (·.1) = bwL ss n) (fun pre => pre.length ≤ n) n w := fun l J Jx W hW _ _ hY h0 => by
  have hc' := (hW.cell (p := ⟨Bs, 0, none⟩) hBs).trans hc
  obtain ⟨h1, h2, h3, h4⟩ := h.later hW
  rcases h4 with h4 | ⟨b, o, rfl, hb, hcs⟩
  · subst h4
    obtain rfl : ss = [] := List.length_eq_zero_iff.1 h1
    exact (bwd1_nil m l Bs cap a J W hc' h0).mono fun e W' ⟨he, hj⟩ => ⟨he, .inl ⟨[], rfl, hj⟩⟩
  · rcases hlow _ rfl with hlt | rfl
    · exact bwd1_in m hm l Bs n₀ b o n cap ss h1 h2 h3 hlt J Jx hY W hc' hcs h0
    · obtain rfl : ss = [] := List.length_eq_zero_iff.1 h1
      exact (bwd1_nil m l Bs cap _ J W hc' h0).mono fun e W' ⟨he, hj⟩ => ⟨he, .inl ⟨[], rfl, hj⟩⟩

set_option maxHeartbeats 1000000 in
theorem backward_any (a : Option Addr) (n cap : Nat) (w : World) :
    Calls Tryd.prog 49 #[.slice a n cap] w fun e w' => e = .returned (.func (.func 55) #[] #[.pointer (some ⟨w.heap.size, 0, none⟩)]) ∧ w' = w.alloc (.cells #[.slice a n cap] 22) := by
  go_enter Tryd.func49, Tryd.ntmps49
  go_wp2
  go_ret
  exact ⟨rfl, rfl⟩
end Go.Proofs.YtglgdfgdfkeogaaDoor

namespace Go.Proofs.YtglgdfgdfkeogaaDoor
open Go.RowKit Go.Shelf Go.Maps
attribute [local go_sem] Oper.semAt_some
set_option linter.unusedVariables false
set_option linter.unusedSimpArgs false

def litS (c : ByteArray) : Lit := .string c.data.toList
theorem litS_ne {c c' : ByteArray} (h : c' ≠ c) : litS c' ≠ litS c := fun e => h (by
  unfold litS at e
  injection e with e
  obtain ⟨⟨x⟩⟩ := c; obtain ⟨⟨y⟩⟩ := c'
  simp at e; rw [e])
/-- What the pairs that have come say of a text: the number that came last with it. -/
def fOf (pre : List SI) (c : ByteArray) : Option Int := pre.foldl (fun g x => if c = x.1.2 then some x.1.1 else g) none
theorem fOf_snoc (pre : List SI) (x : SI) (c : ByteArray) : fOf (pre ++ [x]) c = if c = x.1.2 then some x.1.1 else fOf pre c := by simp [fOf]
/-- The map says just that. -/
def HoldsF (D : DataW Unit) (f : ByteArray → Option Int) : Prop :=
  IsMap D ∧ (∀ c, D.atKey (litS c) (.lit (.int .i64 0)) = .lit (.int .i64 ((f c).getD 0))) ∧ ∀ c, Maps.has D (litS c) = (f c).isSome
theorem HoldsF.none : HoldsF (.map []) (fOf []) := ⟨isMap_empty, fun _ => rfl, fun _ => rfl⟩
theorem HoldsF.put {D : DataW Unit} {pre : List SI} (h : HoldsF D (fOf pre)) (x : SI) : HoldsF (D.put (litS x.1.2) (.lit (.int .i64 x.1.1))) (fOf (pre ++ [x])) := by
  obtain ⟨h1, h2, h3⟩ := h
  refine ⟨h1.put _ _, fun c => ?_, fun c => ?_⟩
  · rw [fOf_snoc]
    by_cases e : c = x.1.2
    · rw [if_pos e, e, atKey_put_same h1 (k := litS x.1.2) trivial]; rfl
    · rw [if_neg e, atKey_put_other (litS_ne e), h2]
  · rw [fOf_snoc]
    by_cases e : c = x.1.2
    · rw [if_pos e, e, has_put_same h1 (k := litS x.1.2) trivial]; rfl
    · rw [if_neg e, has_put_other (litS_ne e), h3]
/-- From place m on: the first place of a text. -/
def FromCol (ss : List ByteArray) (m : Nat) (c : ByteArray) (r : Option Int) : Prop :=
  (r = none ∧ ∀ i, m ≤ i → i < ss.length → ss.getD i default ≠ c) ∨ ∃ i : Nat, r = some (i : Int) ∧ m ≤ i ∧ i < ss.length ∧ ss.getD i default = c ∧ ∀ j, m ≤ j → j < i → ss.getD j default ≠ c
theorem fromCol (ss : List ByteArray) (c : ByteArray) : ∀ (k : Nat) (q : List SI), k ≤ ss.length → q.map (·.1) = bwL ss k → FromCol ss (ss.length - k) c (fOf q c)
  | 0, q, hk, hq => by
    have : q = [] := by simpa [bwL] using hq
    subst this
    exact .inl ⟨rfl, fun i h1 h2 => absurd h2 (by omega)⟩
  | k + 1, q, hk, hq => by
    rw [bwL_succ] at hq
    obtain ⟨q0, q1, rfl, h0, h1⟩ := List.map_eq_append_iff.1 hq
    have hl1 : q1.length = 1 := by have := congrArg List.length h1; simpa using this
    obtain ⟨x, rfl⟩ : ∃ x, q1 = [x] := List.length_eq_one_iff.1 hl1
    have ih := fromCol ss c k q0 (by omega) h0
    simp only [List.map_cons, List.map_nil, List.cons.injEq, and_true] at h1
    rw [fOf_snoc]
    have e1 : x.1.1 = ((ss.length - 1 - k : Nat) : Int) := by rw [h1]
    have e2 : x.1.2 = ss.getD (ss.length - 1 - k) default := by rw [h1]
    have em : ss.length - (k + 1) = ss.length - 1 - k := by omega
    rw [em]
    by_cases e : c = x.1.2
    · rw [if_pos e, e1]
      exact .inr ⟨_, rfl, Nat.le_refl _, by omega, by rw [← e2, e], fun j h3 h4 => absurd h4 (by omega)⟩
    · rw [if_neg e]
      rw [e2] at e
      rcases ih with ⟨h2, h3⟩ | ⟨i, h2, h3, h4, h5, h6⟩
      · refine .inl ⟨h2, fun i h4 h5 => ?_⟩
        rcases (show i = ss.length - 1 - k ∨ ss.length - k ≤ i by omega) with g | g
        · rw [g]; exact fun z => e z.symm
        · exact h3 i g h5
      · refine .inr ⟨i, h2, by omega, h4, h5, fun j h7 h8 => ?_⟩
        rcases (show j = ss.length - 1 - k ∨ ss.length - k ≤ j by omega) with g | g
        · rw [g]; exact fun z => e z.symm
        · exact h6 j g h8
theorem fOf_col {ss : List ByteArray} {q : List SI} (c : ByteArray) (hq : q.map (·.1) = bwL ss ss.length) : (fOf q c).getD (-1) = colF ss c 0 ∧ ((fOf q c).isSome = decide (0 ≤ colF ss c 0)) := by
  have h := fromCol ss c ss.length q (Nat.le_refl _) hq
  rw [Nat.sub_self] at h
  have g : (fOf q c).getD (-1) = colF ss c 0 := by
    refine Col.only (ss := ss) (s := c) ?_ (colF_col ss c)
    rcases h with ⟨h1, h2⟩ | ⟨i, h1, h2, h3, h4, h5⟩
    · rw [h1]; exact .inl ⟨rfl, fun i hi => h2 i (by omega) hi⟩
    · rw [h1]; exact .inr ⟨i, rfl, h3, h4, fun j hj => h5 j (by omega) hj⟩
  refine ⟨g, ?_⟩
  rw [← g]
  rcases h with ⟨h1, _⟩ | ⟨i, h1, _⟩ <;> rw [h1] <;> simp

theorem lawS : Keyed Tryd.prog 9 := string_keyed Tryd.underlying9
theorem zeroI (w : World) : (zeroValue 3).run Tryd.prog w = .ok (.int .i64 0) w := by kernel_rfl
theorem keyS {c : ByteArray} (h : c.size ≤ 140737488351232) : keyOf Tryd.prog 9 (.string c) = some (litS c) := WideMaps.keyOf_string_mk Tryd.underlying9 (by unfold maxLen; omega)
theorem make_map (n : Nat) (W : World) : (Instr.makeMap 78 (some (.int .i64 (n : Int)))).run Tryd.prog W = .ok (.map (some W.heap.size)) (W.alloc (.map #[] 0)) := by
  simp [Instr.makeMap, run_underlying Tryd.underlying78, asInt, asIntOf]
theorem info3 : (Tryd.prog.info? 3).map (fun i => (i.zero, i.size, i.bytes)) = some (some (.int .i64 0), 1, 8) := by kernel_rfl
theorem make_ints (n : Nat) (hn : n ≤ 8796093021952) (W : World) : (Instr.makeSlice 31 (.int .i64 (n : Int)) (.int .i64 (n : Int))).run Tryd.prog W = .ok (.slice (some ⟨W.heap.size, 0, none⟩) n n) (W.alloc (.cells (madeCells #[.int .i64 0] n) 3)) := by
  obtain ⟨i0, hi, hz0, hz1, hz2⟩ := info_parts info3
  have := run_make (P := Tryd.prog) W 31 3 i0 _ Tryd.underlying31 hi hz0 .i64 .i64 n n (by omega) (by omega) (by rw [hz2]; omega) (by omega)
  rw [hz1] at this
  simpa [Value.cells] using this
theorem made_int (n i : Nat) (h : i < n) : (madeCells #[.int .i64 0] n)[i]? = some (.int .i64 0) := by
  unfold madeCells; simp [h, Nat.mod_one]
theorem grT_set (w : World) (p o : Nat) (v : Value) : w.grownBy (w.setCell ⟨p, o, none⟩ v) (some p) := by
  refine ⟨rfl, rfl, rfl, by simp, fun k hk hr => ?_⟩
  have : ¬ p = k := fun e => hr (by rw [e])
  simp [World.setCell, Array.getElem?_modify, this]

theorem made_ints (n : Nat) : madeCells #[.int .i64 0] n = ((List.replicate n (0 : Int)).map (Value.int .i64)).toArray := by
  apply Array.ext
  · simp [madeCells]
  · intro i h1 h2
    simp [madeCells, Nat.mod_one]
/-- What lies while the columns are written. -/
structure CW (w wr : World) (g D m : Nat) (Dd : DataW Unit) (vs : List Int) : Prop where
  mc : wr.cell? ⟨w.heap.size + 1, 0, none⟩ = some (.map (some w.heap.size))
  mo : wr.ownsMap Tryd.prog 9 (plainElem Tryd.prog 3) w.heap.size m Dd
  dd : wr.heap[D]? = some (.deferred (some []))
  row : ∀ i, i < vs.length → wr.cell? ⟨g, i, none⟩ = some (.int .i64 (vs.getD i 0)) ∧ wr.frozen? ⟨g, i, none⟩ = false
  hb : wr.heap[g]? = some (.cells (vs.map (Value.int .i64)).toArray 3)
  bel : Below w.heap.size w wr
  gl : w.heap.size + 1 < g ∧ g < wr.heap.size ∧ D < g ∧ w.heap.size ≤ D
theorem CW.start {w W : World} {D m n : Nat} {Dd : DataW Unit} (mc : W.cell? ⟨w.heap.size + 1, 0, none⟩ = some (.map (some w.heap.size))) (mo : W.ownsMap Tryd.prog 9 (plainElem Tryd.prog 3) w.heap.size m Dd) (dd : W.heap[D]? = some (.deferred (some []))) (bel : Below w.heap.size w W) (hD : w.heap.size + 1 < D) :
    CW w (W.alloc (.cells (madeCells #[.int .i64 0] n) 3)) W.heap.size D m Dd (List.replicate n 0) := by
  have hDW := (Array.getElem?_eq_some_iff.1 dd).1
  refine ⟨cell_kept mc (World.grownBy_alloc W _ none) (fun r e => by cases e), mo.alloc _, (Below.heap_alloc W _ D hDW).trans dd, fun i hi => ?_, by rw [← made_ints]; exact World.alloc_heap_new W _, bel.alloc bel.size _, by omega, by simp, by omega, by omega⟩
  rw [List.length_replicate] at hi
  have e : (List.replicate n (0 : Int)).getD i 0 = 0 := by simp [List.getD, hi]
  rw [e]
  exact ⟨by rw [World.cell?_alloc_at _ _ _ _ rfl, made_int n i hi], by go_simp⟩
theorem CW.set {w wr : World} {g D m : Nat} {Dd : DataW Unit} {vs : List Int} (h : CW w wr g D m Dd vs) (k : Nat) (v : Int) (hk : k < vs.length) : CW w (wr.setCell ⟨g, k, none⟩ (.int .i64 v)) g D m Dd (vs.set k v) := by
  obtain ⟨mc, mo, dd, row, hb, bel, gl⟩ := h
  refine ⟨by rw [World.cell?_setCell_other _ _ _ _ (by first | (simp; done) | (simp; omega))]; exact mc, mo.kept (grT_set wr g k _) (by first | (simp; done) | (simp; omega)), ((grT_set wr g k (.int .i64 v)).block D (by omega) (by first | (simp; done) | (simp; omega))).trans dd, fun i hi => ?_, by rw [Joins.block_setCell (i := k) hb, List.setIfInBounds_toArray, List.map_set], bel.setCell (p := ⟨g, k, none⟩) (by first | (simp; done) | (simp; omega)) _, by omega, by simp; omega, by omega, by omega⟩
  rw [List.length_set] at hi
  refine ⟨?_, by simpa using (row i hi).2⟩
  by_cases e : i = k
  · subst e
    rw [World.cell?_setCell_same _ _ _ (row i hi).1]
    simp [List.getD, hi]
  · rw [World.cell?_setCell_other _ _ _ _ (by first | (simp; done) | (simp; omega)), (row i hi).1]
    simp only [List.getD, List.getElem?_set]
    rw [if_neg (by omega)]

/-- A row of ints, where the world holds it. -/
def IL (w : World) (g n : Nat) (f : Nat → Int) : Prop := g < w.heap.size ∧ ∀ i, i < n → w.cell? ⟨g, i, none⟩ = some (.int .i64 (f i))
theorem IL.later {w w' : World} {g n f} (h : IL w g n f) (b : Below w.heap.size w w') : IL w' g n f :=
  ⟨Nat.lt_of_lt_of_le h.1 b.size, fun i hi => (b.cell (p := ⟨g, i, none⟩) h.1).trans (h.2 i hi)⟩

set_option maxRecDepth 100000 in
set_option maxHeartbeats 4000000 in
theorem columnsOf_own (an ah : Option Addr) (n cn m ch : Nat) (ss hs : List ByteArray) (w : World) (h : NL w an n ss) (k : NL w ah m hs) :
    Calls Tryd.prog 35 #[.slice an n cn, .slice ah m ch] w fun e w' => ∃ (g : Nat) (vs : List Int), e = .returned (.slice (some ⟨g, 0, none⟩) n n) ∧ w'.heap[g]? = some (.cells (vs.map (Value.int .i64)).toArray 3) ∧ vs.length = n ∧ (∀ i, i < n → vs.getD i 0 = colF hs (ss.getD i default) 0) ∧ w.heap.size ≤ g ∧ Below w.heap.size w w' := by
  have hnn := h.2.1
  have hml := k.1
  have hmm := k.2.1
  have HN := Lib.hid h
  have hmk := make_map m
  have hmi := make_ints n hnn
  have hm0 := World.ownsMap_made w Tryd.prog 9 (plainElem (H := Unit) Tryd.prog 3)
  have hB0 : Below w.heap.size w (((w.alloc (.map #[] 0)).alloc (.cells #[.map (some w.heap.size)] 78)).alloc (.cells #[.slice ah m ch] 22)) := (((Below.refl _ w).alloc (Nat.le_refl _) _).alloc (by simp) _).alloc (by simp; omega) _
  have cS : (((w.alloc (.map #[] 0)).alloc (.cells #[.map (some w.heap.size)] 78)).alloc (.cells #[.slice ah m ch] 22)).cell? ⟨w.heap.size + 1, 0, none⟩ = some (.map (some w.heap.size)) := by go_simp
  have cN : (((w.alloc (.map #[] 0)).alloc (.cells #[.map (some w.heap.size)] 78)).alloc (.cells #[.slice ah m ch] 22)).cell? ⟨w.heap.size + 1 + 1, 0, none⟩ = some (.slice ah m ch) := by go_simp
  have K0 := Lib.hid (k.later hB0)
  have B0 := Lib.hid hB0
  have KL := Lib.hid (p := ∀ x, ah = some x → x.block < w.heap.size ∨ m = 0) (fun x e => by
    rcases k.2.2.2 with h0 | ⟨b, o, e2, hb, _⟩
    · exact .inr h0
    · rw [e] at e2; injection e2 with e2; subst e2; exact .inl hb)
  have HML := Lib.hid hml
  clear h k hB0 hml
  refine (callsIn_wide (n := 5)).1 ?_
  refine callsIn_of_wp_marks Tryd.func35 rfl trivial ?_ rfl
  simp only [Tryd.ntmps35, List.size_toArray, List.length_cons, List.length_nil, Nat.reduceAdd, Nat.reduceSub, Array.replicate_succ, Array.replicate_zero, List.push_toArray, List.append_toArray, List.nil_append, List.cons_append]
  gi_wp2_with (refine ⟨trivial, ?_⟩; gi_at_call 49; refine (callsIn_wide.2 (backward_any _ _ _ _)).mono ?_; rintro e w1 ⟨rfl, rfl⟩)
  refine wpIn_rangeFunc_ownG rfl (by omega) (gf := 55) (lb := #[.pointer (some ⟨w.heap.size + 1 + 1, 0, none⟩)]) rfl trivial (enters_of Tryd.func55 (by kernel_rfl) rfl)
    (bwd_stops 4 (by omega) (w.heap.size + 1 + 1) w.heap.size m ch ah hs _ (by simp) (by simp; omega) cN K0.out KL.out) KB.trans (KB.put (by simp; omega) (by simp)) (Below.refl _ _) (fun _ => rfl)
    (fun pre W => (W.cell? ⟨w.heap.size + 1, 0, none⟩ = some (.map (some w.heap.size)) ∧ ∃ D, W.ownsMap Tryd.prog 9 (plainElem (H := Unit) Tryd.prog 3) w.heap.size pre.length D ∧ HoldsF D (fOf pre) ∧ w.heap.size + 3 ≤ W.heap.size) ∧ Below w.heap.size w W)
    (fun _ _ _ => False)
    (OwnFrom.and (fun s A B row hs hg hr => ⟨cell_kept hs.1 hg (fun r e => (hr r e).2), by obtain ⟨D, h1, h2, h3⟩ := hs.2; exact ⟨D, h1.kept hg (fun e => by have := (hr _ e.symm).1; simp at this; omega), h2, Nat.le_trans h3 hg.size⟩⟩) (ownFrom_below (Nat.le_refl _) (by simp; omega)))
    (fun _ _ _ _ _ hs _ _ => hs)
    ⟨⟨cS, _, (hm0.alloc _).alloc _, HoldsF.none, by simp⟩, B0.out⟩
    (fun x => { tmps := #[.slice an n cn, .slice ah m ch, undef, undef, .slice none 0 0, .pointer (some ⟨w.heap.size + 1, 0, none⟩), .int .i64 x.1.1, .string x.1.2, undef, undef, undef, undef, undef, .slice ah m ch, .int .i64 m, .map (some w.heap.size), .slice ah m ch,
      .func (.func 55) #[] #[.pointer (some ⟨w.heap.size + 1 + 1, 0, none⟩)], .int .i64 x.1.1, .string x.1.2, undef, undef, undef, undef, undef, undef, undef, undef, undef, undef, undef, undef, undef, undef, undef, undef, undef, undef, undef, undef, undef, undef, undef, undef, undef, undef, undef], defers := [] }) ?assign ?body ?done ?stop
  case assign =>
    intro l x W K hK
    gi_wp2
    exact hK
  case body =>
    rintro l pre x W ⟨⟨hc, D, hown, hH, hsz⟩, hB⟩ hlt
    have HH := Lib.hid (hH.put x)
    have PE := plainElem_int (H := Unit) (P := Tryd.prog) Tryd.underlying3 x.2.1
    clear hH
    gi_wp2_with (gi_at_mapUpdate; refine wpListIn_mapUpdate_own _ rfl _ _ _ 78 rfl 9 3 lawS Tryd.underlying78 _ w.heap.size pre.length _ rfl hown (by unfold maxLen; omega) _ _ _ rfl rfl (keyS x.2.2) _ [] PE ?_; intro w1 hown1 hgrow1)
    obtain ⟨es, ck, hh, _⟩ := hown
    have hb1 : w.heap.size + 1 + 1 < W.heap.size := by omega
    exact ⟨KeepsFrom.of_grownBy hgrow1 (fun j e => by cases e; simp; omega), ⟨(Below.refl _ W).grown hgrow1 hB.size (fun k e => by cases e; exact Nat.le_refl _), World.cell?_of_block (a := ⟨w.heap.size + 1 + 1, 0, none⟩) (hgrow1.block _ hb1 (by first | (simp; done) | (simp; omega)))⟩,
      ⟨cell_kept hc hgrow1 (fun r e => by cases e; exact ⟨_, hh, rfl⟩), _, by rw [List.length_append]; exact hown1, HH.out, Nat.le_trans hsz hgrow1.size⟩, hB.grown hgrow1 hB.size (fun k e => by cases e; exact Nat.le_refl _)⟩
  case done =>
    rintro D ys W hD hy ⟨⟨hc, Dd, hown, hH, hsz⟩, hB⟩ hK
    simp only [World.size_alloc] at hD
    rw [← HML.out] at hy
    have COL := Lib.hid (fun c => fOf_col c hy)
    have ST := Lib.hid (CW.start (n := n) hc hown hK hB (by omega))
    have HH := Lib.hid hH
    have hmw := hmi W
    clear hc hown hB hK hH hsz hy hmi hm0 cS cN hmk
    gi_wp2
    gi_loopw [28] (fun t wr => ∃ (k : Nat) (vs : List Int), k ≤ n ∧ t = .int .i64 k ∧ RowKit.Hid (vs.length = n ∧ (∀ i, i < k → vs.getD i 0 = colF hs (ss.getD i default) 0)) ∧ CW w wr W.heap.size D ys.length Dd vs) (fun t _ => n - (intOf t).toNat)
    case atStart => exact ⟨0, List.replicate n 0, by omega, rfl, ⟨by simp, fun i hi => absurd hi (by omega)⟩, ST.out⟩
    case round =>
      obtain ⟨k, vs, hk, rfl, hV, hW⟩ := hrel
      have WW := Lib.hid hW
      by_cases hlt : k < n
      · have kc : (k : Int) < (n : Int) := by omega
        obtain ⟨x, o, rfl, hx, hcs⟩ : ∃ x o, an = some ⟨x, o, none⟩ ∧ x < w.heap.size ∧ ∀ i, i < n → w.cell? ⟨x, o + i, none⟩ = some (.string (ss.getD i default)) := by
          rcases HN.out.2.2.2 with h0 | h0
          · omega
          · exact h0
        have c0 := (hW.bel.cell (p := ⟨x, o + k, none⟩) hx).trans (hcs k hlt)
        have hkl : k < vs.length := by rw [hV.out.1]; exact hlt
        obtain ⟨r0, r1⟩ := hW.row k hkl
        have mc := hW.mc
        have mo := hW.mo
        have fz : (ss.getD k default).size ≤ 140737488351232 := by
          have hi' : k < ss.length := by rw [HN.out.1]; exact hlt
          rw [show ss.getD k default = ss[k] by simp [List.getD, hi']]
          exact HN.out.2.2.1 _ (List.getElem_mem hi')
        have NX := Lib.hid (p := ∀ v, v = colF hs (ss.getD k default) 0 → (vs.set k v).length = n ∧ (∀ i, i < k + 1 → (vs.set k v).getD i 0 = colF hs (ss.getD i default) 0)) (fun v hv => ⟨by rw [List.length_set]; exact hV.out.1, fun i hi => by
          rcases (show i < k ∨ i = k by omega) with q | q
          · rw [← hV.out.2 i q]
            simp only [List.getD, List.getElem?_set]
            rw [if_neg (by omega)]
          · subst q
            rw [← hv]
            simp [List.getD, hkl]⟩)
        clear hcs hW
        generalize ss.getD k default = f at *
        have hkey := keyS fz
        obtain ⟨cg, cs⟩ := COL.out f
        obtain ⟨_, ha, hb⟩ := HH.out
        have ha := ha f
        have hb := hb f
        generalize vs.getD k 0 = old at *
        cases hf : fOf ys f with
        | none =>
          rw [hf] at cg ha hb
          have V := Lib.hid (NX.out (-1) (by simpa using cg))
          have S1 := Lib.hid (WW.out.set k (-1) hkl)
          have HB := Lib.hid (p := Maps.has Dd (litS f) = false) (by rw [hb]; rfl)
          clear hf cg cs ha hb
          gi_wp2_with (gi_at_lookup; refine wpListIn_lookup_own_ok_int _ rfl _ _ 78 rfl 9 3 .i64 lawS Tryd.underlying78 Tryd.underlying3 (zeroI _) w.heap.size ys.length _ rfl mo _ _ rfl hkey ?_; intro c hat hwc; rw [HB.out]; clear hat hwc)
          go_roundw
          case rel => exact ⟨k + 1, _, by omega, by go_num, V.out, S1.out⟩
          case measure => simp [intOf]; omega
        | some v =>
          rw [hf] at cg ha hb
          have V := Lib.hid (NX.out v (by simpa using cg))
          have S1 := Lib.hid (WW.out.set k v hkl)
          have HB := Lib.hid (p := Maps.has Dd (litS f) = true) (by rw [hb]; rfl)
          have HC := Lib.hid (p := ∀ c : Int, Dd.atKey (litS f) (.lit (.int .i64 0)) = .lit (.int .i64 c) → c = v) (fun c e => by
            rw [ha] at e; injection e with e; injection e with _ e; simpa using e.symm)
          clear hf cg cs ha hb
          gi_wp2_with (gi_at_lookup; refine wpListIn_lookup_own_ok_int _ rfl _ _ 78 rfl 9 3 .i64 lawS Tryd.underlying78 Tryd.underlying3 (zeroI _) w.heap.size ys.length _ rfl mo _ _ rfl hkey ?_; intro c hat hwc; rw [HB.out, HC.out c hat]; clear hat hwc)
          go_roundw
          case rel => exact ⟨k + 1, _, by omega, by go_num, V.out, S1.out⟩
          case measure => simp [intOf]; omega
      · obtain rfl : k = n := by omega
        have hK := hW.dd
        clear hW
        gi_wp2
        refine ⟨by simp, .inl ⟨_, _, rfl, run_takeDeferred hK, ?_⟩⟩
        refine ⟨_, results_tmp rfl _ _ _, W.heap.size, vs, rfl, ?_, hV.out.1, hV.out.2, ?_, ?_⟩
        · refine ((grownBy_putObj' _ D (.deferred none)).block W.heap.size WW.out.gl.2.1 ?_).trans WW.out.hb
          have := WW.out.gl
          simp; omega
        · have := WW.out.gl; omega
        · exact WW.out.bel.trans (belowK_b (w := w) (Nat.le_refl _) _ D _ _ (by have := WW.out.gl; omega) hK rfl rfl)
  case stop =>
    rintro D c pre W _ _ h _
    exact h.elim
theorem ints_cell {W : World} {g i : Nat} {vs : List Int} (h : W.heap[g]? = some (.cells (vs.map (Value.int .i64)).toArray 3)) (hi : i < vs.length) : W.cell? ⟨g, i, none⟩ = some (.int .i64 (vs.getD i 0)) ∧ W.frozen? ⟨g, i, none⟩ = false := by
  refine ⟨?_, Joins.unfrozen_of_block h _⟩
  rw [Joins.cell_of_block h, List.getElem?_toArray, List.getElem?_map, List.getElem?_eq_getElem hi]
  simp [List.getD, hi]
theorem columnsOf_any (an ah : Option Addr) (n cn m ch : Nat) (ss hs : List ByteArray) (w : World) (h : NL w an n ss) (k : NL w ah m hs) :
    Calls Tryd.prog 35 #[.slice an n cn, .slice ah m ch] w fun e w' => ∃ g, e = .returned (.slice (some ⟨g, 0, none⟩) n n) ∧ IL w' g n (fun i => colF hs (ss.getD i default) 0) ∧ w.heap.size ≤ g ∧ Below w.heap.size w w' := by
  refine (columnsOf_own an ah n cn m ch ss hs w h k).mono ?_
  rintro e w' ⟨g, vs, rfl, hb, hl, hv, hg, hB⟩
  refine ⟨g, rfl, ⟨(Array.getElem?_eq_some_iff.1 hb).1, fun i hi => ?_⟩, hg, hB⟩
  rw [(ints_cell hb (by omega)).1, hv i hi]
end Go.Proofs.YtglgdfgdfkeogaaDoor

namespace Go.Proofs.YtglgdfgdfkeogaaDoor
open Go.RowKit
set_option linter.unusedVariables false
set_option linter.unusedSimpArgs false

/-- One of the names stands there twice. -/
def dupB (ss : List ByteArray) : Bool := (List.range ss.length).any fun i => decide (colF ss (ss.getD i default) 0 ≠ i)
theorem dup_yes {ss : List ByteArray} {k : Nat} (hk : k < ss.length) (h : colF ss (ss.getD k default) 0 ≠ k) : dupB ss = true := by
  unfold dupB; rw [List.any_eq_true]; exact ⟨k, List.mem_range.2 hk, decide_eq_true h⟩
theorem dup_no {ss : List ByteArray} (h : ∀ k, k < ss.length → colF ss (ss.getD k default) 0 = k) : dupB ss = false := by
  unfold dupB; rw [List.any_eq_false]; intro k hk; rw [h k (List.mem_range.1 hk)]; simp

set_option maxHeartbeats 2000000 in
theorem anyTwice_any (a : Option Addr) (n cap : Nat) (ss : List ByteArray) (w : World) (h : NL w a n ss) :
    Calls Tryd.prog 50 #[.slice a n cap] w fun e w' => e = .returned (.bool (dupB ss)) ∧ Below w.heap.size w w' := by
  have hl := h.1
  have hn := h.2.1
  have K := Lib.hid (columnsOf_any a a n cap n cap ss ss w h h)
  have YES := Lib.hid (p := ∀ k, k < n → colF ss (ss.getD k default) 0 ≠ k → true = dupB ss) (fun k hk g => (dup_yes (by omega) g).symm)
  have NO := Lib.hid (p := (∀ k, k < n → colF ss (ss.getD k default) 0 = k) → false = dupB ss) (fun g => (dup_no (by rw [hl]; exact g)).symm)
  generalize dupB ss = B at *
  obtain ⟨F, hF⟩ : ∃ F : Nat → Int, (fun i => colF ss (ss.getD i default) 0) = F := ⟨_, rfl⟩
  have hF' : ∀ i, colF ss (ss.getD i default) 0 = F i := fun i => congrFun hF i
  simp only [hF'] at K YES NO
  clear h hl hF hF'
  go_enter Tryd.func50, Tryd.ntmps50
  go_wp2_with (go_at_call 35; refine K.out.mono ?_; rintro e w1 ⟨g, rfl, h1, h2, h3⟩; have I1 := Lib.hid h1; have B1 := Lib.hid h3; clear h1 h2 h3)
  go_loop [9] (fun t => ∃ k : Nat, k ≤ n ∧ t = .int .i64 k ∧ RowKit.Hid (∀ j, j < k → F j = j)) (fun t => n - (intOf t).toNat)
  case atStart => exact ⟨0, by omega, rfl, fun j hj => absurd hj (by omega)⟩
  case round =>
    obtain ⟨k, hk, rfl, hN⟩ := hrel
    by_cases hlt : k < n
    · have c0 : w1.cell? ⟨g, k, none⟩ = some (.int .i64 (F k)) := I1.out.2 k hlt
      have kc : (k : Int) < (n : Int) := by omega
      have YK := Lib.hid (YES.out k hlt)
      by_cases e : F k = k
      · rw [e] at c0
        have NX := Lib.hid (p := ∀ j, j < k + 1 → F j = j) (fun j hj => by
          rcases (show j < k ∨ j = k by omega) with q | q
          · exact hN.out j q
          · rw [q]; exact e)
        clear e
        go_wp2
        go_round
        case rel => exact ⟨k + 1, by omega, by go_num, NX.out⟩
        case measure => simp [intOf]; omega
      · have Y := Lib.hid (YK.out e)
        generalize F k = z at *
        go_wp2
        go_ret
        exact ⟨retT_bool Y.out, B1.out⟩
    · obtain rfl : k = n := by omega
      have Y := Lib.hid (NO.out hN.out)
      go_wp2
      go_ret
      exact ⟨retT_bool Y.out, B1.out⟩

/-- What Valid tells. -/
def validE (ss : List ByteArray) (rs : List (List Cl)) : Int :=
  if rs.any (fun r => decide (r.length ≠ ss.length)) then 3 else
  if 64 < ss.length ∨ 4096 < rs.length then 6 else
  if !(ss.all nameB) || dupB ss then 52 else
  if rs.any (fun r => r.any stB) then 51 else 0
theorem val3 {ss : List ByteArray} {rs : List (List Cl)} {r : List Cl} (h : r ∈ rs) (hr : r.length ≠ ss.length) : validE ss rs = 3 := by
  unfold validE
  rw [if_pos]
  rw [List.any_eq_true]; exact ⟨r, h, decide_eq_true hr⟩
theorem val_pass {ss : List ByteArray} {rs : List (List Cl)} (h : ∀ r ∈ rs, r.length = ss.length) : rs.any (fun r => decide (r.length ≠ ss.length)) = false := by
  rw [List.any_eq_false]; intro r hr; simp [h r hr]
theorem val6 {ss : List ByteArray} {rs : List (List Cl)} (h : ∀ r ∈ rs, r.length = ss.length) (h6 : 64 < ss.length ∨ 4096 < rs.length) : validE ss rs = 6 := by
  unfold validE; rw [val_pass h, if_neg (by simp), if_pos h6]
theorem val52 {ss : List ByteArray} {rs : List (List Cl)} (h : ∀ r ∈ rs, r.length = ss.length) (h6 : ¬ (64 < ss.length ∨ 4096 < rs.length)) (hn : (!(ss.all nameB) || dupB ss) = true) : validE ss rs = 52 := by
  unfold validE; rw [val_pass h, if_neg (by simp), if_neg h6, if_pos hn]
theorem val51 {ss : List ByteArray} {rs : List (List Cl)} (h : ∀ r ∈ rs, r.length = ss.length) (h6 : ¬ (64 < ss.length ∨ 4096 < rs.length)) (hn : (!(ss.all nameB) || dupB ss) = false) {r : List Cl} (hr : r ∈ rs) (hs : r.any stB = true) : validE ss rs = 51 := by
  unfold validE; rw [val_pass h, if_neg (by simp), if_neg h6, if_neg (by rw [hn]; simp), if_pos]
  rw [List.any_eq_true]; exact ⟨r, hr, hs⟩
theorem val0 {ss : List ByteArray} {rs : List (List Cl)} (h : ∀ r ∈ rs, r.length = ss.length) (h6 : ¬ (64 < ss.length ∨ 4096 < rs.length)) (hn : (!(ss.all nameB) || dupB ss) = false) (hs : ∀ r ∈ rs, r.any stB = false) : validE ss rs = 0 := by
  unfold validE; rw [val_pass h, if_neg (by simp), if_neg h6, if_neg (by rw [hn]; simp), if_neg]
  rw [Bool.not_eq_true, List.any_eq_false]; intro r hr; simp [hs r hr]
theorem rows_len {w : World} {rs : List Rw} (hr : ∀ r ∈ rs, RC w r.a r.n r.cs ∧ (r.a = none → r.n = 0 ∧ r.cap = 0) ∧ r.n ≤ r.cap ∧ r.cap ≤ maxLen) {n : Nat} (h : ∀ k, k < rs.length → (rs.getD k default).n = n) : ∀ r ∈ rs.map (·.cs), r.length = n := by
  intro r hm
  obtain ⟨q, hq, rfl⟩ := List.mem_map.1 hm
  obtain ⟨k, hk, rfl⟩ := List.getElem_of_mem hq
  have := h k hk
  rw [show rs.getD k default = rs[k] by simp [List.getD, hk]] at this
  rw [(hr _ hq).1.1, this]

set_option maxRecDepth 100000 in
set_option maxHeartbeats 4000000 in
theorem validT_any (an ar : Option Addr) (ln cn lr cr : Nat) (ss : List ByteArray) (rs : List Rw) (w : World) (h : NL w an ln ss) (k : RL w ar lr rs) :
    Calls Tryd.prog 37 #[.agg #[.slice an ln cn, .slice ar lr cr]] w fun e w' => e = .returned (.int .i64 (validE ss (rs.map (·.cs)))) ∧ Below w.heap.size w w' := by
  have hB0 : Below w.heap.size w (w.alloc (.cells #[.slice an ln cn, .slice ar lr cr] 25)) := (Below.refl _ w).alloc (Nat.le_refl _) _
  have hln := h.2.1
  have hlr := k.2.1
  have sl := h.1
  have rl := k.1
  obtain ⟨R, hR⟩ : ∃ R, validE ss (rs.map (·.cs)) = R := ⟨_, rfl⟩
  have GET := Lib.hid (p := ∀ k, k < lr → rs.getD k default ∈ rs) (fun k hk => by
    have hk' : k < rs.length := by omega
    rw [show rs.getD k default = rs[k] by simp [List.getD, hk']]; exact List.getElem_mem hk')
  have V3 := Lib.hid (p := ∀ i, i < lr → (rs.getD i default).n ≠ ln → 3 = R) (fun i hi g => by
    rw [← hR, eq_comm]
    exact val3 (List.mem_map.2 ⟨_, GET.out i hi, rfl⟩) (by rw [(k.2.2.1 _ (GET.out i hi)).1.1, sl]; exact g))
  have ALL := Lib.hid (p := (∀ i, i < lr → (rs.getD i default).n = ln) → ∀ r ∈ rs.map (·.cs), r.length = ss.length) (fun g => by
    rw [sl]; exact rows_len k.2.2.1 (by rw [rl]; exact g))
  have N := Lib.hid h
  have K := Lib.hid k
  rw [hR]
  have HR := Lib.hid hR
  clear h k hR
  go_enter Tryd.func37, Tryd.ntmps37
  go_wp2
  go_loop [10] (fun t => ∃ k : Nat, k ≤ lr ∧ t = .int .i64 k ∧ RowKit.Hid (∀ j, j < k → (rs.getD j default).n = ln)) (fun t => lr - (intOf t).toNat)
  case atStart => exact ⟨0, by omega, rfl, fun j hj => absurd hj (by omega)⟩
  case round =>
    obtain ⟨k, hk, rfl, hN⟩ := hrel
    by_cases hlt : k < lr
    · obtain ⟨x, o, rfl, hx, hcs⟩ : ∃ x o, ar = some ⟨x, o, none⟩ ∧ x < w.heap.size ∧ ∀ i, i < lr → w.cell? ⟨x, o + i, none⟩ = some (.slice (rs.getD i default).a (rs.getD i default).n (rs.getD i default).cap) := by
        rcases K.out.2.2.2 with h0 | h0
        · omega
        · exact h0
      have c0 := (hB0.cell (p := ⟨x, o + k, none⟩) hx).trans (hcs k hlt)
      have kc : (k : Int) < (lr : Int) := by omega
      have Y3 := Lib.hid (V3.out k hlt)
      have NX := Lib.hid (p := (rs.getD k default).n = ln → ∀ j, j < k + 1 → (rs.getD j default).n = ln) (fun g j hj => by
        rcases (show j < k ∨ j = k by omega) with q | q
        · exact hN.out j q
        · rw [q]; exact g)
      clear hcs hB0
      generalize rs.getD k default = r at *
      obtain ⟨ra, rn, rcap, rcs⟩ := r
      simp only at c0 NX Y3
      by_cases e : rn = ln
      · have Y := Lib.hid (NX.out e)
        subst e
        go_wp2
        go_round
        case rel => exact ⟨k + 1, by omega, by go_num, Y.out⟩
        case measure => simp [intOf]; omega
      · have Y := Lib.hid (Y3.out e)
        have e2 : ¬ (rn : Int) = (ln : Int) := by omega
        go_wp2
        go_ret
        exact ⟨retT_int Y.out, (Below.refl _ w).alloc (Nat.le_refl _) _⟩
    · obtain rfl : k = lr := by omega
      have AL := Lib.hid (ALL.out hN.out)
      have rml : (rs.map (·.cs)).length = k := by rw [List.length_map]; exact rl
      by_cases h6 : 64 < ln ∨ 4096 < k
      · have Y := Lib.hid (p := 6 = R) (by rw [← HR.out, val6 AL.out (by rw [sl, rml]; exact h6)])
        by_cases h64 : 64 < ln
        · have q1 : (64 : Int) < (ln : Int) := by omega
          clear rml sl rl
          go_wp2
          go_ret
          exact ⟨retT_int Y.out, hB0⟩
        · have q1 : ¬ (64 : Int) < (ln : Int) := by omega
          have q2 : (4096 : Int) < (k : Int) := by omega
          clear rml sl rl
          go_wp2
          go_ret
          exact ⟨retT_int Y.out, hB0⟩
      · have q1 : ¬ (64 : Int) < (ln : Int) := by omega
        have q2 : ¬ (4096 : Int) < (k : Int) := by omega
        have H6 := Lib.hid (p := ¬ (64 < ss.length ∨ 4096 < (rs.map (·.cs)).length)) (by rw [sl, rml]; exact h6)
        have KC := Lib.hid (fun W (h : NL W an ln ss) => areCap_any an ln cn ss W h)
        have KT := Lib.hid (fun W (h : NL W an ln ss) => anyTwice_any an ln cn ss W h)
        have N0 := Lib.hid (N.out.later hB0)
        have BB := Lib.hid hB0
        clear hB0 rml
        cases hc : ss.all nameB with
        | false =>
          have Y := Lib.hid (p := 52 = R) (by rw [← HR.out, val52 AL.out H6.out (by rw [hc]; rfl)])
          go_wp2_with (go_at_call 48; refine (KC.out _ N0.out).mono ?_; rintro e w1 ⟨rfl, rfl⟩; rw [hc])
          go_ret
          exact ⟨retT_int Y.out, BB.out⟩
        | true =>
          cases hd : dupB ss with
          | true =>
            have Y := Lib.hid (p := 52 = R) (by rw [← HR.out, val52 AL.out H6.out (by rw [hc, hd]; rfl)])
            go_wp2_with (first
              | (go_at_call 48; refine (KC.out _ N0.out).mono ?_; rintro e w1 ⟨rfl, rfl⟩; rw [hc])
              | (go_at_call 50; refine (KT.out _ N0.out).mono ?_; rintro e w2 ⟨rfl, h1⟩; rw [hd]; have B2 := Lib.hid (BB.out.trans (h1.mono BB.out.size)); clear h1))
            go_ret
            exact ⟨retT_int Y.out, B2.out⟩
          | false =>
            have V51 := Lib.hid (p := ∀ i, i < k → (rs.getD i default).cs.any stB = true → 51 = R) (fun i hi g => by
              rw [← HR.out, eq_comm]
              exact val51 AL.out H6.out (by rw [hc, hd]; rfl) (List.mem_map.2 ⟨_, GET.out i hi, rfl⟩) g)
            have V0 := Lib.hid (p := (∀ i, i < k → (rs.getD i default).cs.any stB = false) → 0 = R) (fun g => by
              rw [← HR.out, eq_comm]
              refine val0 AL.out H6.out (by rw [hc, hd]; rfl) (fun r hm => ?_)
              obtain ⟨q, hq, rfl⟩ := List.mem_map.1 hm
              obtain ⟨i, hi, rfl⟩ := List.getElem_of_mem hq
              have := g i (by omega)
              rwa [show rs.getD i default = rs[i] by simp [List.getD, hi]] at this)
            go_wp2_with (first
              | (go_at_call 48; refine (KC.out _ N0.out).mono ?_; rintro e w1 ⟨rfl, rfl⟩; rw [hc])
              | (go_at_call 50; refine (KT.out _ N0.out).mono ?_; rintro e w2 ⟨rfl, h1⟩; rw [hd]; have B2 := Lib.hid (BB.out.trans (h1.mono BB.out.size)); have c1 : w2.cell? ⟨w.heap.size, 1, none⟩ = some (.slice ar k cr) := (by rw [h1.cell (p := ⟨w.heap.size, 1, none⟩) (by simp)]; go_simp); clear h1))
            go_loopw [43] (fun t wr => ∃ j : Nat, j ≤ k ∧ t = .int .i64 j ∧ RowKit.Hid (∀ i, i < j → (rs.getD i default).cs.any stB = false) ∧ Below w.heap.size w wr) (fun t _ => k - (intOf t).toNat)
            case atStart => exact ⟨0, by omega, rfl, fun j hj => absurd hj (by omega), B2.out⟩
            case round =>
              rename World => wr
              obtain ⟨j, hj, rfl, hM, hB⟩ := hrel
              have CB := Lib.hid hB
              by_cases hjk : j < k
              · obtain ⟨x, o, rfl, hx, hcs⟩ : ∃ x o, ar = some ⟨x, o, none⟩ ∧ x < w.heap.size ∧ ∀ i, i < k → w.cell? ⟨x, o + i, none⟩ = some (.slice (rs.getD i default).a (rs.getD i default).n (rs.getD i default).cap) := by
                  rcases K.out.2.2.2 with h0 | h0
                  · omega
                  · exact h0
                have c0 := (hB.cell (p := ⟨x, o + j, none⟩) hx).trans (hcs j hjk)
                have jc : (j : Int) < (k : Int) := by omega
                have Y51 := Lib.hid (V51.out j hjk)
                have RR := Lib.hid ((K.out.2.2.1 _ (GET.out j hjk)).1.later hB)
                have NX := Lib.hid (p := (rs.getD j default).cs.any stB = false → ∀ i, i < j + 1 → (rs.getD i default).cs.any stB = false) (fun g i hi => by
                  rcases (show i < j ∨ i = j by omega) with q | q
                  · exact hM.out i q
                  · rw [q]; exact g)
                clear hcs hB
                generalize rs.getD j default = r at *
                obtain ⟨ra, rn, rcap, rcs⟩ := r
                simp only at c0 NX Y51 RR
                have KF := Lib.hid (containsFunc_any ra rn rcap rcs wr RR.out)
                cases hs : rcs.any stB with
                | true =>
                  have Y := Lib.hid (Y51.out hs)
                  rw [hs] at KF
                  go_wp2_with (go_at_call 51; refine KF.out.mono ?_; rintro e w3 ⟨rfl, h1⟩; have B3 := Lib.hid (CB.out.trans (h1.mono CB.out.size)); clear h1)
                  go_ret
                  exact ⟨retT_int Y.out, B3.out⟩
                | false =>
                  have Y := Lib.hid (NX.out hs)
                  rw [hs] at KF
                  go_wp2_with (go_at_call 51; refine KF.out.mono ?_; rintro e w3 ⟨rfl, h1⟩; have B3 := Lib.hid (CB.out.trans (h1.mono CB.out.size)); clear h1)
                  go_roundw
                  case rel => exact ⟨j + 1, by omega, by go_num, Y.out, B3.out⟩
                  case measure => simp [intOf]; omega
              · obtain rfl : j = k := by omega
                have Y := Lib.hid (V0.out hM.out)
                clear hB
                go_wp2
                go_ret
                exact ⟨retT_int Y.out, CB.out⟩
end Go.Proofs.YtglgdfgdfkeogaaDoor
