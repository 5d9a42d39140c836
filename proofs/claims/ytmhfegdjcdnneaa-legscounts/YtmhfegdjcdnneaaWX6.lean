/-
  WALK: the law's spoil: every list of an expression of one's own is written over.
-/
import Derived.Test.YtmhfegdjcdnneaaWX5
namespace Go.Proofs.Ytmhfegdjcdnneaa
open Go.RowKit
set_option linter.unusedVariables false
set_option linter.unusedSimpArgs false

/-- The world has changed at most in the blocks from lo up to hi, and grown. -/
structure Rn (lo hi : Nat) (w w' : World) : Prop where
  os : w'.os = w.os
  tape : w'.tape = w.tape
  output : w'.output = w.output
  size : w.heap.size ≤ w'.heap.size
  block : ∀ k, k < w.heap.size → ¬ (lo ≤ k ∧ k < hi) → w'.heap[k]? = w.heap[k]?
theorem Rn.refl (lo hi : Nat) (w : World) : Rn lo hi w w := ⟨rfl, rfl, rfl, Nat.le_refl _, fun _ _ _ => rfl⟩
theorem Rn.trans {lo hi : Nat} {a b c : World} (h : Rn lo hi a b) (k : Rn lo hi b c) : Rn lo hi a c :=
  ⟨k.os.trans h.os, k.tape.trans h.tape, k.output.trans h.output, Nat.le_trans h.size k.size, fun i hi hn => (k.block i (Nat.lt_of_lt_of_le hi h.size) hn).trans (h.block i hi hn)⟩
theorem Rn.wide {lo hi lo' hi' : Nat} {a b : World} (h : Rn lo hi a b) (h1 : lo' ≤ lo) (h2 : hi ≤ hi') : Rn lo' hi' a b :=
  ⟨h.os, h.tape, h.output, h.size, fun i hi hn => h.block i hi (fun e => hn (by omega))⟩
theorem Rn.alloc (lo hi : Nat) (w : World) (o : Obj) : Rn lo hi w (w.alloc o) := ⟨rfl, rfl, rfl, by simp, fun i hi _ => Below.heap_alloc w o i hi⟩
theorem Rn.set {lo hi : Nat} (w : World) (b k : Nat) (v : Value) (h1 : lo ≤ b) (h2 : b < hi) : Rn lo hi w (w.setCell ⟨b, k, none⟩ v) :=
  ⟨rfl, rfl, rfl, by simp, fun i hi hn => heap_set_other _ _ _ _ _ (fun e => hn (by omega))⟩
theorem Rn.below {lo hi : Nat} {w w' : World} (h : Rn lo hi w w') (hs : lo ≤ w.heap.size) : Below lo w w' := ⟨h.os, h.tape, h.output, h.size, fun k hk => h.block k (by omega) (fun e => by omega)⟩
/-- The first row of a list is written over. -/
def Spt (w : World) (b n : Nat) : Prop := ∀ i, i < n → w.cell? ⟨b, i * 4, none⟩ = some (.int .i64 5) ∧ w.cell? ⟨b, i * 4 + 1, none⟩ = some (.int .i64 77) ∧ w.cell? ⟨b, i * 4 + 2, none⟩ = some (.int .i64 77) ∧ w.cell? ⟨b, i * 4 + 3, none⟩ = some (.slice none 0 0)
def SpP (lo hi : Nat) (vs : List Value) (w : World) (e : Ending) (w' : World) : Prop := e = .returned (.tuple #[]) ∧ Rn lo hi w w' ∧ ∀ b n c, vs.getD 3 default = .slice (some ⟨b, 0, none⟩) n c → Spt w' b n
theorem Bk.set4 {w : World} {b : Nat} {cur : Array Value} {t : TypeId} (h : Bk w b cur t) (k : Nat) (a0 a1 a2 a3 : Value) (hk : k + 3 < cur.size) :
    ∃ cur', Bk ((((w.setCell ⟨b, k, none⟩ a0).setCell ⟨b, k + 1, none⟩ a1).setCell ⟨b, k + 2, none⟩ a2).setCell ⟨b, k + 3, none⟩ a3) b cur' t ∧ cur'.size = cur.size ∧ (∀ j, j < k ∨ k + 3 < j → cur'[j]? = cur[j]?) ∧ cur'[k]? = some a0 ∧ cur'[k + 1]? = some a1 ∧ cur'[k + 2]? = some a2 ∧ cur'[k + 3]? = some a3 := by
  refine ⟨_, (((h.set k a0 (by omega)).set (k + 1) a1 (by simp; omega)).set (k + 2) a2 (by simp; omega)).set (k + 3) a3 (by simp; omega), by simp, fun j hj => ?_, ?_, ?_, ?_, ?_⟩
  · simp only [Array.getElem?_set]
    rw [if_neg (by omega), if_neg (by omega), if_neg (by omega), if_neg (by omega)]
  all_goals simp only [Array.getElem?_set]
  · rw [if_neg (by omega), if_neg (by omega), if_neg (by omega), if_pos trivial]
  · rw [if_neg (by omega), if_neg (by omega), if_pos trivial]
  · rw [if_neg (by omega), if_pos trivial]
  · rw [if_pos trivial]
/-- While it is written over: the row's contents up to i. -/
structure SC (w0 wr : World) (b n i : Nat) (V : Nat → List Value) (L H : Nat → Nat) (cur : Array Value) : Prop where
  bk : Bk wr b cur 24
  done : ∀ j, j < i → cur[j * 4]? = some (.int .i64 5) ∧ cur[j * 4 + 1]? = some (.int .i64 77) ∧ cur[j * 4 + 2]? = some (.int .i64 77) ∧ cur[j * 4 + 3]? = some (.slice none 0 0)
  todo : ∀ j, i ≤ j → j < n → ∀ c, c < 4 → cur[j * 4 + c]? = some ((V j).getD c default)
  keep : ∀ j, i ≤ j → j < n → ∀ k, L j ≤ k → k < H j → wr.heap[k]? = w0.heap[k]?
theorem SC.next {w0 wr w5 : World} {b n i : Nat} {V : Nat → List Value} {L H : Nat → Nat} {cur : Array Value} (h : SC w0 wr b n i V L H cur) (hi : i < n) (hO : ∀ i j, i < j → j < n → H i ≤ L j) (hb : ∀ j, j < n → ¬ (L j ≤ b ∧ b < H j)) (hs : ∀ j, j < n → H j ≤ wr.heap.size) (h5 : Rn (L i) (H i) wr w5) :
    ∃ cur', SC w0 ((((w5.setCell ⟨b, i * 4, none⟩ (.int .i64 5)).setCell ⟨b, i * 4 + 1, none⟩ (.int .i64 77)).setCell ⟨b, i * 4 + 2, none⟩ (.int .i64 77)).setCell ⟨b, i * 4 + 3, none⟩ (.slice none 0 0)) b n (i + 1) V L H cur' := by
  have hsz : i * 4 + 3 < cur.size := by
    have := h.todo i (Nat.le_refl _) hi 3 (by omega)
    exact (Array.getElem?_eq_some_iff.1 this).1
  have bk5 : Bk w5 b cur 24 := (h5.block b h.bk.lt (hb i hi)).trans h.bk
  obtain ⟨cur', q1, q2, q3, q4, q5, q6, q7⟩ := bk5.set4 (i * 4) (.int .i64 5) (.int .i64 77) (.int .i64 77) (.slice none 0 0) hsz
  refine ⟨cur', q1, fun j hj => ?_, fun j h1 h2 c hc => ?_, fun j h1 h2 k h3 h4 => ?_⟩
  · by_cases e : j = i
    · subst e; exact ⟨q4, q5, q6, q7⟩
    · have := h.done j (by omega)
      exact ⟨(q3 _ (by omega)).trans this.1, (q3 _ (by omega)).trans this.2.1, (q3 _ (by omega)).trans this.2.2.1, (q3 _ (by omega)).trans this.2.2.2⟩
  · rw [q3 _ (by omega)]; exact h.todo j (by omega) h2 c hc
  · have hne : b ≠ k := fun e => hb j h2 ⟨by omega, by omega⟩
    rw [heap_set_other _ _ _ _ _ hne, heap_set_other _ _ _ _ _ hne, heap_set_other _ _ _ _ _ hne, heap_set_other _ _ _ _ _ hne, h5.block k (by have := hs j h2; omega) (fun e => by have := hO i j (by omega) h2; omega)]
    exact h.keep j (by omega) h2 k h3 h4
set_option maxHeartbeats 1000000 in
theorem spoil_any {w0 : World} {lo hi : Nat} {e : Xt} {vs : List Value} (hE : XO w0 lo hi e vs) : ∀ (w : World), (∀ k, lo ≤ k → k < hi → w.heap[k]? = w0.heap[k]?) → hi ≤ w.heap.size →
    Calls Try.prog 12 #[.agg vs.toArray] w (SpP lo hi vs w) := by
  induction hE with
  | @mk lo hi op num day kids ka kc V L H wop wnum wday hk hn hr hR hO hkids ih =>
    intro w hW hS
    obtain ⟨w1, hw1⟩ : ∃ w1, w.alloc (.cells #[.int .i64 op, .int .i64 num, .int .i64 day, .slice ka kids.length kc] 24) = w1 := ⟨_, rfl⟩
    obtain ⟨b1, x1, z1⟩ := NW.is hw1
    have R1 := Lib.hid (show Rn lo hi w w1 by rw [← hw1]; exact Rn.alloc _ _ _ _)
    have E1 := Lib.hid (show Bk w1 w.heap.size #[.int .i64 op, .int .i64 num, .int .i64 day, .slice ka kids.length kc] 24 by rw [← hw1]; exact Bk.new _ _ _)
    rcases hr with h0 | ⟨b, rfl, q2, q3, ⟨cur, q4, q5⟩, q6⟩
    · have c3 := x1.c3
      rw [h0] at c3
      have hw1' := hw1
      rw [h0] at hw1'
      clear ih hkids b1 x1 hR hO
      go_enter Try.func12, Try.ntmps12
      go_wp2
      try rw [hw1]
      go_loopw [2] (fun t wr => t = .int .i64 0 ∧ wr = w1) (fun _ _ => 0)
      case atStart => exact ⟨rfl, by first | rfl | exact hw1'⟩
      case round =>
        obtain ⟨rfl, rfl⟩ := hrel
        go_wp2
        ((try simp only [Exit.inBlock, Exit.then]); refine bodyPost_end (results_none rfl _ _ _) rfl ?_)
        exact ⟨rfl, R1.out, fun b n c hb => by simp only [List.getD_cons_succ, List.getD_cons_zero, Value.slice.injEq] at hb; obtain ⟨_, rfl, _⟩ := hb; intro i hi; omega⟩
    · have K0 := Lib.hid (show SC w0 w1 b kids.length 0 V L H cur from ⟨(b1.block b (by omega)).trans ((hW b q2 q3).trans q4), fun j hj => absurd hj (by omega), fun j _ hj c hc => q5 j hj c hc, fun j _ hj k h1 h2 => by have := hR j hj; rw [b1.block k (by omega)]; exact hW k (by omega) (by omega)⟩)
      have IH := Lib.hid ih
      have HK := Lib.hid hkids
      have HR := Lib.hid hR
      have HO := Lib.hid hO
      have HQ := Lib.hid q6
      clear ih hkids b1 x1 hR hO q6 q5 q4
      go_enter Try.func12, Try.ntmps12
      go_wp2
      try rw [hw1]
      go_loopw [2] (fun t wr => ∃ i : Nat, i ≤ kids.length ∧ t = .int .i64 i ∧ Rn lo hi w1 wr ∧ ∃ cur, SC w0 wr b kids.length i V L H cur) (fun t _ => kids.length - (intOf t).toNat)
      case atStart => exact ⟨0, by omega, rfl, Rn.refl _ _ _, cur, K0.out⟩
      case round =>
        clear K0
        obtain ⟨i, hi', rfl, hRn, cur, hC⟩ := hrel
        have RR := Lib.hid hRn
        have CC := Lib.hid hC
        have EB := Lib.hid (show Bk wr w.heap.size #[.int .i64 op, .int .i64 num, .int .i64 day, .slice (some ⟨b, 0, none⟩) kids.length kc] 24 from (hRn.block _ (by omega) (fun e => by omega)).trans E1.out)
        have c3 := EB.out.cell 3
        simp at c3
        by_cases il : i < kids.length
        · have ic : (i : Int) < (kids.length : Int) := by omega
          obtain ⟨v0, v1, v2, v3, hv⟩ := (HK.out i il).four
          have e0 := hC.todo i (Nat.le_refl _) il 0 (by omega)
          have e1 := hC.todo i (Nat.le_refl _) il 1 (by omega)
          have e2 := hC.todo i (Nat.le_refl _) il 2 (by omega)
          have e3 := hC.todo i (Nat.le_refl _) il 3 (by omega)
          rw [← hC.bk.cell] at e0 e1 e2 e3
          have I1 := IH.out i il wr (fun k h1 h2 => hC.keep i (Nat.le_refl _) il k h1 h2) (by have := HR.out i il; have := hRn.size; omega)
          rw [hv] at e0 e1 e2 e3 I1
          simp only [List.getD_cons_succ, List.getD_cons_zero, Nat.add_zero] at e0 e1 e2 e3
          have IQ := Lib.hid I1
          clear hv I1 hC hRn
          go_wp2_with fail
          go_at_call 12
          refine IQ.out.mono ?_
          rintro e' w5 ⟨rfl, h5, _⟩
          have S5 := Lib.hid (CC.out.next il HO.out HQ.out (fun j hj => by have := HR.out j hj; have := RR.out.size; omega) h5)
          have R5 := Lib.hid ((RR.out.trans (h5.wide (HR.out i il).1 (HR.out i il).2)))
          have E5 := Lib.hid (show Bk w5 w.heap.size #[.int .i64 op, .int .i64 num, .int .i64 day, .slice (some ⟨b, 0, none⟩) kids.length kc] 24 from (h5.block _ EB.out.lt (fun e => by have := (HR.out i il).2; omega)).trans EB.out)
          have BB := Lib.hid (show Bk w5 b cur 24 from (h5.block b CC.out.bk.lt (HQ.out i il)).trans CC.out.bk)
          replace c3 := E5.out.cell 3
          simp at c3
          have d0 := CC.out.todo i (Nat.le_refl _) il 0 (by omega)
          have d1 := CC.out.todo i (Nat.le_refl _) il 1 (by omega)
          have d2 := CC.out.todo i (Nat.le_refl _) il 2 (by omega)
          have d3 := CC.out.todo i (Nat.le_refl _) il 3 (by omega)
          rw [← BB.out.cell] at d0 d1 d2 d3
          rw [Nat.add_zero] at d0
          have f0 := BB.out.frozen (i * 4)
          have f1 := BB.out.frozen (i * 4 + 1)
          have f2 := BB.out.frozen (i * 4 + 2)
          have f3 := BB.out.frozen (i * 4 + 3)
          generalize (V i).getD 0 default = y0 at d0
          generalize (V i).getD 1 default = y1 at d1
          generalize (V i).getD 2 default = y2 at d2
          generalize (V i).getD 3 default = y3 at d3
          clear h5 e0 e1 e2 e3 IQ
          go_wp2
          exact ⟨⟨i + 1, by omega, by simp, (((R5.out.trans (Rn.set _ _ _ _ q2 q3)).trans (Rn.set _ _ _ _ q2 q3)).trans (Rn.set _ _ _ _ q2 q3)).trans (Rn.set _ _ _ _ q2 q3), S5.out⟩, by simp [intOf]; omega⟩
        · obtain rfl : i = kids.length := by omega
          clear hC hRn
          go_wp2
          ((try simp only [Exit.inBlock, Exit.then]); refine bodyPost_end (results_none rfl _ _ _) rfl ?_)
          refine ⟨rfl, R1.out.trans RR.out, fun b' n c hb => ?_⟩
          simp only [List.getD_cons_succ, List.getD_cons_zero, Value.slice.injEq, Option.some.injEq, Addr.mk.injEq] at hb
          obtain ⟨⟨rfl, _⟩, rfl, _⟩ := hb
          intro i hi
          have := CC.out.done i hi
          rw [CC.out.bk.cell, CC.out.bk.cell, CC.out.bk.cell, CC.out.bk.cell]
          exact this
end Go.Proofs.Ytmhfegdjcdnneaa
