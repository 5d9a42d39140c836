import Derived.Test.YtjbbbejadhojlaaDoorXAU
import Derived.Test.YtjbbbejadhojlaaDoorXAW
namespace Go.Proofs.YtjbbbejadhojlaaDoor
open Go.RowKit
set_option linter.unusedVariables false
set_option linter.unusedSimpArgs false
/-- States are no longer than their place. -/
def dLen (l : Nat → Option Ds) : Prop := ∀ j s, l j = some s → s.st.length ≤ j ∧ s.sl.length ≤ j
theorem dBe_len (s : Ds) (i : In) : (dBe s i).st.length ≤ s.st.length + 1 ∧ (dBe s i).sl.length ≤ s.sl.length + 1 := by
  have h1 : ∀ h, (s.st.take h).length ≤ s.st.length := fun h => by rw [List.length_take]; omega
  have h2 := dOut_len (l := s.sl) (x := i.a.toNat)
  unfold dBe
  simp only
  have h3 := h1 (s.st.length - (dTk i.o.toNat).length)
  split
  · simp <;> omega
  · split
    · simp <;> omega
    · split
      · simp <;> omega
      · simp <;> omega
theorem dSet_len {l : Nat → Option Ds} (h : dLen l) {k : Nat} {v : Option Ds} (hv : ∀ s, v = some s → s.st.length ≤ k ∧ s.sl.length ≤ k) : dLen (dSet l k v) := by
  intro j s e
  unfold dSet at e
  by_cases z : j = k
  · rw [if_pos z] at e
    rw [z]
    exact hv s e
  · rw [if_neg z] at e
    exact h j s e
theorem dHand_len {t : Option Ds} {s : Ds} {k : Nat} (ht : ∀ d, t = some d → d.st.length ≤ k ∧ d.sl.length ≤ k) (hs : s.st.length ≤ k ∧ s.sl.length ≤ k) : ∀ d, (dHand t s).2 = some d → d.st.length ≤ k ∧ d.sl.length ≤ k := by
  intro d e
  cases t with
  | none =>
    unfold dHand at e
    simp only [Option.some.injEq] at e
    subst e
    exact hs
  | some t =>
    unfold dHand at e
    simp only at e
    split at e
    · simp only [Option.some.injEq] at e
      subst e
      exact ht _ rfl
    · split at e
      · simp only [Option.some.injEq] at e
        subst e
        exact ht _ rfl
      · simp only [Option.some.injEq] at e
        subst e
        have := dMeet_len (t := t.sl) (l := s.sl)
        exact ⟨hs.1, by simp only; omega⟩
theorem dNx_len {i : In} {t : Option Ds} {s : Ds} {k : Nat} (ht : ∀ d, t = some d → d.st.length ≤ k ∧ d.sl.length ≤ k) (hs : s.st.length ≤ k ∧ s.sl.length ≤ k) : ∀ d, (dNx i t s).2 = some d → d.st.length ≤ k ∧ d.sl.length ≤ k := by
  unfold dNx
  split
  · exact ht
  · exact dHand_len ht hs
theorem dPass_len {day : Int} {n : Nat} {i : In} {k : Nat} {l : Nat → Option Ds} (h : dLen l) : dLen (dPass day n i k l).2 := by
  unfold dPass
  cases e : l k with
  | none => exact h
  | some s =>
    simp only
    split
    · exact h
    · have hz : (dDo day s i).1 = 0 := by rename_i z; simpa using z
      have hd : (dDo day s i).2 = dBe s i := by
        unfold dDo at hz ⊢
        simp only at hz ⊢
        split
        · rename_i c; rw [if_pos c] at hz; simp at hz
        · rename_i c
          rw [if_neg c] at hz
          split
          · rename_i c; rw [if_pos c] at hz; simp at hz
          · rename_i c
            rw [if_neg c] at hz
            split
            · rename_i c; rw [if_pos c] at hz; simp at hz
            · rename_i c
              rw [if_neg c] at hz
              split
              · rename_i c; rw [if_pos c] at hz; simp at hz
              · rfl
      rw [hd]
      have hb := dBe_len s i
      have hk := h k s e
      have hb1 : (dBe s i).st.length ≤ k + 1 ∧ (dBe s i).sl.length ≤ k + 1 := ⟨by omega, by omega⟩
      have hnx := dNx_len (i := i) (t := l (k + 1)) (s := dBe s i) (k := k + 1) (fun d q => h (k + 1) d q) hb1
      have h2 := dSet_len h hnx
      unfold dOn
      split
      · exact h
      · split
        · exact h
        · split
          · exact dSet_len h2 (dHand_len (fun d q => h2 _ d q) ⟨by omega, by omega⟩)
          · exact h2
theorem dRun_len (day : Int) (code : List In) : ∀ k, dLen (dRun day code k).2.2
  | 0 => by
    intro j s e
    have e : dStart j = some s := e
    unfold dStart at e
    by_cases z : j = 0
    · rw [if_pos z] at e
      simp only [Option.some.injEq] at e
      subst e
      exact ⟨Nat.zero_le _, Nat.zero_le _⟩
    · rw [if_neg z] at e
      cases e
  | k + 1 => by
    have ih := dRun_len day code k
    simp only [dRun]
    split
    · exact ih
    · exact dPass_len ih
/-- Once wrong, it stays so. -/
theorem dRun_off {day : Int} {code : List In} {k : Nat} (h : (dRun day code k).1 ≠ 0) : ∀ m, k ≤ m → dRun day code m = dRun day code k := by
  intro m hm
  induction m with
  | zero =>
    have : k = 0 := by omega
    rw [this]
  | succ m ih =>
    by_cases z : k = m + 1
    · rw [z]
    · have e := ih (by omega)
      show (if (dRun day code m).1 ≠ 0 then dRun day code m else _) = _
      rw [if_pos (by rw [e]; exact h), e]
/-- A state, or none, as it stands in three cells. -/
def TV (W : World) (t : Option Ds) (cs : List Value) : Prop := (t = none ∧ cs = [.bool false, .slice none 0 0, .slice none 0 0]) ∨ ∃ d a c ka kc, t = some d ∧ cs = [.bool true, .slice a d.st.length c, .slice ka d.sl.length kc] ∧ StV W a c ka d
theorem StV.lat {W W' : World} {a : Option Addr} {c : Nat} {ka : Option Addr} {d : Ds} (h : StV W a c ka d) (b : Below W.heap.size W W') : StV W' a c ka d := ⟨⟨h.1.1, h.1.2.lat b⟩, h.2.1, ⟨h.2.2.1, h.2.2.2.lat b⟩⟩
theorem TV.lat {W W' : World} {t : Option Ds} {cs : List Value} (h : TV W t cs) (b : Below W.heap.size W W') : TV W' t cs := by
  rcases h with h | ⟨d, a, c, ka, kc, e1, e2, hs⟩
  · exact .inl h
  · exact .inr ⟨d, a, c, ka, kc, e1, e2, hs.lat b⟩
/-- Cells of another type are written: the states' lists stay. -/
theorem TV.far {W W' : World} {t : Option Ds} {cs : List Value} (h : TV W t cs) {lb : Nat} {cur : Array Value} (hb : W.heap[lb]? = some (.cells cur 72)) (q : ∀ u, u ≠ lb → W'.heap[u]? = W.heap[u]?) : TV W' t cs := by
  rcases h with h | ⟨d, a, c, ka, kc, e1, e2, hs⟩
  · exact .inl h
  · refine .inr ⟨d, a, c, ka, kc, e1, e2, ⟨hs.1.1, hs.1.2.blk (fun y cu fr e => q y (fun z => ?_))⟩, hs.2.1, ⟨hs.2.2.1, hs.2.2.2.blk (fun y cu fr e => q y (fun z => ?_))⟩⟩
    · rw [z, hb] at e
      injection e with e
      injection e with _ e2 _
      exact absurd e2 (by decide)
    · rw [z, hb] at e
      injection e with e
      injection e with _ e2 _
      exact absurd e2 (by decide)
/-- hand, whatever is there. -/
theorem hand14_any {w : World} {t : Option Ds} {c0 c1 c2 : Value} {s : Ds} {sa ka : Option Addr} {sc kc : Nat} (ht : TV w t [c0, c1, c2]) (hs : StV w sa sc ka s) (lt : ∀ d, t = some d → d.st.length ≤ 300000 ∧ d.sl.length ≤ 300000) (ls : s.st.length ≤ 300000 ∧ s.sl.length ≤ 300000) : Calls Tryd.prog 34 #[.agg #[c0, c1, c2], .agg #[.bool true, .slice sa s.st.length sc, .slice ka s.sl.length kc]] w fun e w' => ∃ (hb : Bool) (xa : Option Addr) (xn xc : Nat) (za : Option Addr) (zn zc : Nat), e = .returned (.tuple #[.agg #[.bool hb, .slice xa xn xc, .slice za zn zc], .int .i64 (dHand t s).1]) ∧ RowKit.Hid (TV w' (dHand t s).2 [.bool hb, .slice xa xn xc, .slice za zn zc] ∧ Below w.heap.size w w') := by
  rcases ht with ⟨rfl, e⟩ | ⟨d, a, c, ua, uc, rfl, e, hd⟩
  · simp only [List.cons.injEq, and_true] at e
    obtain ⟨rfl, rfl, rfl⟩ := e
    exact (hand14_none (w := w) (sa := sa) (sn := s.st.length) (sc := sc) (ka := ka) (km := s.sl.length) (kc := kc)).mono (fun e w' q => ⟨_, _, _, _, _, _, _, q.1, .inr ⟨s, sa, sc, ka, kc, rfl, rfl, hs.lat q.2⟩, q.2⟩)
  · simp only [List.cons.injEq, and_true] at e
    obtain ⟨rfl, rfl, rfl⟩ := e
    have ld := lt d rfl
    by_cases n : d.st.length ≠ s.st.length
    · have ed : dHand (some d) s = (142, some d) := by unfold dHand; simp only; rw [if_pos n]
      rw [ed]
      exact (hand14_len (w := w) (ta := a) (tc := c) (ua := ua) (um := d.sl.length) (uc := uc) (sa := sa) (sc := sc) (ka := ka) (km := s.sl.length) (kc := kc) n).mono (fun e w' q => ⟨_, _, _, _, _, _, _, q.1, .inr ⟨d, a, c, ua, uc, rfl, rfl, hd.lat q.2⟩, q.2⟩)
    · have n : d.st.length = s.st.length := by omega
      by_cases m : d.st ≠ s.st
      · have ed : dHand (some d) s = (143, some d) := by unfold dHand; simp only; rw [if_neg (by simp [n]), if_pos m]
        rw [ed]
        have h1 := hd.1
        rw [n] at h1
        rw [n]
        exact (hand14_sort (w := w) (ta := a) (tc := c) (ua := ua) (um := d.sl.length) (uc := uc) (sa := sa) (sc := sc) (ka := ka) (km := s.sl.length) (kc := kc) h1 hs.1 (by omega) m).mono (fun e w' q => ⟨_, _, _, _, _, _, _, q.1, .inr ⟨d, a, c, ua, uc, rfl, by rw [n], hd.lat q.2⟩, q.2⟩)
      · have m : d.st = s.st := Classical.byContradiction m
        have ed : dHand (some d) s = (0, some ⟨s.st, dMeet d.sl s.sl⟩) := by unfold dHand; simp only; rw [if_neg (by simp [n]), if_neg (by simp [m])]
        rw [ed]
        have h1 := hd.1
        rw [m] at h1
        rw [m]
        refine (hand14_ok (w := w) (ta := a) (tc := c) (ua := ua) (uc := uc) (sa := sa) (sc := sc) (ka := ka) (kc := kc) h1 hs.1 hd.2.2 hs.2.2 (by omega) (by omega) (by omega)).mono (fun e w' q => ?_)
        obtain ⟨a', c', rfl, o, b⟩ := q
        exact ⟨_, _, _, _, _, _, _, rfl, .inr ⟨⟨s.st, dMeet d.sl s.sl⟩, sa, sc, a', c', rfl, rfl, ⟨hs.1.1, hs.1.2.lat b⟩, hs.2.1, o.kpt⟩, b⟩
noncomputable def dWrO (day : Int) (t : Option Ds) (i : In) (at' n : Nat) : Int := match t with | none => 146 | some s => dWr day s i at' n
set_option maxRecDepth 100000 in
theorem wrong14_dead {w : World} {o a b day : Int} {at' n : Nat} : Calls Tryd.prog 32 #[.agg #[.bool false, .slice none 0 0, .slice none 0 0], .agg #[.int .i64 o, .int .i64 a, .int .i64 b], .int .i64 day, .int .i64 (at' : Int), .int .i64 (n : Int)] w fun e w' => e = .returned (.int .i64 146) ∧ Below w.heap.size w w' := by
  obtain ⟨W0, hW0⟩ : ∃ W, (w.alloc (.cells #[.bool false, .slice none 0 0, .slice none 0 0] 72)).alloc (.cells #[.int .i64 o, .int .i64 a, .int .i64 b] 51) = W := ⟨_, rfl⟩
  have B0 : Below w.heap.size w W0 := by rw [← hW0]; exact (allocBP w _).trans ((allocBP (w.alloc _) _).mono (by simp))
  have P0 : BkP W0 w.heap.size #[.bool false, .slice none 0 0, .slice none 0 0] 72 := by rw [← hW0]; exact BkP.lat (heapN w _) (allocBP _ _)
  obtain ⟨p0, p1, p2⟩ := box_3R P0
  have HW := Lib.hid hW0
  have BB := Lib.hid B0
  clear hW0 B0 P0
  go_enter Tryd.func32, Tryd.ntmps32
  go_upto_region 1 with fail
  rw [HW.out]
  go_wp2
  go_ret
  exact ⟨rfl, BB.out⟩
theorem wrong14_all {w : World} {t : Option Ds} {c0 c1 c2 : Value} (ht : TV w t [c0, c1, c2]) (lt : ∀ d, t = some d → d.st.length ≤ 300000 ∧ d.sl.length ≤ 300000) {k a : Nat} {b : Int} (hk : k < 29) (ha : a ≤ 1000000000) (day : Int) {at' n : Nat} (h1 : at' ≤ 1000000000) (h2 : n ≤ 1000000000) : Calls Tryd.prog 32 #[.agg #[c0, c1, c2], .agg #[.int .i64 (k : Int), .int .i64 (a : Int), .int .i64 b], .int .i64 day, .int .i64 (at' : Int), .int .i64 (n : Int)] w fun e w' => e = .returned (.int .i64 (dWrO day t ⟨(k : Int), (a : Int), b⟩ at' n)) ∧ Below w.heap.size w w' := by
  rcases ht with ⟨rfl, e⟩ | ⟨d, x, c, ua, uc, rfl, e, hd⟩
  · simp only [List.cons.injEq, and_true] at e
    obtain ⟨rfl, rfl, rfl⟩ := e
    exact wrong14_dead
  · simp only [List.cons.injEq, and_true] at e
    obtain ⟨rfl, rfl, rfl⟩ := e
    have ld := lt d rfl
    exact wrong14_any hd.1 hd.2.2 (by omega) (by omega) hk ha day h1 h2
end Go.Proofs.YtjbbbejadhojlaaDoor

namespace Go.Proofs.YtjbbbejadhojlaaDoor
open Go.RowKit
set_option linter.unusedVariables false
set_option linter.unusedSimpArgs false
/-- States is at work: the list of states. -/
structure SsI (w : World) (lb n : Nat) (sg : Array Value) (l : Nat → Option Ds) (W : World) : Prop where
  bel : Below w.heap.size w W
  og : w.heap.size < lb
  pb : BkP W w.heap.size sg 43
  bk : ∃ cur, BkP W lb cur 72 ∧ cur.size = n * 3
  st : ∀ j, j < n → ∃ c0 c1 c2, TV W (l j) [c0, c1, c2] ∧ W.cell? ⟨lb, j * 3, none⟩ = some c0 ∧ W.cell? ⟨lb, j * 3 + 1, none⟩ = some c1 ∧ W.cell? ⟨lb, j * 3 + 2, none⟩ = some c2
section
variable {w : World} {lb n : Nat} {sg : Array Value} {l : Nat → Option Ds} {W : World}
theorem SsI.lat {W' : World} (h : SsI w lb n sg l W) (b : Below W.heap.size W W') : SsI w lb n sg l W' := by
  obtain ⟨cur, k1, k2⟩ := h.bk
  refine ⟨h.bel.trans (b.mono h.bel.size), h.og, h.pb.lat b, ⟨cur, k1.lat b, k2⟩, fun j hj => ?_⟩
  obtain ⟨c0, c1, c2, t, e0, e1, e2⟩ := h.st j hj
  exact ⟨c0, c1, c2, t.lat b, (b.cell (p := ⟨lb, j * 3, none⟩) k1.lt).trans e0, (b.cell (p := ⟨lb, j * 3 + 1, none⟩) k1.lt).trans e1, (b.cell (p := ⟨lb, j * 3 + 2, none⟩) k1.lt).trans e2⟩
theorem SsI.frozen (h : SsI w lb n sg l W) (k : Nat) : W.frozen? ⟨lb, k, none⟩ = false := by
  obtain ⟨cur, k1, k2⟩ := h.bk
  exact k1.frozen k
def set3 (W : World) (lb o : Nat) (d0 d1 d2 : Value) : World := ((W.setCell ⟨lb, o, none⟩ d0).setCell ⟨lb, o + 1, none⟩ d1).setCell ⟨lb, o + 2, none⟩ d2
theorem set3_far {W : World} {lb o : Nat} {d0 d1 d2 : Value} {u : Nat} (h : u ≠ lb) : (set3 W lb o d0 d1 d2).heap[u]? = W.heap[u]? := by
  unfold set3
  rw [bk_blockG h, bk_blockG h, bk_blockG h]
theorem set3_blk {W : World} {lb o : Nat} {d0 d1 d2 : Value} {cur : Array Value} {t : TypeId} (h : BkP W lb cur t) (ho : o + 2 < cur.size) : BkP (set3 W lb o d0 d1 d2) lb (((cur.set! o d0).set! (o + 1) d1).set! (o + 2) d2) t := by
  unfold set3
  exact ((h.set2 o d0 (by omega)).set2 (o + 1) d1 (by simp; omega)).set2 (o + 2) d2 (by simp; omega)
theorem SsI.set (h : SsI w lb n sg l W) {j : Nat} (hj : j < n) {v : Option Ds} {d0 d1 d2 : Value} (hv : TV W v [d0, d1, d2]) : SsI w lb n sg (dSet l j v) (set3 W lb (j * 3) d0 d1 d2) := by
  obtain ⟨cur, k1, k2⟩ := h.bk
  have og := h.og
  have far : ∀ u, u ≠ lb → (set3 W lb (j * 3) d0 d1 d2).heap[u]? = W.heap[u]? := fun u hu => set3_far hu
  have bk := set3_blk (o := j * 3) (d0 := d0) (d1 := d1) (d2 := d2) k1 (by omega)
  refine ⟨?_, og, (far _ (by omega)).trans h.pb, ⟨_, bk, by simp [k2]⟩, fun i hi => ?_⟩
  · unfold set3
    exact ((h.bel.setCell (by exact (by omega : w.heap.size ≤ lb)) _).setCell (by exact (by omega : w.heap.size ≤ lb)) _).setCell (by exact (by omega : w.heap.size ≤ lb)) _
  · by_cases z : i = j
    · subst z
      refine ⟨d0, d1, d2, ?_, ?_, ?_, ?_⟩
      · unfold dSet
        rw [if_pos rfl]
        exact hv.far k1 far
      · rw [bk.cell]
        simp [Array.getElem?_setIfInBounds, k2]
        omega
      · rw [bk.cell]
        simp [Array.getElem?_setIfInBounds, k2]
        omega
      · rw [bk.cell]
        simp [Array.getElem?_setIfInBounds, k2]
        omega
    · obtain ⟨c0, c1, c2, t, e0, e1, e2⟩ := h.st i hi
      rw [k1.cell] at e0 e1 e2
      refine ⟨c0, c1, c2, ?_, ?_, ?_, ?_⟩
      · unfold dSet
        rw [if_neg z]
        exact t.far k1 far
      · rw [bk.cell]
        simp only [Array.set!_eq_setIfInBounds, Array.getElem?_setIfInBounds]
        rw [if_neg (by omega), if_neg (by omega), if_neg (by omega)]
        exact e0
      · rw [bk.cell]
        simp only [Array.set!_eq_setIfInBounds, Array.getElem?_setIfInBounds]
        rw [if_neg (by omega), if_neg (by omega), if_neg (by omega)]
        exact e1
      · rw [bk.cell]
        simp only [Array.set!_eq_setIfInBounds, Array.getElem?_setIfInBounds]
        rw [if_neg (by omega), if_neg (by omega), if_neg (by omega)]
        exact e2
end
theorem infoSt : (Tryd.prog.info? 72).map (fun i => (i.zero, i.size, i.bytes)) = some (some (.agg #[.bool false, .slice none 0 0, .slice none 0 0]), 3, 56) := by kernel_rfl
theorem make_st (n : Nat) (hn : n ≤ 1000000) (W : World) : (Instr.makeSlice 66 (.int .i64 (n : Int)) (.int .i64 (n : Int))).run Tryd.prog W = .ok (.slice (some ⟨W.heap.size, 0, none⟩) n n) (W.alloc (.cells (madeCells #[.bool false, .slice none 0 0, .slice none 0 0] (n * 3)) 72)) := by
  obtain ⟨i0, hi, hz0, hz1, hz2⟩ := info_parts infoSt
  have := run_make (P := Tryd.prog) W 66 72 i0 _ Tryd.underlying66 hi hz0 .i64 .i64 n n (by omega) (by omega) (by rw [hz2]; omega) (by omega)
  rw [hz1] at this
  simpa [Value.cells] using this
theorem made_at {z : Array Value} {n j i : Nat} (hz : z.size = 3) (hj : j < n) (hi : i < 3) : (madeCells z (n * 3))[j * 3 + i]? = some z[i]! := by
  have h1 : j * 3 + i < n * 3 := by omega
  have h2 : (j * 3 + i) % 3 = i := by omega
  simp [madeCells, h1, hz, h2]
/-- The first states. -/
theorem ss_start {w : World} {n : Nat} {sg : Array Value} (hn : 0 < n) {W : World} (bel : Below w.heap.size w W) (hs : w.heap.size < W.heap.size) (pb : BkP W w.heap.size sg 43) : SsI w W.heap.size n sg dStart ((W.alloc (.cells (madeCells #[.bool false, .slice none 0 0, .slice none 0 0] (n * 3)) 72)).setCell ⟨W.heap.size, 0, none⟩ (.bool true)) := by
  have al := allocBP W (.cells (madeCells #[.bool false, .slice none 0 0, .slice none 0 0] (n * 3)) 72)
  have b0 : BkP (W.alloc (.cells (madeCells #[.bool false, .slice none 0 0, .slice none 0 0] (n * 3)) 72)) W.heap.size _ 72 := heapN _ _
  have sz : (madeCells #[.bool false, .slice none 0 0, .slice none 0 0] (n * 3)).size = n * 3 := size_madeCells _ _
  have b1 := b0.set2 0 (.bool true) (by omega)
  refine ⟨(bel.trans (al.mono bel.size)).setCell (by exact Nat.le_of_lt hs) _, hs, (pb.lat al).other _ _ _ (by omega), ⟨_, b1, by simp [sz]⟩, fun j hj => ?_⟩
  have m0 := made_at (z := #[.bool false, .slice none 0 0, .slice none 0 0]) (n := n) rfl hj (i := 0) (by omega)
  have m1 := made_at (z := #[.bool false, .slice none 0 0, .slice none 0 0]) (n := n) rfl hj (i := 1) (by omega)
  have m2 := made_at (z := #[.bool false, .slice none 0 0, .slice none 0 0]) (n := n) rfl hj (i := 2) (by omega)
  by_cases z : j = 0
  · subst z
    refine ⟨.bool true, .slice none 0 0, .slice none 0 0, .inr ⟨⟨[], []⟩, none, 0, none, 0, rfl, rfl, ⟨rfl, .inl rfl⟩, ⟨fun _ => ⟨rfl, rfl⟩, Nat.le_refl _, by unfold maxLen; omega⟩, ⟨rfl, .inl rfl⟩⟩, ?_, ?_, ?_⟩
    · rw [b1.cell]
      simp [Array.getElem?_setIfInBounds, sz]
      omega
    · rw [b1.cell]
      simp only [Array.set!_eq_setIfInBounds, Array.getElem?_setIfInBounds]
      rw [if_neg (by omega)]
      exact m1
    · rw [b1.cell]
      simp only [Array.set!_eq_setIfInBounds, Array.getElem?_setIfInBounds]
      rw [if_neg (by omega)]
      exact m2
  · refine ⟨.bool false, .slice none 0 0, .slice none 0 0, .inl ⟨by unfold dStart; rw [if_neg z], rfl⟩, ?_, ?_, ?_⟩
    · rw [b1.cell]
      simp only [Array.set!_eq_setIfInBounds, Array.getElem?_setIfInBounds]
      rw [if_neg (by omega)]
      exact m0
    · rw [b1.cell]
      simp only [Array.set!_eq_setIfInBounds, Array.getElem?_setIfInBounds]
      rw [if_neg (by omega)]
      exact m1
    · rw [b1.cell]
      simp only [Array.set!_eq_setIfInBounds, Array.getElem?_setIfInBounds]
      rw [if_neg (by omega)]
      exact m2
def dHtO (t : Option Ds) : Nat := match t with | none => 0 | some s => s.st.length
/-- The heights of the states in memory. -/
def HtL (W : World) (lb n : Nat) (l : Nat → Option Ds) : Prop := lb < W.heap.size ∧ ∀ j, j < n → ∃ a c, W.cell? ⟨lb, j * 3 + 1, none⟩ = some (.slice a (dHtO (l j)) c)
theorem SsI.hts {w : World} {lb n : Nat} {sg : Array Value} {l : Nat → Option Ds} {W : World} (h : SsI w lb n sg l W) : HtL W lb n l := by
  obtain ⟨cur, k1, _⟩ := h.bk
  refine ⟨k1.lt, fun j hj => ?_⟩
  obtain ⟨c0, c1, c2, t, _, e1, _⟩ := h.st j hj
  rcases t with ⟨q, e⟩ | ⟨d, a, c, ka, kc, q, e, _⟩
  · simp only [List.cons.injEq, and_true] at e
    rw [q]
    exact ⟨none, 0, by rw [e1, e.2.1]; rfl⟩
  · simp only [List.cons.injEq, and_true] at e
    rw [q]
    exact ⟨a, c, by rw [e1, e.2.1]; rfl⟩
/-- What States answers. -/
def SsE (w : World) (day : Int) (code : List In) (e : Ending) (w' : World) : Prop := Below w.heap.size w w' ∧ (((dRun day code code.length).1 ≠ 0 ∧ e = .returned (.tuple #[.slice none 0 0, .int .i64 ((dRun day code code.length).2.1 : Int), .int .i64 (dRun day code code.length).1])) ∨ ((dRun day code code.length).1 = 0 ∧ ∃ lb, e = .returned (.tuple #[.slice (some ⟨lb, 0, none⟩) code.length code.length, .int .i64 0, .int .i64 0]) ∧ w.heap.size < lb ∧ HtL w' lb code.length (dRun day code code.length).2.2))
end Go.Proofs.YtjbbbejadhojlaaDoor
