/-
  WALK: the law's handX: an expression with marks behind each list.
-/
import Derived.Test.YtjlnbhmiahegmaaWX47
namespace Go.Proofs.Ytjlnbhmiahegmaa
open Go.RowKit
set_option linter.unusedVariables false
set_option linter.unusedSimpArgs false

/-- An expression that is handed in: each list of kids in a block of its own from lo on, with three marks behind it. -/
inductive XH (w : World) (lo : Nat) : Xt → List Value → Prop
  | leaf {op num day : Int} (wop : i64 op) (wnum : i64 num) (wday : i64 day) : XH w lo (.mk op num day []) [.int .i64 op, .int .i64 num, .int .i64 day, .slice none 0 0]
  | node {op num day : Int} {kids : List Xt} {b : Nat} {cur : Array Value} (V : Nat → List Value) (wop : i64 op) (wnum : i64 num) (wday : i64 day) (h0 : 0 < kids.length) (hn : kids.length ≤ 1048576) (hlo : lo ≤ b)
    (hb : w.heap[b]? = some (.cells cur 24 (0, 0))) (hc : ∀ i, i < kids.length → ∀ j, j < 4 → cur[i * 4 + j]? = some ((V i).getD j default))
    (hm : ∀ k, kids.length ≤ k → k < kids.length + 3 → cur[k * 4]? = some (.int .i64 (-77)) ∧ cur[k * 4 + 1]? = some (.int .i64 (-77)) ∧ cur[k * 4 + 2]? = some (.int .i64 0) ∧ cur[k * 4 + 3]? = some (.slice none 0 0))
    (hkids : ∀ i, i < kids.length → XH w lo (kids.getD i default) (V i)) :
    XH w lo (.mk op num day kids) [.int .i64 op, .int .i64 num, .int .i64 day, .slice (some ⟨b, 0, none⟩) kids.length (kids.length + 3)]
theorem XH.keep {w w' : World} {lo : Nat} {e : Xt} {vs : List Value} (h : XH w lo e vs) : (∀ k, lo ≤ k → k < w.heap.size → w'.heap[k]? = w.heap[k]?) → XH w' lo e vs := by
  induction h with
  | leaf a b c => intro _; exact .leaf a b c
  | node V wop wnum wday h0 hn hlo hb hc hm hkids ih => intro hw; exact .node V wop wnum wday h0 hn hlo ((hw _ hlo (Array.getElem?_eq_some_iff.1 hb).1).trans hb) hc hm (fun i hi => ih i hi hw)
theorem XH.later {w w' : World} {lo : Nat} {e : Xt} {vs : List Value} (h : XH w lo e vs) (b : Below w.heap.size w w') : XH w' lo e vs := h.keep (fun k _ h2 => b.block k h2)
theorem XH.lower {w : World} {lo lo' : Nat} {e : Xt} {vs : List Value} (h : XH w lo e vs) (hl : lo' ≤ lo) : XH w lo' e vs := by
  induction h with
  | leaf a b c => exact .leaf a b c
  | node V wop wnum wday h0 hn hlo hb hc hm hkids ih => exact .node V wop wnum wday h0 hn (by omega) hb hc hm ih
theorem XH.xv {w : World} {lo : Nat} {e : Xt} {vs : List Value} (h : XH w lo e vs) : XV w e vs := by
  induction h with
  | leaf a b c => exact .mk (fun _ => []) a b c ⟨fun _ => ⟨rfl, rfl⟩, Nat.le_refl _, by unfold maxLen; omega⟩ (by simp) (.inl rfl) (fun i hi => absurd hi (by simp))
  | node V wop wnum wday h0 hn hlo hb hc hm hkids ih =>
    refine .mk V wop wnum wday ⟨fun e => (by cases e), by omega, by unfold maxLen; omega⟩ (by omega) (.inr ⟨_, 0, rfl, (Array.getElem?_eq_some_iff.1 hb).1, fun i hi j hj => ?_⟩) ih
    have := hc i hi j hj
    rw [Nat.zero_add]
    simp only [World.cell?, hb]
    simpa using this
theorem XH.form {w : World} {lo : Nat} {e : Xt} {vs : List Value} (h : XH w lo e vs) : ∃ a b c d n k, vs = [.int .i64 a, .int .i64 b, .int .i64 c, .slice d n k] := by
  cases h with
  | leaf => exact ⟨_, _, _, _, _, _, rfl⟩
  | node => exact ⟨_, _, _, _, _, _, rfl⟩
end Go.Proofs.Ytjlnbhmiahegmaa

namespace Go.Proofs.Ytjlnbhmiahegmaa
open Go.RowKit
set_option linter.unusedVariables false
set_option linter.unusedSimpArgs false

theorem oddX_any (w : World) : Calls Try.prog 23 #[] w fun e w' => e = .returned (.agg #[.int .i64 (-77), .int .i64 (-77), .int .i64 0, .slice none 0 0]) ∧ Below w.heap.size w w' := by
  go_enter Try.func23, Try.ntmps23
  go_wp2
  refine bodyPost_ret (v := .agg #[.int .i64 (-77), .int .i64 (-77), .int .i64 0, .slice none 0 0]) (by simp [results, Try.results23, go_sem]) rfl ?_
  refine ⟨rfl, ?_⟩
  repeat (first | exact Below.refl _ _ | refine Below.setCell ?_ (by simp) _ | refine Below.alloc ?_ (by simp; try omega) _)
end Go.Proofs.Ytjlnbhmiahegmaa

namespace Go.Proofs.Ytjlnbhmiahegmaa
open Go.RowKit
set_option linter.unusedVariables false
set_option linter.unusedSimpArgs false

def HdP (e : Xt) (w : World) (e' : Ending) (w' : World) : Prop := ∃ vs : List Value, e' = .returned (.agg vs.toArray) ∧ XH w' w.heap.size e vs ∧ Below w.heap.size w w'
theorem make_xs3 (W : World) (n : Nat) (hn : n ≤ 1048576) : (Instr.makeSlice 22 (.int .i64 ((n : Int) + 3)) (.int .i64 ((n : Int) + 3))).run Try.prog W = .ok (.slice (some ⟨W.heap.size, 0, none⟩) (n + 3) (n + 3)) (W.alloc (.cells (madeCells #[.int .i64 0, .int .i64 0, .int .i64 0, .slice none 0 0] ((n + 3) * 4)) 24)) := by
  obtain ⟨i0, hi, hz0, hz1, hz2⟩ := info_parts infoX
  have := run_make (P := Try.prog) W 22 24 i0 _ Try.underlying22 hi hz0 .i64 .i64 ((n : Int) + 3) ((n : Int) + 3) (by omega) (by omega) (by rw [hz2]; omega) (by omega)
  rw [hz1] at this
  have e2 : ((n : Int) + 3).toNat = n + 3 := by omega
  simpa [Value.cells, e2] using this
/-- While it is made: m marks are laid, i kids stand. -/
structure HM (w wr : World) (op num day : Int) (ka : Option Addr) (kc : Nat) (kids : List Xt) (m i : Nat) (V : Nat → List Value) (cur : Array Value) : Prop where
  bel : Below w.heap.size w wr
  e : Bk wr w.heap.size #[.int .i64 op, .int .i64 num, .int .i64 day, .slice ka kids.length kc] 24
  r : Bk wr (w.heap.size + 1) #[.int .i64 0, .int .i64 0, .int .i64 0, .slice none 0 0] 24
  x : Bk wr (w.heap.size + 1 + 1) #[.int .i64 op, .int .i64 num, .int .i64 day, .slice none 0 0] 24
  b : Bk wr (w.heap.size + 1 + 1 + 1) cur 24
  sz : cur.size = (kids.length + 3) * 4
  mks : ∀ k, i ≤ k → k < m → cur[k * 4]? = some (.int .i64 (-77)) ∧ cur[k * 4 + 1]? = some (.int .i64 (-77)) ∧ cur[k * 4 + 2]? = some (.int .i64 0) ∧ cur[k * 4 + 3]? = some (.slice none 0 0)
  done : ∀ j, j < i → ∀ c, c < 4 → cur[j * 4 + c]? = some ((V j).getD c default)
  kids : ∀ j, j < i → XH wr (w.heap.size + 4) (kids.getD j default) (V j)
theorem HM.later {w wr w' : World} {op num day : Int} {ka : Option Addr} {kc : Nat} {kids : List Xt} {m i : Nat} {V : Nat → List Value} {cur : Array Value} (h : HM w wr op num day ka kc kids m i V cur) (b : Below wr.heap.size wr w') : HM w w' op num day ka kc kids m i V cur :=
  ⟨h.bel.trans (b.mono h.bel.size), h.e.below b h.e.lt, h.r.below b h.r.lt, h.x.below b h.x.lt, h.b.below b h.b.lt, h.sz, h.mks, h.done, fun j hj => (h.kids j hj).later b⟩
theorem four_below {w w5 : World} {b k : Nat} {v0 v1 v2 v3 : Value} {B : Nat} (h : Below B w w5) (hb : B ≤ b) : Below B w ((((w5.setCell ⟨b, k, none⟩ v0).setCell ⟨b, k + 1, none⟩ v1).setCell ⟨b, k + 2, none⟩ v2).setCell ⟨b, k + 3, none⟩ v3) :=
  (((h.setCell (p := ⟨b, k, none⟩) hb _).setCell (p := ⟨b, k + 1, none⟩) hb _).setCell (p := ⟨b, k + 2, none⟩) hb _).setCell (p := ⟨b, k + 3, none⟩) hb _
theorem four_other (w5 : World) (b k : Nat) (v0 v1 v2 v3 : Value) (c : Nat) (hc : c ≠ b) : ((((w5.setCell ⟨b, k, none⟩ v0).setCell ⟨b, k + 1, none⟩ v1).setCell ⟨b, k + 2, none⟩ v2).setCell ⟨b, k + 3, none⟩ v3).heap[c]? = w5.heap[c]? := by
  rw [heap_set_other _ _ _ _ _ (Ne.symm hc), heap_set_other _ _ _ _ _ (Ne.symm hc), heap_set_other _ _ _ _ _ (Ne.symm hc), heap_set_other _ _ _ _ _ (Ne.symm hc)]
theorem HM.mark {w wr w5 : World} {op num day : Int} {ka : Option Addr} {kc : Nat} {kids : List Xt} {m : Nat} {V : Nat → List Value} {cur : Array Value} (h : HM w wr op num day ka kc kids m 0 V cur) (hi : m < kids.length + 3) (b5 : Below wr.heap.size wr w5) :
    ∃ V' cur', HM w ((((w5.setCell ⟨w.heap.size + 1 + 1 + 1, m * 4, none⟩ (.int .i64 (-77))).setCell ⟨w.heap.size + 1 + 1 + 1, m * 4 + 1, none⟩ (.int .i64 (-77))).setCell ⟨w.heap.size + 1 + 1 + 1, m * 4 + 2, none⟩ (.int .i64 0)).setCell ⟨w.heap.size + 1 + 1 + 1, m * 4 + 3, none⟩ (.slice none 0 0)) op num day ka kc kids (m + 1) 0 V' cur' := by
  have h5 := h.later b5
  obtain ⟨cur', q1, q2, q3, q4, q5, q6, q7⟩ := h5.b.set4 (m * 4) (.int .i64 (-77)) (.int .i64 (-77)) (.int .i64 0) (.slice none 0 0) (by have := h.sz; omega)
  have hk := four_other w5 (w.heap.size + 1 + 1 + 1) (m * 4) (.int .i64 (-77)) (.int .i64 (-77)) (.int .i64 0) (.slice none 0 0)
  refine ⟨V, cur', four_below h5.bel (by omega), (hk _ (by omega)).trans h5.e, (hk _ (by omega)).trans h5.r, (hk _ (by omega)).trans h5.x, q1, q2.trans h.sz, fun k h1 h2 => ?_, fun j hj => absurd hj (by omega), fun j hj => absurd hj (by omega)⟩
  by_cases e : k = m
  · subst e; exact ⟨q4, q5, q6, q7⟩
  · rw [q3 _ (by omega), q3 _ (by omega), q3 _ (by omega), q3 _ (by omega)]
    exact h.mks k h1 (by omega)
theorem HM.next {w wr w5 : World} {op num day : Int} {ka : Option Addr} {kc : Nat} {kids : List Xt} {m i : Nat} {V : Nat → List Value} {cur : Array Value} (h : HM w wr op num day ka kc kids m i V cur) (hi : i < kids.length) (b5 : Below wr.heap.size wr w5) {v0 v1 v2 v3 : Value} (hx : XH w5 wr.heap.size (kids.getD i default) [v0, v1, v2, v3]) :
    ∃ V' cur', HM w ((((w5.setCell ⟨w.heap.size + 1 + 1 + 1, i * 4, none⟩ v0).setCell ⟨w.heap.size + 1 + 1 + 1, i * 4 + 1, none⟩ v1).setCell ⟨w.heap.size + 1 + 1 + 1, i * 4 + 2, none⟩ v2).setCell ⟨w.heap.size + 1 + 1 + 1, i * 4 + 3, none⟩ v3) op num day ka kc kids m (i + 1) V' cur' := by
  have h5 := h.later b5
  have hlt := h.b.lt
  obtain ⟨cur', q1, q2, q3, q4, q5, q6, q7⟩ := h5.b.set4 (i * 4) v0 v1 v2 v3 (by have := h.sz; omega)
  have hk := four_other w5 (w.heap.size + 1 + 1 + 1) (i * 4) v0 v1 v2 v3
  refine ⟨fun j => if j = i then [v0, v1, v2, v3] else V j, cur', four_below h5.bel (by omega), (hk _ (by omega)).trans h5.e, (hk _ (by omega)).trans h5.r, (hk _ (by omega)).trans h5.x, q1, q2.trans h.sz, fun k h1 h2 => ?_, fun j hj c hc => ?_, fun j hj => ?_⟩
  · rw [q3 _ (by omega), q3 _ (by omega), q3 _ (by omega), q3 _ (by omega)]
    exact h.mks k (by omega) h2
  · by_cases e : j = i
    · subst e
      simp only [if_true]
      match c, hc with
      | 0, _ => exact q4
      | 1, _ => exact q5
      | 2, _ => exact q6
      | 3, _ => exact q7
    · simp only [if_neg e]
      rw [q3 _ (by omega)]
      exact h.done j (by omega) c hc
  · by_cases e : j = i
    · subst e
      simp only [if_true]
      exact (hx.lower (by omega)).keep (fun k h1 h2 => hk k (by omega))
    · simp only [if_neg e]
      exact (h5.kids j (by omega)).keep (fun k h1 h2 => hk k (by omega))
/-- All kids are there. -/
theorem HM.xh {w wr : World} {op num day : Int} {ka : Option Addr} {kc : Nat} {kids : List Xt} {V : Nat → List Value} {cur : Array Value} (h : HM w wr op num day ka kc kids (kids.length + 3) kids.length V cur) (wop : i64 op) (wnum : i64 num) (wday : i64 day) (h0 : 0 < kids.length) (hn : kids.length ≤ 1048576) :
    XH wr (w.heap.size + 3) (.mk op num day kids) [.int .i64 op, .int .i64 num, .int .i64 day, .slice (some ⟨w.heap.size + 1 + 1 + 1, 0, none⟩) kids.length (kids.length + 3)] :=
  .node V wop wnum wday h0 hn (by omega) h.b h.done h.mks (fun i hi => (h.kids i hi).lower (by omega))
theorem XH.one {w : World} {lo : Nat} {e : Xt} {a b c d : Value} (h : XH w lo e [a, b, c, d]) : ∀ u ∈ [a, b, c, d], u.oneCell' = true := by
  obtain ⟨_, _, _, _, _, _, h1⟩ := h.form
  injection h1 with h1 h2; injection h2 with h2 h3; injection h3 with h3 h4; injection h4 with h4 h5
  subst h1 h2 h3 h4
  intro u hu
  simp only [List.mem_cons, List.not_mem_nil, or_false] at hu
  rcases hu with rfl | rfl | rfl | rfl <;> rfl
set_option maxHeartbeats 1000000 in
theorem handX_any {w0 : World} {e : Xt} {vs : List Value} (hE : XV w0 e vs) : ∀ (w : World), Below w0.heap.size w0 w → e.n ≤ 1048576 →
    Calls Try.prog 6 #[.agg vs.toArray] w (HdP e w) := by
  induction hE with
  | @mk op num day kids ka kc V wop wnum wday hk hn hr hkids ih =>
    intro w hB hN
    have N1 := Lib.hid (show 1 + Xt.ns kids ≤ 1048576 by simpa [Xt.n] using hN)
    have n1 : kids.length ≤ 1048576 := by have := N1.out; have := ns_len kids; omega
    have IH := Lib.hid ih
    have HR := Lib.hid hr
    have HK := Lib.hid hkids
    have HB := Lib.hid hB
    have WW := Lib.hid (And.intro wop (And.intro wnum wday))
    clear ih hr hkids hB hN hk wop wnum wday
    by_cases hz : kids = []
    · subst hz
      clear IH HR HK
      go_enter Try.func6, Try.ntmps6
      go_wp2
      refine bodyPost_ret (v := .agg #[.int .i64 op, .int .i64 num, .int .i64 day, .slice none 0 0]) (by simp [results, Try.results6, go_sem]) rfl ?_
      refine ⟨[.int .i64 op, .int .i64 num, .int .i64 day, .slice none 0 0], rfl, .leaf WW.out.1 WW.out.2.1 WW.out.2.2, ?_⟩
      exact (((Below.refl _ _).alloc (Nat.le_refl _) _).alloc (by simp) _).alloc (by simp; omega) _
    · have h0 : 0 < kids.length := List.length_pos_iff.2 hz
      have h0' : ¬ (kids.length : Int) = 0 := by omega
      have MK := fun W => make_xs3 W kids.length n1
      obtain ⟨w3, hw3⟩ : ∃ w3, (((w.alloc (.cells #[.int .i64 op, .int .i64 num, .int .i64 day, .slice ka kids.length kc] 24)).alloc (.cells #[.int .i64 0, .int .i64 0, .int .i64 0, .slice none 0 0] 24)).alloc (.cells #[.int .i64 op, .int .i64 num, .int .i64 day, .slice none 0 0] 24)).alloc (.cells (madeCells #[.int .i64 0, .int .i64 0, .int .i64 0, .slice none 0 0] ((kids.length + 3) * 4)) 24) = w3 := ⟨_, rfl⟩
      have S3 := Lib.hid (show HM w w3 op num day ka kc kids 0 0 (fun _ => []) (madeCells #[.int .i64 0, .int .i64 0, .int .i64 0, .slice none 0 0] ((kids.length + 3) * 4)) by
        subst hw3
        refine ⟨((((Below.refl _ _).alloc (Nat.le_refl _) _).alloc (by simp) _).alloc (by simp; omega) _).alloc (by simp; omega) _, (((Bk.new w _ _).alloc _).alloc _).alloc _, ?_, ?_, ?_, by simp [madeCells], fun j _ hj => absurd hj (by omega), fun j hj => absurd hj (by omega), fun j hj => absurd hj (by omega)⟩
        · refine Bk.alloc (Bk.alloc ?_ _) _
          have := Bk.new (w.alloc (.cells #[.int .i64 op, .int .i64 num, .int .i64 day, .slice ka kids.length kc] 24)) #[.int .i64 0, .int .i64 0, .int .i64 0, .slice none 0 0] 24
          rw [World.size_alloc] at this
          exact this
        · refine Bk.alloc ?_ _
          have := Bk.new ((w.alloc (.cells #[.int .i64 op, .int .i64 num, .int .i64 day, .slice ka kids.length kc] 24)).alloc (.cells #[.int .i64 0, .int .i64 0, .int .i64 0, .slice none 0 0] 24)) #[.int .i64 op, .int .i64 num, .int .i64 day, .slice none 0 0] 24
          rw [World.size_alloc, World.size_alloc] at this
          exact this
        · have := Bk.new (((w.alloc (.cells #[.int .i64 op, .int .i64 num, .int .i64 day, .slice ka kids.length kc] 24)).alloc (.cells #[.int .i64 0, .int .i64 0, .int .i64 0, .slice none 0 0] 24)).alloc (.cells #[.int .i64 op, .int .i64 num, .int .i64 day, .slice none 0 0] 24)) (madeCells #[.int .i64 0, .int .i64 0, .int .i64 0, .slice none 0 0] ((kids.length + 3) * 4)) 24
          rw [World.size_alloc, World.size_alloc, World.size_alloc] at this
          exact this)
      have HW3 := Lib.hid hw3
      clear hw3
      go_enter Try.func6, Try.ntmps6
      go_wp2
      rw [HW3.out]
      clear HW3 MK
      rw [show (((kids.length : Int)) == 0) = false by simpa using h0']
      go_loopw [5] (fun t wr => ∃ (i : Nat), i ≤ kids.length + 3 ∧ t = .int .i64 i ∧ ∃ V' cur, HM w wr op num day ka kc kids i 0 V' cur) (fun t _ => kids.length + 3 - (intOf t).toNat)
      case atStart => exact ⟨0, by omega, rfl, _, _, S3.out⟩
      case round =>
        clear S3
        obtain ⟨i, hi, rfl, V', cur, hS⟩ := hrel
        have SS := Lib.hid hS
        by_cases il : i < kids.length + 3
        · have ic : (i : Int) < (kids.length : Int) + 3 := by omega
          clear hS
          go_wp2_with ((go_simp; go_at_call 23); refine (oddX_any _).mono ?_; rintro e' w5 ⟨rfl, hb5⟩; have B5 := Lib.hid (show Below wr.heap.size wr w5 from hb5); have S5 := Lib.hid (SS.out.later B5.out); obtain ⟨d0, d1, d2, d3⟩ := S5.out.b.some4 (i * 4) (by have := S5.out.sz; omega); obtain ⟨y0, d0⟩ := d0; obtain ⟨y1, d1⟩ := d1; obtain ⟨y2, d2⟩ := d2; obtain ⟨y3', d3⟩ := d3; have f0 := S5.out.b.frozen (i * 4); have f1 := S5.out.b.frozen (i * 4 + 1); have f2 := S5.out.b.frozen (i * 4 + 2); have f3 := S5.out.b.frozen (i * 4 + 3); clear hb5)
          go_roundw
          case rel => exact ⟨i + 1, by omega, by go_num, SS.out.mark il B5.out⟩
          case measure => simp [intOf]; omega
        · obtain rfl : i = kids.length + 3 := by omega
          clear hS
          go_wp2
          rw [show ((kids.length + 3 : Nat) : Int) = (kids.length : Int) + 3 by omega]
          go_loopw [6] (fun t wr => ∃ (i : Nat), i ≤ kids.length ∧ t = .int .i64 i ∧ ∃ V' cur, HM w wr op num day ka kc kids (kids.length + 3) i V' cur) (fun t _ => kids.length - (intOf t).toNat)
          case atStart => exact ⟨0, by omega, rfl, _, _, SS.out⟩
          case round =>
            clear SS
            obtain ⟨i, hi, rfl, V', cur, hS⟩ := hrel
            have SS := Lib.hid hS
            have e3 := hS.e.cell 3
            simp at e3
            by_cases il : i < kids.length
            · have ic : (i : Int) < (kids.length : Int) := by omega
              have ic' : (i : Int) < (kids.length : Int) + 3 := by omega
              have BW := Lib.hid (HB.out.trans (hS.bel.mono HB.out.size))
              obtain ⟨x, of, rfl, hx, hc⟩ := HR.out.at BW.out (by omega)
              obtain ⟨v0, v1, v2, v3, hv⟩ := (HK.out i il).four
              have c0 := hc i il 0 (by omega)
              have c1 := hc i il 1 (by omega)
              have c2 := hc i il 2 (by omega)
              have c3 := hc i il 3 (by omega)
              rw [hv] at c0 c1 c2 c3
              simp only [List.getD_cons_succ, List.getD_cons_zero, Nat.add_zero] at c0 c1 c2 c3
              have I1 := fun W hW => IH.out i il W hW (by have := N1.out; have := Xt.ns_take kids i il; have := Xt.ns_le_take kids (i + 1); omega)
              rw [hv] at I1
              have IQ := Lib.hid I1
              clear hc I1 hS
              go_wp2_with ((go_simp; go_at_call 6); refine (IQ.out _ BW.out).mono ?_; rintro e' w5 ⟨vs', rfl, hx5, hb5⟩; obtain ⟨o', m', t', a', n', k', rfl⟩ := hx5.form; have X5 := Lib.hid hx5; have B5 := Lib.hid hb5; have S5 := Lib.hid (SS.out.later B5.out); obtain ⟨d0, d1, d2, d3⟩ := S5.out.b.some4 (i * 4) (by have := S5.out.sz; omega); obtain ⟨y0, d0⟩ := d0; obtain ⟨y1, d1⟩ := d1; obtain ⟨y2, d2⟩ := d2; obtain ⟨y3', d3⟩ := d3; have f0 := S5.out.b.frozen (i * 4); have f1 := S5.out.b.frozen (i * 4 + 1); have f2 := S5.out.b.frozen (i * 4 + 2); have f3 := S5.out.b.frozen (i * 4 + 3); have o1 := X5.out.one; clear hx5 hb5)
              go_roundw
              case rel => exact ⟨i + 1, by omega, by go_num, SS.out.next il B5.out X5.out⟩
              case measure => simp [intOf]; omega
            · obtain rfl : i = kids.length := by omega
              have XX := Lib.hid (hS.xh WW.out.1 WW.out.2.1 WW.out.2.2 h0 n1)
              have x0 := hS.x.cell 0
              have x1 := hS.x.cell 1
              have x2 := hS.x.cell 2
              have x3 := hS.x.cell 3
              have r0 := hS.r.cell 0
              have r1 := hS.r.cell 1
              have r2 := hS.r.cell 2
              have r3 := hS.r.cell 3
              have g0 := hS.r.frozen 0
              have g1 := hS.r.frozen 1
              have g2 := hS.r.frozen 2
              have g3 := hS.r.frozen 3
              have gx := hS.x.frozen 3
              have R1 := hS.r.other (w.heap.size + 1 + 1) 3 (.slice (some ⟨w.heap.size + 1 + 1 + 1, 0, none⟩) kids.length (kids.length + 3)) (by omega)
              have RR := Lib.hid ((((R1.set 0 (.int .i64 op) (by simp)).set 1 (.int .i64 num) (by simp)).set 2 (.int .i64 day) (by simp)).set 3 (.slice (some ⟨w.heap.size + 1 + 1 + 1, 0, none⟩) kids.length (kids.length + 3)) (by simp))
              simp at x0 x1 x2 x3 r0 r1 r2 r3
              clear hS R1
              go_wp2
              have k0 := RR.out.cell 0
              have k1 := RR.out.cell 1
              have k2 := RR.out.cell 2
              have k3 := RR.out.cell 3
              simp only [Array.getElem?_set, List.getElem?_toArray] at k0 k1 k2 k3
              refine bodyPost_ret (v := .agg #[.int .i64 op, .int .i64 num, .int .i64 day, .slice (some ⟨w.heap.size + 1 + 1 + 1, 0, none⟩) kids.length (kids.length + 3)]) (by simp [results, Try.results6, go_sem, k0, k1, k2, k3]) rfl ?_
              refine ⟨_, rfl, ?_, ?_⟩
              · exact (XX.out.keep (fun k h1 h2 => by rw [heap_set_other _ _ _ _ _ (by omega), heap_set_other _ _ _ _ _ (by omega), heap_set_other _ _ _ _ _ (by omega), heap_set_other _ _ _ _ _ (by omega), heap_set_other _ _ _ _ _ (by omega)])).lower (by omega)
              · exact four_below (b := w.heap.size + 1) (k := 0) (SS.out.bel.setCell (p := ⟨w.heap.size + 1 + 1, 3, none⟩) (by simp; omega) _) (by omega)
end Go.Proofs.Ytjlnbhmiahegmaa

namespace Go.Proofs.Ytjlnbhmiahegmaa
open Go.RowKit
set_option linter.unusedVariables false
set_option linter.unusedSimpArgs false

set_option maxHeartbeats 1000000 in
theorem keptX_any {w0 : World} {e : Xt} {vs : List Value} (hE : XV w0 e vs) : ∀ (w : World) (lo : Nat) (hs : List Value), Below w0.heap.size w0 w → XH w lo e hs →
    Calls Try.prog 11 #[.agg hs.toArray, .agg vs.toArray] w fun e' w' => e' = .returned (.bool true) ∧ Below w.heap.size w w' := by
  induction hE with
  | @mk op num day kids ka kc V wop wnum wday hk hn hr hkids ih =>
    intro w lo hs hB hH
    have IH := Lib.hid ih
    have HR := Lib.hid hr
    have HK := Lib.hid hkids
    have HB := Lib.hid hB
    have WW := Lib.hid (And.intro wop (And.intro wnum wday))
    clear ih hr hkids hB hk wop wnum wday
    cases hH with
    | leaf wop wnum wday =>
      obtain ⟨w2, hw2⟩ : ∃ w2, (w.alloc (.cells #[.int .i64 op, .int .i64 num, .int .i64 day, .slice none 0 0] 24)).alloc (.cells #[.int .i64 op, .int .i64 num, .int .i64 day, .slice ka 0 kc] 24) = w2 := ⟨_, rfl⟩
      clear IH HR HK wop wnum wday
      have B2 := Lib.hid (show Below w.heap.size w w2 by rw [← hw2]; exact ((Below.refl _ _).alloc (Nat.le_refl _) _).alloc (by simp) _)
      have E2 : w2.cell? ⟨w.heap.size + 1, 3, none⟩ = some (.slice ka 0 kc) := by
        rw [← hw2]; have := (Bk.new (w.alloc (.cells #[.int .i64 op, .int .i64 num, .int .i64 day, .slice none 0 0] 24)) #[.int .i64 op, .int .i64 num, .int .i64 day, .slice ka 0 kc] 24).cell 3
        rw [World.size_alloc] at this
        exact this
      have HW2 := Lib.hid hw2
      clear hw2
      go_enter Try.func11, Try.ntmps11
      go_wp2
      rw [HW2.out]
      clear HW2
      go_loopw [5] (fun t wr => t = .int .i64 0 ∧ wr = w2) (fun _ _ => 0)
      case atStart => exact ⟨rfl, rfl⟩
      case round =>
        obtain ⟨rfl, rfl⟩ := hrel
        go_wp2
        exact bodyPost_ret (v := .bool true) (by simp [results, Try.results11, go_sem]) rfl ⟨rfl, B2.out⟩
    | @node _ _ _ _ b cur U _ _ _ h0 hn hlo hb hc hm hU =>
      obtain ⟨w2, hw2⟩ : ∃ w2, (w.alloc (.cells #[.int .i64 op, .int .i64 num, .int .i64 day, .slice (some ⟨b, 0, none⟩) kids.length (kids.length + 3)] 24)).alloc (.cells #[.int .i64 op, .int .i64 num, .int .i64 day, .slice ka kids.length kc] 24) = w2 := ⟨_, rfl⟩
      have B2 := Lib.hid (show Below w.heap.size w w2 by rw [← hw2]; exact ((Below.refl _ _).alloc (Nat.le_refl _) _).alloc (by simp) _)
      have E2 := Lib.hid (show Bk w2 (w.heap.size + 1) #[.int .i64 op, .int .i64 num, .int .i64 day, .slice ka kids.length kc] 24 by
        rw [← hw2]; have := (Bk.new (w.alloc (.cells #[.int .i64 op, .int .i64 num, .int .i64 day, .slice (some ⟨b, 0, none⟩) kids.length (kids.length + 3)] 24)) #[.int .i64 op, .int .i64 num, .int .i64 day, .slice ka kids.length kc] 24)
        rw [World.size_alloc] at this
        exact this)
      have H2 := Lib.hid (show Bk w2 w.heap.size #[.int .i64 op, .int .i64 num, .int .i64 day, .slice (some ⟨b, 0, none⟩) kids.length (kids.length + 3)] 24 by
        rw [← hw2]; exact (Bk.new w _ _).alloc _)
      have z2 : w2.heap.size = w.heap.size + 1 + 1 := by rw [← hw2]; simp
      have HW2 := Lib.hid hw2
      have HC := Lib.hid hc
      have HM' := Lib.hid hm
      have HU := Lib.hid hU
      have HBK := Lib.hid (show Bk w b cur 24 from hb)
      have hbw : b < w.heap.size := HBK.out.lt
      have n0 : ¬ (kids.length : Int) = 0 := by omega
      clear hw2 hc hm hU hb
      go_enter Try.func11, Try.ntmps11
      go_wp2
      rw [HW2.out]
      clear HW2
      go_loopw [5] (fun t wr => ∃ i : Nat, i ≤ kids.length ∧ t = .int .i64 i ∧ Below w2.heap.size w2 wr) (fun t _ => kids.length - (intOf t).toNat)
      case atStart => exact ⟨0, by omega, rfl, Below.refl _ _⟩
      case round =>
        obtain ⟨i, hi, rfl, hR⟩ := hrel
        have RR := Lib.hid hR
        have EE := Lib.hid (E2.out.below hR (by omega))
        have HH := Lib.hid (H2.out.below hR (by omega))
        have e3 := EE.out.cell 3
        have h3 := HH.out.cell 3
        simp at e3 h3
        have BW := Lib.hid (B2.out.trans (hR.mono B2.out.size))
        by_cases il : i < kids.length
        · have ic : (i : Int) < (kids.length : Int) := by omega
          have B0 := Lib.hid (HB.out.trans (BW.out.mono HB.out.size))
          obtain ⟨x, of, rfl, hx, hc⟩ := HR.out.at B0.out (by omega)
          have c0 := hc i il 0 (by omega)
          have c1 := hc i il 1 (by omega)
          have c2 := hc i il 2 (by omega)
          have c3 := hc i il 3 (by omega)
          obtain ⟨v0, v1, v2, v3, hv⟩ := (HK.out i il).four
          obtain ⟨o', m', t', a', n', k', hu⟩ := (HU.out i il).form
          have HBW := Lib.hid (HBK.out.below BW.out hbw)
          have d0 := (HBW.out.cell (i * 4)).trans (HC.out i il 0 (by omega))
          have d1 := (HBW.out.cell (i * 4 + 1)).trans (HC.out i il 1 (by omega))
          have d2 := (HBW.out.cell (i * 4 + 2)).trans (HC.out i il 2 (by omega))
          have d3 := (HBW.out.cell (i * 4 + 3)).trans (HC.out i il 3 (by omega))
          rw [hv] at c0 c1 c2 c3
          rw [hu] at d0 d1 d2 d3
          simp only [List.getD_cons_succ, List.getD_cons_zero, Nat.add_zero] at c0 c1 c2 c3 d0 d1 d2 d3
          have I1 := fun W (hW : Below wr.heap.size wr W) => IH.out i il W lo (U i) (B0.out.trans (hW.mono B0.out.size)) (((HU.out i il).later BW.out).later hW)
          rw [hv, hu] at I1
          have IQ := Lib.hid I1
          clear hc I1 hR
          go_wp2
          go_region_law (first
            | (go_simp; go_at_call 11; refine (IQ.out _ ((Below.refl _ _).drew)).mono ?_; rintro e' w5 ⟨rfl, hb5⟩; have B5 := Lib.hid (show Below wr.heap.size wr w5 from ((Below.refl _ _).drew).trans hb5); clear hb5))
          all_goals
            go_wp2
            go_roundw
            case rel => exact ⟨i + 1, by omega, by go_num, RR.out.trans (B5.out.mono RR.out.size)⟩
            case measure => simp [intOf]; omega
        · obtain rfl : i = kids.length := by omega
          clear hR
          go_wp2
          try rw [show (((kids.length : Int)) == 0) = false by simpa using n0]
          have HBW := Lib.hid (HBK.out.below BW.out hbw)
          go_loopw [8] (fun t w' => ∃ i : Nat, kids.length ≤ i ∧ i ≤ kids.length + 3 ∧ t = .int .i64 i ∧ w' = wr) (fun t _ => kids.length + 3 - (intOf t).toNat)
          case atStart => exact ⟨kids.length, by omega, by omega, rfl, rfl⟩
          case round =>
            obtain ⟨i, hi1, hi2, rfl, rfl⟩ := hrel
            by_cases il : i < kids.length + 3
            · have ic : (i : Int) < (kids.length : Int) + 3 := by omega
              obtain ⟨m0, m1, m2, m3⟩ := HM'.out i hi1 il
              have d0 := (HBW.out.cell (i * 4)).trans m0
              have d1 := (HBW.out.cell (i * 4 + 1)).trans m1
              have d2 := (HBW.out.cell (i * 4 + 2)).trans m2
              have d3 := (HBW.out.cell (i * 4 + 3)).trans m3
              clear m0 m1 m2 m3
              go_wp2
              go_roundw
              case rel => exact ⟨i + 1, by omega, by omega, by go_num, by first | trivial | rfl⟩
              case measure => simp [intOf]; omega
            · obtain rfl : i = kids.length + 3 := by omega
              go_wp2
              exact bodyPost_ret (v := .bool true) (by simp [results, Try.results11, go_sem]) rfl ⟨rfl, BW.out⟩
end Go.Proofs.Ytjlnbhmiahegmaa
