/-
  WALK: legs.copyOf.
-/
import Derived.Test.YtmhfegdjcdnneaaWX6
import Derived.Laws.MakeOwn
namespace Go.Proofs.Ytmhfegdjcdnneaa
open Go.RowKit
set_option linter.unusedVariables false
set_option linter.unusedSimpArgs false

theorem make_xs (W : World) (n : Nat) (hn : n ≤ 1048576) : (Instr.makeSlice 22 (.int .i64 (n : Int)) (.int .i64 (n : Int))).run Try.prog W = .ok (.slice (some ⟨W.heap.size, 0, none⟩) n n) (W.alloc (.cells (madeCells #[.int .i64 0, .int .i64 0, .int .i64 0, .slice none 0 0] (n * 4)) 24)) := by
  obtain ⟨i0, hi, hz0, hz1, hz2⟩ := info_parts infoX
  have := run_make (P := Try.prog) W 22 24 i0 _ Try.underlying22 hi hz0 .i64 .i64 n n (by omega) (by omega) (by rw [hz2]; omega) (by omega)
  rw [hz1] at this
  simpa [Value.cells] using this
theorem Bk.some4 {w : World} {b : Nat} {cur : Array Value} {t : TypeId} (h : Bk w b cur t) (k : Nat) (hk : k + 3 < cur.size) : (∃ v, w.cell? ⟨b, k, none⟩ = some v) ∧ (∃ v, w.cell? ⟨b, k + 1, none⟩ = some v) ∧ (∃ v, w.cell? ⟨b, k + 2, none⟩ = some v) ∧ (∃ v, w.cell? ⟨b, k + 3, none⟩ = some v) := by
  rw [h.cell, h.cell, h.cell, h.cell]
  exact ⟨⟨cur[k], by simp⟩, ⟨cur[k + 1], by simp⟩, ⟨cur[k + 2], by simp⟩, ⟨cur[k + 3], by simp [hk]⟩⟩
theorem XO.form {w : World} {lo hi : Nat} {e : Xt} {vs : List Value} (h : XO w lo hi e vs) : ∃ a b c d n k, vs = [.int .i64 a, .int .i64 b, .int .i64 c, .slice d n k] := by
  cases h; exact ⟨_, _, _, _, _, _, rfl⟩
/-- While it is copied. -/
structure CM (w wr : World) (op num day : Int) (kids : List Xt) (i : Nat) (V : Nat → List Value) (L H : Nat → Nat) (cur : Array Value) : Prop where
  bel : Below w.heap.size w wr
  r : Bk wr w.heap.size #[.int .i64 0, .int .i64 0, .int .i64 0, .slice none 0 0] 24
  x : Bk wr (w.heap.size + 1) #[.int .i64 op, .int .i64 num, .int .i64 day, .slice (some ⟨w.heap.size + 1 + 1, 0, none⟩) kids.length kids.length] 24
  b : Bk wr (w.heap.size + 1 + 1) cur 24
  sz : cur.size = kids.length * 4
  done : ∀ j, j < i → ∀ c, c < 4 → cur[j * 4 + c]? = some ((V j).getD c default)
  rng : ∀ j, j < i → w.heap.size + 3 ≤ L j ∧ H j ≤ wr.heap.size
  ord : ∀ j k, j < k → k < i → H j ≤ L k
  kids : ∀ j, j < i → XO wr (L j) (H j) (kids.getD j default) (V j)
theorem CM.later {w wr w' : World} {op num day : Int} {kids : List Xt} {i : Nat} {V : Nat → List Value} {L H : Nat → Nat} {cur : Array Value} (h : CM w wr op num day kids i V L H cur) (b : Below wr.heap.size wr w') : CM w w' op num day kids i V L H cur :=
  ⟨h.bel.trans (b.mono h.bel.size), h.r.below b h.r.lt, h.x.below b h.x.lt, h.b.below b h.b.lt, h.sz, h.done, fun j hj => ⟨(h.rng j hj).1, Nat.le_trans (h.rng j hj).2 b.size⟩, h.ord, fun j hj => (h.kids j hj).later b (h.rng j hj).2⟩
theorem CM.next {w wr w5 : World} {op num day : Int} {kids : List Xt} {i : Nat} {V : Nat → List Value} {L H : Nat → Nat} {cur : Array Value} (h : CM w wr op num day kids i V L H cur) (hi : i < kids.length) (b5 : Below wr.heap.size wr w5) {v0 v1 v2 v3 : Value} (hx : XO w5 wr.heap.size w5.heap.size (kids.getD i default) [v0, v1, v2, v3]) :
    ∃ V' L' H' cur', CM w ((((w5.setCell ⟨w.heap.size + 1 + 1, i * 4, none⟩ v0).setCell ⟨w.heap.size + 1 + 1, i * 4 + 1, none⟩ v1).setCell ⟨w.heap.size + 1 + 1, i * 4 + 2, none⟩ v2).setCell ⟨w.heap.size + 1 + 1, i * 4 + 3, none⟩ v3) op num day kids (i + 1) V' L' H' cur' := by
  have h5 := h.later b5
  have hlt := h.b.lt
  obtain ⟨cur', q1, q2, q3, q4, q5, q6, q7⟩ := h5.b.set4 (i * 4) v0 v1 v2 v3 (by have := h.sz; omega)
  have hk : ∀ k, k ≠ w.heap.size + 1 + 1 → ((((w5.setCell ⟨w.heap.size + 1 + 1, i * 4, none⟩ v0).setCell ⟨w.heap.size + 1 + 1, i * 4 + 1, none⟩ v1).setCell ⟨w.heap.size + 1 + 1, i * 4 + 2, none⟩ v2).setCell ⟨w.heap.size + 1 + 1, i * 4 + 3, none⟩ v3).heap[k]? = w5.heap[k]? := fun k hk => by
    rw [heap_set_other _ _ _ _ _ (Ne.symm hk), heap_set_other _ _ _ _ _ (Ne.symm hk), heap_set_other _ _ _ _ _ (Ne.symm hk), heap_set_other _ _ _ _ _ (Ne.symm hk)]
  refine ⟨fun j => if j = i then [v0, v1, v2, v3] else V j, fun j => if j = i then wr.heap.size else L j, fun j => if j = i then w5.heap.size else H j, cur', ?_, (hk _ (by omega)).trans h5.r, (hk _ (by omega)).trans h5.x, q1, q2.trans h.sz, fun j hj c hc => ?_, fun j hj => ?_, fun j k hjk hk' => ?_, fun j hj => ?_⟩
  · exact (((h5.bel.setCell (p := ⟨w.heap.size + 1 + 1, i * 4, none⟩) (by simp; omega) _).setCell (p := ⟨w.heap.size + 1 + 1, i * 4 + 1, none⟩) (by simp; omega) _).setCell (p := ⟨w.heap.size + 1 + 1, i * 4 + 2, none⟩) (by simp; omega) _).setCell (p := ⟨w.heap.size + 1 + 1, i * 4 + 3, none⟩) (by simp; omega) _
  · by_cases e : j = i
    · subst e
      simp only [if_true]
      match c, hc with
      | 0, _ => exact q4
      | 1, _ => exact q5
      | 2, _ => exact q6
      | 3, _ => exact q7
    · simp only [if_neg e]
      rw [q3 _ (by omega)]
      exact h.done j (by omega) c hc
  · simp only [World.size_setCell]
    by_cases e : j = i
    · subst e; simp only [if_true]; omega
    · simp only [if_neg e]; exact h5.rng j (by omega)
  · by_cases e : k = i
    · subst e
      simp only [if_true, if_neg (show ¬ j = k by omega)]
      exact (h.rng j hjk).2
    · simp only [if_neg e, if_neg (show ¬ j = i by omega)]
      exact h.ord j k hjk (by omega)
  · by_cases e : j = i
    · subst e
      simp only [if_true]
      exact hx.keep (fun k h1 h2 => hk k (by omega))
    · simp only [if_neg e]
      exact (h5.kids j (by omega)).keep (fun k h1 h2 => hk k (by have := h.rng j (by omega); omega))
/-- All kids are there. -/
theorem CM.xo {w wr : World} {op num day : Int} {kids : List Xt} {V : Nat → List Value} {L H : Nat → Nat} {cur : Array Value} (h : CM w wr op num day kids kids.length V L H cur) (wop : i64 op) (wnum : i64 num) (wday : i64 day) (hn : kids.length ≤ 1048576) :
    XO wr (w.heap.size + 1 + 1) wr.heap.size (.mk op num day kids) [.int .i64 op, .int .i64 num, .int .i64 day, .slice (some ⟨w.heap.size + 1 + 1, 0, none⟩) kids.length kids.length] :=
  .mk V L H wop wnum wday ⟨fun e => (by cases e), Nat.le_refl _, by unfold maxLen; omega⟩ (by omega) (.inr ⟨_, rfl, Nat.le_refl _, h.b.lt, ⟨cur, h.b, h.done⟩, fun i hi e => by have := h.rng i hi; omega⟩) (fun i hi => ⟨by have := (h.rng i hi).1; omega, (h.rng i hi).2⟩) h.ord h.kids
set_option maxHeartbeats 1000000 in
theorem copyOf_any {w0 : World} {e : Xt} {vs : List Value} (hE : XV w0 e vs) : ∀ (w : World) (p q : Nat), Below w0.heap.size w0 w → e.n ≤ 1048576 → (∀ j, j < 4 → w.cell? ⟨p, q + j, none⟩ = some (vs.getD j default)) →
    Calls Try.prog 32 #[.pointer (some ⟨p, q, none⟩)] w (NwP e w) := by
  induction hE with
  | @mk op num day kids ka kc V wop wnum wday hk hn hr hkids ih =>
    intro w p q hB hN hc
    have N1 := Lib.hid (show 1 + Xt.ns kids ≤ 1048576 by simpa [Xt.n] using hN)
    have n1 : kids.length ≤ 1048576 := by have := N1.out; have := ns_len kids; omega
    have c0 := hc 0 (by omega)
    have c1 := hc 1 (by omega)
    have c2 := hc 2 (by omega)
    have c3 := hc 3 (by omega)
    simp only [List.getD_cons_succ, List.getD_cons_zero, Nat.add_zero] at c0 c1 c2 c3
    have hp : p < w.heap.size := World.block_lt_of_cell? w ⟨p, q, none⟩ c0
    have hp1 : ¬ p = w.heap.size := by omega
    have hp2 : ¬ p = w.heap.size + 1 := by omega
    have hp3 : ¬ p = w.heap.size + 1 + 1 := by omega
    have hp4 : p < w.heap.size + 1 := by omega
    have hp5 : p < w.heap.size + 1 + 1 := by omega
    have C3 := Lib.hid c3
    have IH := Lib.hid ih
    have HR := Lib.hid hr
    have HK := Lib.hid hkids
    have HB := Lib.hid hB
    have WW := Lib.hid (And.intro wop (And.intro wnum wday))
    obtain ⟨w3, hw3⟩ : ∃ w3, ((w.alloc (.cells #[.int .i64 0, .int .i64 0, .int .i64 0, .slice none 0 0] 24)).alloc (.cells #[.int .i64 op, .int .i64 num, .int .i64 day, .slice (some ⟨w.heap.size + 1 + 1, 0, none⟩) kids.length kids.length] 24)).alloc (.cells (madeCells #[.int .i64 0, .int .i64 0, .int .i64 0, .slice none 0 0] (kids.length * 4)) 24) = w3 := ⟨_, rfl⟩
    have S3 := Lib.hid (show CM w w3 op num day kids 0 (fun _ => []) (fun _ => 0) (fun _ => 0) (madeCells #[.int .i64 0, .int .i64 0, .int .i64 0, .slice none 0 0] (kids.length * 4)) by
      subst hw3
      refine ⟨(((Below.refl _ _).alloc (Nat.le_refl _) _).alloc (by simp) _).alloc (by simp; omega) _, ((Bk.new w _ _).alloc _).alloc _, ?_, ?_, by simp [madeCells], fun j hj => absurd hj (by omega), fun j hj => absurd hj (by omega), fun j k _ hk => absurd hk (by omega), fun j hj => absurd hj (by omega)⟩
      · have := (Bk.new (w.alloc (.cells #[.int .i64 0, .int .i64 0, .int .i64 0, .slice none 0 0] 24)) #[.int .i64 op, .int .i64 num, .int .i64 day, .slice (some ⟨w.heap.size + 1 + 1, 0, none⟩) kids.length kids.length] 24).alloc (.cells (madeCells #[.int .i64 0, .int .i64 0, .int .i64 0, .slice none 0 0] (kids.length * 4)) 24)
        rw [World.size_alloc] at this
        exact this
      · have := Bk.new ((w.alloc (.cells #[.int .i64 0, .int .i64 0, .int .i64 0, .slice none 0 0] 24)).alloc (.cells #[.int .i64 op, .int .i64 num, .int .i64 day, .slice (some ⟨w.heap.size + 1 + 1, 0, none⟩) kids.length kids.length] 24)) (madeCells #[.int .i64 0, .int .i64 0, .int .i64 0, .slice none 0 0] (kids.length * 4)) 24
        rw [World.size_alloc, World.size_alloc] at this
        exact this)
    have HW3 := Lib.hid hw3
    clear hw3 ih hr hkids hB hN hk wop wnum wday hc
    have MK := fun W => make_xs W kids.length n1
    go_enter Try.func32, Try.ntmps32
    go_wp2
    rw [HW3.out]
    clear HW3 MK c0 c1 c2 c3
    go_loopw [20] (fun t wr => ∃ (i : Nat), i ≤ kids.length ∧ t = .int .i64 i ∧ ∃ V' L H cur, CM w wr op num day kids i V' L H cur) (fun t _ => kids.length - (intOf t).toNat)
    case atStart => exact ⟨0, by omega, rfl, _, _, _, _, S3.out⟩
    case round =>
      clear S3
      obtain ⟨i, hi, rfl, V', L, H, cur, hS⟩ := hrel
      have SS := Lib.hid hS
      by_cases il : i < kids.length
      · have ic : (i : Int) < (kids.length : Int) := by omega
        have BW := Lib.hid (HB.out.trans (hS.bel.mono HB.out.size))
        have c3 := (hS.bel.cell (p := ⟨p, q + 3, none⟩) hp).trans C3.out
        obtain ⟨x, of, rfl, hx, hc⟩ := HR.out.at BW.out (by omega)
        have I1 := IH.out i il wr.drew x (of + i * 4) BW.out.drew (by have := N1.out; have := Xt.ns_take kids i il; have := Xt.ns_le_take kids (i + 1); omega) (fun j hj => by rw [World.cell?_drew]; exact hc i il j hj)
        have IQ := Lib.hid I1
        have y3 := hS.x.cell 3
        simp at y3
        clear hc I1 hS
        go_wp2
        go_region_law (first
          | (go_simp; go_at_call 32; refine IQ.out.mono ?_; rintro e' w5 ⟨vs', rfl, hx5, hb5⟩; obtain ⟨o', m', t', a', n', k', rfl⟩ := hx5.form; have X5 := Lib.hid hx5; have B5 := Lib.hid (show Below wr.heap.size wr w5 from ((Below.refl _ _).drew).trans hb5); have S5 := Lib.hid (SS.out.later B5.out); have z3 := S5.out.x.cell 3; simp at z3; obtain ⟨d0, d1, d2, d3⟩ := S5.out.b.some4 (i * 4) (by have := S5.out.sz; omega); obtain ⟨y0, d0⟩ := d0; obtain ⟨y1, d1⟩ := d1; obtain ⟨y2, d2⟩ := d2; obtain ⟨y3', d3⟩ := d3; have f0 := S5.out.b.frozen (i * 4); have f1 := S5.out.b.frozen (i * 4 + 1); have f2 := S5.out.b.frozen (i * 4 + 2); have f3 := S5.out.b.frozen (i * 4 + 3); have o1 := X5.out.one; clear hx5 hb5))
        all_goals
          go_wp2
          go_roundw
          case rel => exact ⟨i + 1, by omega, by go_num, SS.out.next il B5.out X5.out⟩
          case measure => simp [intOf]; omega
      · obtain rfl : i = kids.length := by omega
        have XX := Lib.hid (hS.xo WW.out.1 WW.out.2.1 WW.out.2.2 n1)
        have x0 := hS.x.cell 0
        have x1 := hS.x.cell 1
        have x2 := hS.x.cell 2
        have x3 := hS.x.cell 3
        have r0 := hS.r.cell 0
        have r1 := hS.r.cell 1
        have r2 := hS.r.cell 2
        have r3 := hS.r.cell 3
        have g0 := hS.r.frozen 0
        have g1 := hS.r.frozen 1
        have g2 := hS.r.frozen 2
        have g3 := hS.r.frozen 3
        have RR := Lib.hid ((((hS.r.set 0 (.int .i64 op) (by simp)).set 1 (.int .i64 num) (by simp)).set 2 (.int .i64 day) (by simp)).set 3 (.slice (some ⟨w.heap.size + 1 + 1, 0, none⟩) kids.length kids.length) (by simp))
        simp at x0 x1 x2 x3 r0 r1 r2 r3
        clear hS
        go_wp2
        have k0 := RR.out.cell 0
        have k1 := RR.out.cell 1
        have k2 := RR.out.cell 2
        have k3 := RR.out.cell 3
        simp only [Array.getElem?_set, List.getElem?_toArray] at k0 k1 k2 k3
        refine bodyPost_ret (v := .agg #[.int .i64 op, .int .i64 num, .int .i64 day, .slice (some ⟨w.heap.size + 1 + 1, 0, none⟩) kids.length kids.length]) (by simp [results, Try.results32, go_sem, k0, k1, k2, k3]) rfl ?_
        refine ⟨_, rfl, ?_, ?_⟩
        · rw [World.size_setCell, World.size_setCell, World.size_setCell, World.size_setCell]
          exact (XX.out.keep (fun k h1 h2 => by rw [heap_set_other _ _ _ _ _ (by omega), heap_set_other _ _ _ _ _ (by omega), heap_set_other _ _ _ _ _ (by omega), heap_set_other _ _ _ _ _ (by omega)])).wide (by omega) (Nat.le_refl _)
        · exact (((SS.out.bel.setCell (p := ⟨w.heap.size, 0, none⟩) (by simp) _).setCell (p := ⟨w.heap.size, 1, none⟩) (by simp) _).setCell (p := ⟨w.heap.size, 2, none⟩) (by simp) _).setCell (p := ⟨w.heap.size, 3, none⟩) (by simp) _
end Go.Proofs.Ytmhfegdjcdnneaa
