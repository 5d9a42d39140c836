/-
  WALKS: expressions of legs: how deep, how many.
-/
import Derived.Test.YtjlnbhmiahegmaaRows
import Derived.Test.YtjlnbhmiahegmaaOpenX
import Derived.WalkKit
import Derived.WalkSpells
import Derived.BigCall
import Derived.BigGuard
import Derived.BigQuiet
import Derived.Deep.QuietTactic
import Derived.Lib.Hide
import Derived.Deep.RegionHeld3
namespace Go.Proofs.Ytjlnbhmiahegmaa
open Go.RowKit
set_option linter.unusedVariables false
set_option linter.unusedSimpArgs false

mutual
def Xt.n : Xt → Nat
  | .mk _ _ _ ks => 1 + Xt.ns ks
def Xt.ns : List Xt → Nat
  | [] => 0
  | e :: r => e.n + Xt.ns r
end
theorem Xt.ns_take : ∀ (l : List Xt) (k : Nat), k < l.length → Xt.ns (l.take (k + 1)) = Xt.ns (l.take k) + (l.getD k default).n
  | e :: r, 0, _ => by simp [Xt.ns]
  | e :: r, k + 1, h => by
    have := Xt.ns_take r k (by simpa using h)
    simp only [List.take_succ_cons, Xt.ns, List.getD_cons_succ] at this ⊢
    omega
/-- A thing of a row, cell by cell, later. -/
theorem Row.at {w w' : World} {a : Option Addr} {n k : Nat} {V : Nat → List Value} (h : Row w a n k V) (b : Below w.heap.size w w') (hn : 0 < n) : ∃ x o, a = some ⟨x, o, none⟩ ∧ x < w.heap.size ∧ ∀ i, i < n → ∀ j, j < k → w'.cell? ⟨x, o + i * k + j, none⟩ = some ((V i).getD j default) := by
  have h0 := h
  rcases h.later b with h | ⟨x, o, e, _, hc⟩
  · omega
  · rcases h0 with h0 | ⟨x', o', e', hx, _⟩
    · omega
    · rw [e] at e'; injection e' with e'; injection e' with e1 e2; subst e1; exact ⟨x, o, e, hx, hc⟩
/-- An expression that was handed over, in its box. -/
structure XB (w : World) (q : Nat) (v0 v1 v2 v3 : Value) : Prop where
  c0 : w.cell? ⟨q, 0, none⟩ = some v0
  c1 : w.cell? ⟨q, 1, none⟩ = some v1
  c2 : w.cell? ⟨q, 2, none⟩ = some v2
  c3 : w.cell? ⟨q, 3, none⟩ = some v3
  lt : q < w.heap.size
theorem XB.later {w w' : World} {q v0 v1 v2 v3} (h : XB w q v0 v1 v2 v3) (b : Below w.heap.size w w') : XB w' q v0 v1 v2 v3 :=
  ⟨(b.cell (p := ⟨q, 0, none⟩) h.lt).trans h.c0, (b.cell (p := ⟨q, 1, none⟩) h.lt).trans h.c1, (b.cell (p := ⟨q, 2, none⟩) h.lt).trans h.c2, (b.cell (p := ⟨q, 3, none⟩) h.lt).trans h.c3, Nat.lt_of_lt_of_le h.lt b.size⟩
theorem XB.new (w : World) (v0 v1 v2 v3 : Value) (t : TypeId) : XB (w.alloc (.cells #[v0, v1, v2, v3] t)) w.heap.size v0 v1 v2 v3 := by
  refine ⟨?_, ?_, ?_, ?_, ?_⟩ <;> simp
/-- The world behind a box. -/
def NW (w : World) (vs : Array Value) (w1 : World) : Prop := w.alloc (.cells vs 24) = w1
theorem NW.is {w w1 : World} {v0 v1 v2 v3 : Value} (h : NW w #[v0, v1, v2, v3] w1) : Below w.heap.size w w1 ∧ XB w1 w.heap.size v0 v1 v2 v3 ∧ w1.heap.size = w.heap.size + 1 := by
  unfold NW at h
  subst h
  exact ⟨(Below.refl _ _).alloc (Nat.le_refl _) _, XB.new _ _ _ _ _ _, by simp⟩
def BlP (w : World) (e : Ending) (w' : World) : Prop := ∃ b : Bool, e = .returned (.bool b) ∧ Below w.heap.size w w'
set_option maxHeartbeats 400000 in
theorem deeper_any {w0 : World} {e : Xt} {vs : List Value} (hE : XV w0 e vs) : ∀ (room : Int) (w : World), Below w0.heap.size w0 w → 0 ≤ room → room ≤ 65536 →
    Calls Try.prog 21 #[.agg vs.toArray, .int .i64 room] w (BlP w) := by
  induction hE with
  | @mk op num day kids ka kc V wop wnum wday hk hn hr hkids ih =>
    intro room w hB h0 h1
    by_cases hb : room < 1
    · clear ih hr hkids
      go_enter Try.func21, Try.ntmps21
      go_wp2
      go_ret
      exact ⟨true, rfl, (Below.refl _ _).alloc (Nat.le_refl _) _⟩
    · obtain ⟨w1, hw1⟩ : ∃ w1, w.alloc (.cells #[.int .i64 op, .int .i64 num, .int .i64 day, .slice ka kids.length kc] 24) = w1 := ⟨_, rfl⟩
      obtain ⟨b1, x1, z1⟩ := NW.is hw1
      have B1 := Lib.hid b1
      have X1 := Lib.hid x1
      have IH := Lib.hid ih
      have HR := Lib.hid hr
      have HK := Lib.hid hkids
      clear b1 x1 ih hr hkids
      go_enter Try.func21, Try.ntmps21
      go_wp2
      try rw [hw1]
      go_loopw [5] (fun t wr => ∃ k : Nat, k ≤ kids.length ∧ t = .int .i64 k ∧ Below w1.heap.size w1 wr) (fun t _ => kids.length - (intOf t).toNat)
      case atStart => exact ⟨0, by omega, rfl, Below.refl _ _⟩
      case round =>
        obtain ⟨k, hk, rfl, hBr⟩ := hrel
        have c3 := (X1.out.later hBr).c3
        have BR := Lib.hid (B1.out.trans (hBr.mono B1.out.size))
        have BQ := Lib.hid hBr
        clear hBr
        by_cases kl : k < kids.length
        · have kc : (k : Int) < (kids.length : Int) := by omega
          have BW := Lib.hid (hB.trans (BR.out.mono hB.size))
          obtain ⟨x, of, rfl, hx, hc⟩ := HR.out.at BW.out (by omega)
          obtain ⟨v0, v1, v2, v3, hv⟩ := (HK.out k kl).four
          have e0 := hc k kl 0 (by omega)
          have e1 := hc k kl 1 (by omega)
          have e2 := hc k kl 2 (by omega)
          have e3 := hc k kl 3 (by omega)
          have I1 := IH.out k kl (room - 1) wr BW.out (by omega) (by omega)
          rw [hv] at e0 e1 e2 e3 I1
          simp only [List.getD_cons_succ, List.getD_cons_zero, Nat.add_zero] at e0 e1 e2 e3
          have IQ := Lib.hid I1
          have kw : IntKind.i64.wrap (room - 1) = room - 1 := by simp [IntKind.wrap, IntKind.bits, IntKind.signed]; omega
          clear hc hv I1
          go_wp2_with fail
          go_at_call 21
          refine IQ.out.mono ?_
          rintro e w' ⟨b, rfl, hb'⟩
          have B2 := Lib.hid (BR.out.trans (hb'.mono BR.out.size))
          have B3 := Lib.hid hb'
          clear hb'
          cases b with
          | true =>
            go_wp2
            go_ret
            exact ⟨true, rfl, B2.out⟩
          | false =>
            go_wp2
            exact ⟨⟨k + 1, by omega, by simp, BQ.out.trans (B3.out.mono BQ.out.size)⟩, by simp [intOf]; omega⟩
        · obtain rfl : k = kids.length := by omega
          go_wp2
          go_ret
          exact ⟨false, rfl, BR.out⟩
/-- What Few says: how many are left, if so many are there. -/
def FwP (n : Nat) (left : Int) (w : World) (e : Ending) (w' : World) : Prop := ∃ r : Int, e = .returned (.int .i64 r) ∧ (-1 ≤ r ∧ r ≤ left ∧ (0 ≤ r → r + n = left)) ∧ Below w.heap.size w w'
set_option maxHeartbeats 400000 in
theorem few_in {w0 : World} {e : Xt} {vs : List Value} (hE : XV w0 e vs) : ∀ (left : Int) (w : World), Below w0.heap.size w0 w → 0 ≤ left → left ≤ 1048576 →
    Calls Try.prog 22 #[.agg vs.toArray, .int .i64 left] w (FwP e.n left w) := by
  induction hE with
  | @mk op num day kids ka kc V wop wnum wday hk hn hr hkids ih =>
    intro left w hB h0 h1
    obtain ⟨w1, hw1⟩ : ∃ w1, w.alloc (.cells #[.int .i64 op, .int .i64 num, .int .i64 day, .slice ka kids.length kc] 24) = w1 := ⟨_, rfl⟩
    obtain ⟨b1, x1, z1⟩ := NW.is hw1
    have B1 := Lib.hid b1
    have X1 := Lib.hid x1
    have IH := Lib.hid ih
    have HR := Lib.hid hr
    have HK := Lib.hid hkids
    have kw : IntKind.i64.wrap (left - 1) = left - 1 := by simp [IntKind.wrap, IntKind.bits, IntKind.signed]; omega
    clear b1 x1 ih hr hkids
    go_enter Try.func22, Try.ntmps22
    go_wp2
    try rw [hw1]
    go_loopw [1, 5] (fun l t wr => ∃ (k : Nat) (r : Int), k ≤ kids.length ∧ t = .int .i64 k ∧ l = .int .i64 r ∧ RowKit.Hid (-1 ≤ r ∧ r ≤ left - 1 ∧ (0 ≤ r → r + 1 + Xt.ns (kids.take k) = left)) ∧ Below w1.heap.size w1 wr) (fun _ t _ => kids.length - (intOf t).toNat)
    case atStart => exact ⟨0, left - 1, by omega, rfl, rfl, ⟨by omega, by omega, fun _ => by simp [Xt.ns]⟩, Below.refl _ _⟩
    case round =>
      obtain ⟨k, r, hk, rfl, rfl, hI, hBr⟩ := hrel
      have c3 := (X1.out.later hBr).c3
      have BR := Lib.hid (B1.out.trans (hBr.mono B1.out.size))
      have BQ := Lib.hid hBr
      clear hBr
      by_cases kl : k < kids.length
      · have kc : (k : Int) < (kids.length : Int) := by omega
        by_cases r0 : 0 ≤ r
        · have BW := Lib.hid (hB.trans (BR.out.mono hB.size))
          obtain ⟨x, of, rfl, hx, hc⟩ := HR.out.at BW.out (by omega)
          obtain ⟨v0, v1, v2, v3, hv⟩ := (HK.out k kl).four
          have e0 := hc k kl 0 (by omega)
          have e1 := hc k kl 1 (by omega)
          have e2 := hc k kl 2 (by omega)
          have e3 := hc k kl 3 (by omega)
          have I1 := IH.out k kl r wr BW.out r0 (by have := hI.out; omega)
          rw [hv] at e0 e1 e2 e3 I1
          simp only [List.getD_cons_succ, List.getD_cons_zero, Nat.add_zero] at e0 e1 e2 e3
          have IQ := Lib.hid I1
          have NT := Lib.hid (Xt.ns_take kids k kl)
          clear hc hv I1
          go_wp2_with fail
          go_at_call 22
          refine IQ.out.mono ?_
          rintro e w' ⟨r', rfl, hr', hb'⟩
          have R' := Lib.hid hr'
          have B3 := Lib.hid hb'
          clear hb' hr'
          go_wp2
          exact ⟨⟨k + 1, r', by omega, by simp, rfl, ⟨R'.out.1, by have := hI.out; have := R'.out.2.1; omega, fun h => by have := hI.out.2.2 r0; have := R'.out.2.2 h; have := NT.out; omega⟩, BQ.out.trans (B3.out.mono BQ.out.size)⟩, by simp [intOf]; omega⟩
        · have r1 : r < 0 := by omega
          go_wp2
          go_ret
          exact ⟨r, rfl, ⟨hI.out.1, by have := hI.out; omega, fun h => absurd h (by omega)⟩, BR.out⟩
      · obtain rfl : k = kids.length := by omega
        go_wp2
        go_ret
        exact ⟨r, rfl, ⟨hI.out.1, by have := hI.out; omega, fun h => by have := hI.out.2.2 h; rw [List.take_length] at this; simp only [Xt.n]; omega⟩, BR.out⟩
def NdP (n : Nat) (w : World) (e : Ending) (w' : World) : Prop := e = .returned (.int .i64 n) ∧ Below w.heap.size w w'
theorem Xt.ns_le_take (l : List Xt) (k : Nat) : Xt.ns (l.take k) ≤ Xt.ns l := by
  induction l generalizing k with
  | nil => simp [Xt.ns]
  | cons e r ih => cases k with
    | zero => simp [Xt.ns]
    | succ k => have := ih k; simp only [List.take_succ_cons, Xt.ns]; omega
/-- The law's bound. -/
theorem few_any {w0 : World} {e : Xt} {vs : List Value} (hE : XV w0 e vs) (w : World) (hB : Below w0.heap.size w0 w) :
    Calls Try.prog 5 #[.agg vs.toArray] w fun e' w' => ∃ b : Bool, e' = .returned (.bool b) ∧ RowKit.Hid (b = true → e.n ≤ 1048576) ∧ Below w.heap.size w w' := by
  have HE := Lib.hid hE
  have HB := Lib.hid hB
  obtain ⟨v0, v1, v2, v3, hv⟩ := hE.four
  subst hv
  obtain ⟨w1, hw1⟩ : ∃ w1, w.alloc (.cells #[v0, v1, v2, v3] 24) = w1 := ⟨_, rfl⟩
  obtain ⟨b1, x1, z1⟩ := NW.is hw1
  have B1 := Lib.hid b1
  have c0 := x1.c0
  have c1 := x1.c1
  have c2 := x1.c2
  have c3 := x1.c3
  have X1 := Lib.hid x1
  clear hE hB b1 x1
  go_enter Try.func5, Try.ntmps5
  go_wp2_with fail
  go_at_call 21
  refine (deeper_any HE.out 65536 w1 (HB.out.trans (B1.out.mono HB.out.size)) (by omega) (by omega)).mono ?_
  rintro e' w2 ⟨b, rfl, hb⟩
  have B2 := Lib.hid (B1.out.trans (hb.mono B1.out.size))
  replace c0 := (X1.out.later hb).c0
  replace c1 := (X1.out.later hb).c1
  replace c2 := (X1.out.later hb).c2
  replace c3 := (X1.out.later hb).c3
  clear hb
  cases b with
  | true =>
    go_wp2
    go_ret
    exact ⟨false, rfl, (fun h => by cases h), B2.out⟩
  | false =>
    go_wp2_with fail
    go_at_call 22
    refine (few_in HE.out 1048576 w2 (HB.out.trans (B2.out.mono HB.out.size)) (by omega) (by omega)).mono ?_
    rintro e' w3 ⟨r, rfl, hr, hb⟩
    have R := Lib.hid hr
    have B3 := Lib.hid (B2.out.trans (hb.mono B2.out.size))
    clear hr hb
    go_wp2
    go_ret
    exact ⟨_, rfl, (fun h => by have h0 := R.out.2.2 (of_decide_eq_true h); have h1 : 0 ≤ r := of_decide_eq_true h; omega), B3.out⟩
theorem Xt.n_pos (e : Xt) : 1 ≤ e.n := by cases e; simp only [Xt.n]; omega
theorem ns_len : ∀ l : List Xt, l.length ≤ Xt.ns l
  | [] => by simp
  | e :: r => by have := ns_len r; have := e.n_pos; simp only [List.length_cons, Xt.ns]; omega
end Go.Proofs.Ytjlnbhmiahegmaa
