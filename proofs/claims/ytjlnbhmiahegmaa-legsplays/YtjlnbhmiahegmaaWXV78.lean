/-
  WALKS: legs.Value: the deferred function that recovers; value.
-/
import Derived.Test.YtjlnbhmiahegmaaWXV6
import Derived.Test.YtjlnbhmiahegmaaWX3
import Derived.Tactics
import Derived.Tactics2
import Derived.Defers
import Derived.Recover
import Derived.Laws.Pointers
namespace Go.Proofs.Ytjlnbhmiahegmaa
open Go.RowKit
set_option linter.unusedVariables false
set_option linter.unusedSimpArgs false

theorem faultOf_nil (w : World) : Calls Try.prog 26 #[.nilIface] w fun e w' => e = .returned (.int .i64 0) ∧ w' = w := by
  go_enter Try.func26, Try.ntmps26
  go_wp2
  go_ret
  exact ⟨rfl, rfl⟩
set_option maxRecDepth 100000 in
theorem assert_f (f : Int) (W : World) : (Instr.typeAssert (.iface 31 (.int .i64 f)) 20 31 true).run Try.prog W = .ok (.tuple #[.int .i64 f, .bool true]) W := rfl
set_option maxRecDepth 100000 in
theorem faultOf_f (f : Int) (w : World) : Calls Try.prog 26 #[.iface 31 (.int .i64 f)] w fun e w' => e = .returned (.int .i64 f) ∧ w' = w := by
  have ht := assert_f f
  go_enter Try.func26, Try.ntmps26
  go_wp2
  go_ret
  exact ⟨rfl, rfl⟩
set_option maxRecDepth 100000 in
theorem catch_panicking (pv pf : Nat) (f x y : Int) (hf : ¬ f = 0) (hne : ¬ pv = pf) (w : World) (hc : w.cell? ⟨pv, 0, none⟩ = some (.int .i64 x)) (hz : w.frozen? ⟨pv, 0, none⟩ = false) (hc' : w.cell? ⟨pf, 0, none⟩ = some (.int .i64 y)) (hz' : w.frozen? ⟨pf, 0, none⟩ = false) :
    CallsD Try.prog 25 #[.pointer (some ⟨pv, 0, none⟩), .pointer (some ⟨pf, 0, none⟩)] (.panicking ({ v := .iface 31 (.int .i64 f), recovered := false } :: [])) w fun e u' w' =>
      e = .returned (.tuple #[]) ∧ u' = .panicking ({ v := .iface 31 (.int .i64 f), recovered := true } :: []) ∧ w' = (w.setCell ⟨pv, 0, none⟩ (.int .i64 0)).setCell ⟨pf, 0, none⟩ (.int .i64 f) := by
  have hf1 : (f != 0) = true := by simpa using hf
  refine callsD_of_wpS Try.func25 rfl fun c₀ cs hu => ?_
  apply wpS_seq
  apply wpS_region
  simp [wpOpsS, go_sem, recoverD, hu, Try.ntmps25, Exit.thenS]
  refine (faultOf_f f w).mono ?_
  rintro e w1 ⟨rfl, rfl⟩
  simp only []
  apply wpS_seq
  apply wpS_region
  simp [wpOpsS, go_sem, Exit.thenS, hf1]
  refine wpS_cond (t := true) (by simp [Act.eval, Array.replicate, hf]) ?_
  simp only [if_true]
  apply wpS_region
  simp [wpOpsS, go_sem, hc, hz, hc', hz', hne, bodyPostS, results, Try.results25]
set_option maxRecDepth 100000 in
theorem catch_idle (pv pf : Nat) (w : World) :
    CallsD Try.prog 25 #[.pointer (some ⟨pv, 0, none⟩), .pointer (some ⟨pf, 0, none⟩)] .returning w fun e u' w' => e = .returned (.tuple #[]) ∧ u' = .returning ∧ w' = w := by
  refine callsD_of_wpS Try.func25 rfl fun c₀ cs hu => ?_
  apply wpS_seq
  apply wpS_region
  simp [wpOpsS, go_sem, recoverD, hu, Try.ntmps25, Exit.thenS]
  refine (faultOf_nil w).mono ?_
  rintro e w1 ⟨rfl, rfl⟩
  simp only []
  apply wpS_seq
  apply wpS_region
  simp [wpOpsS, go_sem, Exit.thenS]
  refine wpS_cond (t := false) (by simp [Act.eval, Array.replicate]) ?_
  simp only [Bool.false_eq_true, if_false]
  refine wpS_of_wp (wp_skip ?_)
  cases c₀
  simp_all [bodyPostS, results, Try.results25]
/-- value: an expression that is not too great. -/
theorem value_any {w0 : World} {e : Xt} {vs : List Value} (hE : XV w0 e vs) {wp : Nat} {ra ca : Option Addr} {rn rc cn cc : Nat} {rs : List Rw} {C : List Int} (hR : ∀ r ∈ Rws rs, ∀ c ∈ r, inR c.v) (hC : ∀ x ∈ C, inR x) (hN : e.n ≤ 1048576)
    (w : World) (p q : Nat) (hB : Below w0.heap.size w0 w) (hW : WS w wp ra ca rn rc cn cc rs C) (hc : ∀ j, j < 4 → w.cell? ⟨p, q + j, none⟩ = some (vs.getD j default)) :
      Calls Try.prog 27 #[.pointer (some ⟨wp, 0, none⟩), .pointer (some ⟨p, q, none⟩)] w fun e' w' => EvE (e.val (Rws rs) C) e' ∧ Below w.heap.size w w' := by
  obtain ⟨v0, v1, v2, v3, hv⟩ := hE.four
  have c0 := hc 0 (by omega)
  have c1 := hc 1 (by omega)
  have c2 := hc 2 (by omega)
  have c3 := hc 3 (by omega)
  have KN := Lib.hid (nodes_any hE w hB hN)
  have hp : p < w.heap.size := World.block_lt_of_cell? w ⟨p, q, none⟩ (by rw [Nat.add_zero] at c0; exact c0)
  have KL := Lib.hid (fun W (b : Below w.heap.size w W) => look_any hE hR hC W p q (hB.trans (b.mono hB.size)) (hW.later b) (fun j hj => (b.cell (p := ⟨p, q + j, none⟩) hp).trans (hc j hj)))
  have hn1 : ¬ (1048576 : Int) < (e.n : Int) := by omega
  rw [hv] at c0 c1 c2 c3 KN
  simp only [List.getD_cons_succ, List.getD_cons_zero, Nat.add_zero] at c0 c1 c2 c3
  generalize e.n = N at *
  generalize e.val (Rws rs) C = r at *
  clear hE hB hW hc hN
  go_enter Try.func27, Try.ntmps27
  go_wp2_with fail
  go_at_call 36
  refine KN.out.mono ?_
  rintro e' w1 ⟨rfl, b1⟩
  have B1 := Lib.hid b1
  clear b1
  go_wp2_with fail
  go_at_call 37
  refine (KL.out _ B1.out).mono ?_
  rintro e' w2 ⟨he, b2⟩
  have B2 := Lib.hid (B1.out.trans (b2.mono B1.out.size))
  clear b2
  rcases he with ⟨z, rfl⟩ | ⟨z1, z2, rfl⟩
  · go_wp2
    go_ret
    exact ⟨.inl ⟨z, rfl⟩, B2.out⟩
  · unfold pnc
    go_wp2
    exact ⟨rfl, .inr ⟨z1, z2, rfl⟩, B2.out⟩
end Go.Proofs.Ytjlnbhmiahegmaa

namespace Go.Proofs.Ytjlnbhmiahegmaa
open Go.RowKit
set_option linter.unusedVariables false
set_option linter.unusedSimpArgs false

set_option maxRecDepth 100000 in
set_option maxHeartbeats 1000000 in
theorem lvalue_any {w0 : World} {e : Xt} {vs : List Value} (hE : XV w0 e vs) {ra ca : Option Addr} {rn rc cn cc : Nat} {rs : List Rw} {C : List Int} (hR : ∀ r ∈ Rws rs, ∀ c ∈ r, inR c.v) (hN : e.n ≤ 1048576)
    (w : World) (hB : Below w0.heap.size w0 w) (hrl : RL w ra rn rs) (hil : IL w ca cn C) :
      Calls Try.prog 9 #[.agg vs.toArray, .slice ra rn rc, .slice ca cn cc] w fun e' w' => e' = .returned (.tuple #[.int .i64 (e.val (Rws rs) C).1, .int .i64 (e.val (Rws rs) C).2]) ∧ Below w.heap.size w w' := by
  obtain ⟨v0, v1, v2, v3, hv⟩ := hE.four
  subst hv
  have hmf : ∀ (fn : Fn) (first cap : Array Value) (w : World), (Instr.makeFunc fn first cap).run Try.prog w = .ok (.func fn first cap) w := fun _ _ _ _ => rfl
  obtain ⟨w4, hw4⟩ : ∃ w4, (((w.alloc (.cells #[v0, v1, v2, v3] 24)).alloc (.cells #[.int .i64 0] 3)).alloc (.cells #[.int .i64 0] 31)).alloc (.cells #[.slice ra rn rc, .slice ca cn cc] 62) = w4 := ⟨_, rfl⟩
  have X4 := Lib.hid (show Below w.heap.size w w4 ∧ Bk w4 w.heap.size #[v0, v1, v2, v3] 24 ∧ Bk w4 (w.heap.size + 1) #[.int .i64 0] 3 ∧ Bk w4 (w.heap.size + 1 + 1) #[.int .i64 0] 31 ∧ Bk w4 (w.heap.size + 1 + 1 + 1) #[.slice ra rn rc, .slice ca cn cc] 62 by
    subst hw4
    refine ⟨((((Below.refl _ _).alloc (Nat.le_refl _) _).alloc (by simp) _).alloc (by simp; omega) _).alloc (by simp; omega) _, (((Bk.new w _ _).alloc _).alloc _).alloc _, ?_, ?_, ?_⟩
    · have := ((Bk.new (w.alloc (.cells #[v0, v1, v2, v3] 24)) #[.int .i64 0] 3).alloc (.cells #[.int .i64 0] 31)).alloc (.cells #[.slice ra rn rc, .slice ca cn cc] 62)
      rw [World.size_alloc] at this
      exact this
    · have := (Bk.new ((w.alloc (.cells #[v0, v1, v2, v3] 24)).alloc (.cells #[.int .i64 0] 3)) #[.int .i64 0] 31).alloc (.cells #[.slice ra rn rc, .slice ca cn cc] 62)
      rw [World.size_alloc, World.size_alloc] at this
      exact this
    · have := Bk.new (((w.alloc (.cells #[v0, v1, v2, v3] 24)).alloc (.cells #[.int .i64 0] 3)).alloc (.cells #[.int .i64 0] 31)) #[.slice ra rn rc, .slice ca cn cc] 62
      rw [World.size_alloc, World.size_alloc, World.size_alloc] at this
      exact this)
  have KV := Lib.hid (value_any (wp := w.heap.size + 1 + 1 + 1) (ra := ra) (ca := ca) (rn := rn) (rc := rc) (cn := cn) (cc := cc) (rs := rs) (C := C) hE hR hil.2.2.1 hN w4 w.heap.size 0 (hB.trans (X4.out.1.mono hB.size)) ⟨by rw [X4.out.2.2.2.2.cell]; rfl, by rw [X4.out.2.2.2.2.cell]; rfl, hrl.later X4.out.1, hil.later X4.out.1⟩ (fun j hj => by
    rw [Nat.zero_add, X4.out.2.1.cell]
    match j, hj with
    | 0, _ => rfl
    | 1, _ => rfl
    | 2, _ => rfl
    | 3, _ => rfl))
  have HW4 := Lib.hid hw4
  generalize e.val (Rws rs) C = r at *
  obtain ⟨rv, rf⟩ := r
  clear hw4 hE hB hrl hil hN hR
  go_enter_defers Try.func9, Try.ntmps9
  go_wp2_with fail
  rw [HW4.out]
  go_at_call 27
  refine KV.out.mono ?_
  rintro e' w5 ⟨he, b5⟩
  have B5 := Lib.hid (X4.out.1.trans (b5.mono X4.out.1.size))
  have V5 := Lib.hid (X4.out.2.2.1.below b5 X4.out.2.2.1.lt)
  have F5 := Lib.hid (X4.out.2.2.2.1.below b5 X4.out.2.2.2.1.lt)
  have cv := V5.out.cell 0
  have cf := F5.out.cell 0
  have zv := V5.out.frozen 0
  have zf := F5.out.frozen 0
  simp at cv cf
  clear b5
  rcases he with ⟨z, rfl⟩ | ⟨z1, z2, rfl⟩
  · simp only at z
    subst z
    have V6 := Lib.hid ((V5.out.set 0 (.int .i64 rv) (by simp)).other (w.heap.size + 1 + 1) 0 (.int .i64 0) (by omega))
    have F6 := Lib.hid ((F5.out.other (w.heap.size + 1) 0 (.int .i64 rv) (by omega)).set 0 (.int .i64 0) (by simp))
    have B6 := Lib.hid ((B5.out.setCell (p := ⟨w.heap.size + 1, 0, none⟩) (by simp) (.int .i64 rv)).setCell (p := ⟨w.heap.size + 1 + 1, 0, none⟩) (by simp; omega) (.int .i64 0))
    go_wp2
    refine leaves_cons (f := 25) (args := #[.pointer (some ⟨w.heap.size + 1, 0, none⟩), .pointer (some ⟨w.heap.size + 1 + 1, 0, none⟩)]) (by simp) (by simp [go_sem]) ?_
    refine (catch_idle _ _ _).mono ?_
    rintro e u' w'' ⟨rfl, rfl, rfl⟩
    have k0 := V6.out.cell 0
    have k1 := F6.out.cell 0
    simp only [Array.getElem?_set, List.getElem?_toArray] at k0 k1
    simp [Leaves, settle, results, Try.results9, go_sem, k0, k1]
    exact B6.out
  · simp only at z1 z2
    subst z2
    unfold pnc
    have V6 := Lib.hid ((V5.out.set 0 (.int .i64 0) (by simp)).other (w.heap.size + 1 + 1) 0 (.int .i64 rf) (by omega))
    have F6 := Lib.hid ((F5.out.other (w.heap.size + 1) 0 (.int .i64 0) (by omega)).set 0 (.int .i64 rf) (by simp))
    have B6 := Lib.hid ((B5.out.setCell (p := ⟨w.heap.size + 1, 0, none⟩) (by simp) (.int .i64 0)).setCell (p := ⟨w.heap.size + 1 + 1, 0, none⟩) (by simp; omega) (.int .i64 rf))
    have KC := Lib.hid (catch_panicking (w.heap.size + 1) (w.heap.size + 1 + 1) rf 0 0 z1 (by omega) w5 cv zv cf zf)
    go_wp2
    refine leaves_cons (f := 25) (args := #[.pointer (some ⟨w.heap.size + 1, 0, none⟩), .pointer (some ⟨w.heap.size + 1 + 1, 0, none⟩)]) (by simp) (by simp [go_sem]) ?_
    refine KC.out.mono ?_
    rintro e u' w'' ⟨rfl, rfl, rfl⟩
    have k0 := V6.out.cell 0
    have k1 := F6.out.cell 0
    simp only [Array.getElem?_set, List.getElem?_toArray] at k0 k1
    simp [Leaves, settle, results, Try.results9, go_sem, k0, k1]
    exact B6.out
end Go.Proofs.Ytjlnbhmiahegmaa
