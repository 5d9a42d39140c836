/-
  WALKS: readInstr, the other ways.
-/
import Derived.Test.YtdbjdieegocdfaaDoorWCodeC
namespace Go.Proofs.YtdbjdieegocdfaaDoor
open Go.RowKit
set_option linter.unusedVariables false
set_option linter.unusedSimpArgs false

theorem drop_cons {xs : List Int} {k : Nat} (h : k < xs.length) : xs.drop k = xs.getD k 0 :: xs.drop (k + 1) := by
  rw [List.drop_eq_getElem_cons h]; congr 1; simp [List.getD, h]
theorem sl_one {w : World} {v : Value} {B : Nat} {c : Int} (h : Own w B v 1 [c]) (hc : 0 ≤ c ∧ c ≤ 255) : ∃ b o cap, v = .slice (some ⟨b, o, none⟩) 1 cap ∧ w.cell? ⟨b, o, none⟩ = some (.int .u8 c) := by
  obtain ⟨a, cap, rfl, hs⟩ := own_sl h (by simp; exact hc) (by omega)
  rcases hs.1.2.2.2 with q | ⟨b, o, rfl, _, hcell⟩
  · omega
  · exact ⟨b, o, cap, rfl, by simpa using hcell 0 (by omega)⟩
set_option maxRecDepth 100000 in
set_option maxHeartbeats 1000000 in
theorem readInstr_noOp (B p : Nat) (a : Option Addr) (n cap : Nat) (xs : List Int) (k : Nat) (w : World) (h : RB w B p a n cap xs k) (hk : k < n) (c : Int) (hc : xs.getD k 0 = c) (h29 : 29 ≤ c) (hR : Rws w) (hG : 0 < p) :
    Calls Tryd.prog 28 #[.pointer (some ⟨p, 0, none⟩)] w fun e w' => RdE w B p a n cap xs k e w' := by
  have hd : xs.drop k = c :: xs.drop (k + 1) := by rw [← hc]; exact drop_cons (by have := h.len; omega)
  have cb : 0 ≤ c ∧ c ≤ 255 := h.byte c (List.mem_of_mem_drop (by rw [hd]; simp))
  have DE := Lib.hid (p := dec1 (xs.drop k) = (⟨0, 0, 0⟩, 111, 0, 0)) (by rw [hd, dec1, if_pos h29])
  have plt := h.lt
  have OL := Lib.hid h.lt2
  have S0 := Lib.hid (p := RS w (w.alloc z3) B p a n cap xs k) ⟨h.later (below_gr ((Below.refl _ _).alloc (Nat.le_refl _) _) none), below_gr ((Below.refl _ _).alloc (Nat.le_refl _) _) _⟩
  have X0 := Lib.hid (heap_new w z3)
  have KP := Lib.hid (place_any B p a n cap xs k (w.alloc z3) S0.out.rd)
  have KT := Lib.hid (fun W (q : RB W B p a n cap xs k) => take_ok B p a n cap xs k 1 W q (by omega))
  have TK := Lib.hid (p := (xs.drop k).take 1 = [c]) (by rw [hd]; rfl)
  rw [TK.out] at KT
  have KR := Lib.hid (fun W => rowOf_out c W (.inr h29))
  have cw : IntKind.i64.wrap c = c := wrap_id (by omega)
  have CB := Lib.hid cb
  clear h hd hR hc cb h29 TK
  unfold z3 at *
  go_enter Tryd.func28, Tryd.ntmps28
  go_wp2_with (first
    | (go_at_call 30; refine KP.out.mono ?_; rintro e w1 ⟨rfl, h1⟩; have S1 := Lib.hid (S0.out.later h1); have X1 := Lib.hid (grown_block h1 X0.out (by simp)); clear h1)
    | (go_at_call 34; refine (KT.out _ S1.out.rd).mono ?_; rintro e w2 ⟨v2, rfl, h1, h2, h3⟩; have S2 := Lib.hid (S1.out.turn h2 h3); have X2 := Lib.hid (RS.box h3 X1.out (Nat.le_refl _) plt); obtain ⟨sb, so, sc, hv2, hc2⟩ := sl_one h1 CB.out; subst hv2; clear h1 h2 h3)
    | (go_at_call 22; refine (KR.out _).mono ?_; rintro e w3 ⟨rfl, h1⟩; have S3 := Lib.hid ((S2.out.below h1).below ((Below.refl _ _).alloc (Nat.le_refl _) (.cells #[.string ⟨#[]⟩, .int .u8 0, .int .u8 0, .int .u8 0, .int .i32 0, .int .i32 0] 50))); have X3 := Lib.hid ((Below.heap_alloc w3 (.cells #[.string ⟨#[]⟩, .int .u8 0, .int .u8 0, .int .u8 0, .int .i32 0, .int .i32 0] 50) _ (Nat.lt_of_lt_of_le (Array.getElem?_eq_some_iff.1 X2.out).1 h1.size)).trans (box_stay X2.out h1)); obtain ⟨b0, b1, b2⟩ := box3 X3.out; obtain ⟨f0, f1, f2⟩ := frz3 X3.out; clear h1))
  obtain ⟨r0, r1, r2⟩ := box3 (set3 (a' := .int .i64 0) (b' := .int .i64 0) (c' := .int .i64 0) X3.out)
  have S4 := ((S3.out.set (Nat.le_refl _) plt OL.out 0 (.int .i64 0)).set (Nat.le_refl _) plt OL.out 1 (.int .i64 0)).set (Nat.le_refl _) plt OL.out 2 (.int .i64 0)
  exact bodyPost_ret (v := .tuple #[.agg #[.int .i64 0, .int .i64 0, .int .i64 0], .int .i64 (k : Int), .int .i64 111]) (by simp [results, Tryd.results28, go_sem, r0, r1, r2]) rfl ⟨by rw [rdV_of DE.out]; simp, ⟨k + 1, S4.rd, fun e => by rw [DE.out] at e; simp at e⟩, S4.gr⟩
end Go.Proofs.YtdbjdieegocdfaaDoor
