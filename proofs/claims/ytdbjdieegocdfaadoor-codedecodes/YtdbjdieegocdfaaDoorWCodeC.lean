/-
  WALKS: readInstr.
-/
import Derived.Test.YtdbjdieegocdfaaDoorWCodeB
namespace Go.Proofs.YtdbjdieegocdfaaDoor
open Go.RowKit
set_option linter.unusedVariables false
set_option linter.unusedSimpArgs false

/-- What readInstr answers of bytes, at the place k. -/
def rdV (bs : List Int) (k : Nat) : Value := .tuple #[inV (dec1 bs).1, .int .i64 ((if (dec1 bs).2.1 = 0 then 0 else k + (dec1 bs).2.2.2 : Nat) : Int), .int .i64 (dec1 bs).2.1]
structure RdE (w : World) (B p : Nat) (a : Option Addr) (n cap : Nat) (xs : List Int) (k : Nat) (e : Ending) (w' : World) : Prop where
  ret : e = .returned (rdV (xs.drop k) k)
  rd : ∃ pos, RB w' B p a n cap xs pos ∧ ((dec1 (xs.drop k)).2.1 = 0 → pos = k + (dec1 (xs.drop k)).2.2.1)
  gr : Gr p w w'
theorem rdV_of {bs : List Int} {k : Nat} {i : In} {er : Int} {u pl : Nat} (h : dec1 bs = (i, er, u, pl)) : rdV bs k = .tuple #[inV i, .int .i64 ((if er = 0 then 0 else k + pl : Nat) : Int), .int .i64 er] := by unfold rdV; rw [h]
theorem box_stay {w w' : World} {q : Nat} {o : Obj} (h : w.heap[q]? = some o) (b : Below w.heap.size w w') : w'.heap[q]? = some o := (b.block q (Array.getElem?_eq_some_iff.1 h).1).trans h
def z3 : Obj := .cells #[.int .i64 0, .int .i64 0, .int .i64 0] 24
theorem set3 {w : World} {x : Nat} {a b c a' b' c' : Value} {t : TypeId} (h : w.heap[x]? = some (.cells #[a, b, c] t)) : (((w.setCell ⟨x, 0, none⟩ a').setCell ⟨x, 1, none⟩ b').setCell ⟨x, 2, none⟩ c').heap[x]? = some (.cells #[a', b', c'] t) := by
  have h0 : (w.setCell ⟨x, 0, none⟩ a').heap[x]? = some (.cells #[a', b, c] t) := Joins.block_setCell (i := 0) h a'
  generalize w.setCell ⟨x, 0, none⟩ a' = w at h0 ⊢
  have h1 : (w.setCell ⟨x, 1, none⟩ b').heap[x]? = some (.cells #[a', b', c] t) := Joins.block_setCell (i := 1) h0 b'
  generalize w.setCell ⟨x, 1, none⟩ b' = w at h1 ⊢
  exact Joins.block_setCell (i := 2) h1 c'
theorem frz3 {w : World} {x : Nat} {a b c : Value} {t : TypeId} (h : w.heap[x]? = some (.cells #[a, b, c] t)) : w.frozen? ⟨x, 0, none⟩ = false ∧ w.frozen? ⟨x, 1, none⟩ = false ∧ w.frozen? ⟨x, 2, none⟩ = false := by
  refine ⟨?_, ?_, ?_⟩ <;> simp [World.frozen?, h]
theorem frz2 {w : World} {x : Nat} {a b : Value} {t : TypeId} (h : w.heap[x]? = some (.cells #[a, b] t)) : w.frozen? ⟨x, 0, none⟩ = false ∧ w.frozen? ⟨x, 1, none⟩ = false := by
  refine ⟨?_, ?_⟩ <;> simp [World.frozen?, h]
set_option maxRecDepth 100000 in
set_option maxHeartbeats 1000000 in
theorem readInstr_end (B p : Nat) (a : Option Addr) (n cap : Nat) (xs : List Int) (k : Nat) (w : World) (h : RB w B p a n cap xs k) (hk : n = k) :
    Calls Tryd.prog 28 #[.pointer (some ⟨p, 0, none⟩)] w fun e w' => RdE w B p a n cap xs k e w' := by
  have hd : xs.drop k = [] := List.drop_eq_nil_of_le (by have := h.len; omega)
  have DE := Lib.hid (p := dec1 (xs.drop k) = (⟨0, 0, 0⟩, 41, 0, 0)) (by rw [hd]; rfl)
  have plt := h.lt
  have OL := Lib.hid h.lt2
  have S0 := Lib.hid (p := RS w (w.alloc z3) B p a n cap xs k) ⟨h.later (below_gr ((Below.refl _ _).alloc (Nat.le_refl _) _) none), below_gr ((Below.refl _ _).alloc (Nat.le_refl _) _) _⟩
  have X0 := Lib.hid (heap_new w z3)
  have KP := Lib.hid (place_any B p a n cap xs k (w.alloc z3) S0.out.rd)
  have KT := Lib.hid (fun W (q : RB W B p a n cap xs k) => take_short B p a n cap xs k 1 W q (by omega))
  clear h hd
  unfold z3 at *
  go_enter Tryd.func28, Tryd.ntmps28
  go_wp2_with (first
    | (go_at_call 30; refine KP.out.mono ?_; rintro e w1 ⟨rfl, h1⟩; have S1 := Lib.hid (S0.out.later h1); have X1 := Lib.hid (grown_block h1 X0.out (by simp)); clear h1)
    | (go_at_call 34; refine (KT.out _ S1.out.rd).mono ?_; rintro e w2 ⟨rfl, h1⟩; have S2 := Lib.hid (S1.out.later h1); have X2 := Lib.hid (grown_block h1 X1.out (by simp)); obtain ⟨b0, b1, b2⟩ := box3 X2.out; obtain ⟨f0, f1, f2⟩ := frz3 X2.out; clear h1))
  obtain ⟨r0, r1, r2⟩ := box3 (set3 (a' := .int .i64 0) (b' := .int .i64 0) (c' := .int .i64 0) X2.out)
  have S3 := ((S2.out.set (Nat.le_refl _) plt OL.out 0 (.int .i64 0)).set (Nat.le_refl _) plt OL.out 1 (.int .i64 0)).set (Nat.le_refl _) plt OL.out 2 (.int .i64 0)
  exact bodyPost_ret (v := .tuple #[.agg #[.int .i64 0, .int .i64 0, .int .i64 0], .int .i64 (k : Int), .int .i64 41]) (by simp [results, Tryd.results28, go_sem, r0, r1, r2]) rfl ⟨by rw [rdV_of DE.out]; simp, ⟨k, S3.rd, fun e => by rw [DE.out] at e; simp at e⟩, S3.gr⟩
end Go.Proofs.YtdbjdieegocdfaaDoor
