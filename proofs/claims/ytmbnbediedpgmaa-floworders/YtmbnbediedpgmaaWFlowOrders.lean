/-
  WALK: FlowOrders.
-/
import Derived.Test.YtmbnbediedpgmaaWFlow2
namespace Go.Proofs.Ytmbnbediedpgmaa
open Go.RowKit
set_option linter.unusedVariables false
set_option linter.unusedSimpArgs false

structure Bx (w W : World) (f g : Fl) : Prop where
  a0 : W.cell? ⟨w.heap.size, 0, none⟩ = some (.int .i64 f.d)
  a1 : W.cell? ⟨w.heap.size, 1, none⟩ = some (.string f.c)
  a2 : W.cell? ⟨w.heap.size, 2, none⟩ = some (.int .i64 f.a)
  b0 : W.cell? ⟨w.heap.size + 1, 0, none⟩ = some (.int .i64 g.d)
  b1 : W.cell? ⟨w.heap.size + 1, 1, none⟩ = some (.string g.c)
  b2 : W.cell? ⟨w.heap.size + 1, 2, none⟩ = some (.int .i64 g.a)
  bel : Below w.heap.size w W
  sz : w.heap.size + 2 ≤ W.heap.size
theorem Bx.later {w W W' : World} {f g : Fl} (h : Bx w W f g) (b : Below W.heap.size W W') : Bx w W' f g :=
  have z := h.sz
  ⟨box3 b _ (by omega) _ h.a0, box3 b _ (by omega) _ h.a1, box3 b _ (by omega) _ h.a2, box3 b _ (by omega) _ h.b0, box3 b _ (by omega) _ h.b1, box3 b _ (by omega) _ h.b2, h.bel.trans (b.mono (by omega)), by have := b.size; omega⟩

set_option maxHeartbeats 2000000 in
theorem flowOrders_walk (d a d' a' : Int) (c c' : ByteArray) (w : World) (hs : c.size ≤ maxLen) :
    Calls Try.prog 4 #[.agg #[.int .i64 d, .string c, .int .i64 a], .agg #[.int .i64 d', .string c', .int .i64 a']] w fun e w' => e = .returned (.bool true) ∧ Below w.heap.size w w' := by
  have K0 := fun W => valid_any d a c W hs
  have K1 := fun W => rValid_any d a c W hs
  have K2 := fun W => compare_any d a d' a' c c' W
  have K3 := fun W => rCompare_any d a d' a' c c' W
  generalize valI ⟨d, c, a⟩ = x at *
  generalize cmpF ⟨d, c, a⟩ ⟨d', c', a'⟩ = y at *
  have B0 : Bx w ((w.alloc (.cells #[.int .i64 d, .string c, .int .i64 a] 32)).alloc (.cells #[.int .i64 d', .string c', .int .i64 a'] 32)) ⟨d, c, a⟩ ⟨d', c', a'⟩ :=
    ⟨by go_simp, by go_simp, by go_simp, by go_simp, by go_simp, by go_simp, ((Below.refl _ _).alloc (Nat.le_refl _) _).alloc (by simp) _, by simp⟩
  go_enter Try.func4, Try.ntmps4
  go_wp2
  go_region_held3 (fun w' => w'.cell? ⟨w.heap.size, 0, none⟩ = some (.int .i64 d) ∧ w'.cell? ⟨w.heap.size, 1, none⟩ = some (.string c) ∧ w'.cell? ⟨w.heap.size, 2, none⟩ = some (.int .i64 a) ∧ w'.cell? ⟨w.heap.size + 1, 0, none⟩ = some (.int .i64 d') ∧ w'.cell? ⟨w.heap.size + 1, 1, none⟩ = some (.string c') ∧ w'.cell? ⟨w.heap.size + 1, 2, none⟩ = some (.int .i64 a'))
    (refine ⟨?_, ?_, ?_, ?_, ?_, ?_⟩ <;> first | assumption | (go_simp; done))
    (first
    | (go_at_call 12; refine (K0 _).mono ?_; rintro e w1 ⟨rfl, h1⟩; have X := (B0.later (Below.refl _ _).drew).later h1; obtain ⟨p0, p1, p2, p3, p4, p5, p6, p7⟩ := id X)
    | (go_at_call 13; refine (K1 _).mono ?_; rintro e w2 ⟨rfl, h2⟩; have Y := X.later h2; obtain ⟨q0, q1, q2, q3, q4, q5, q6, q7⟩ := id Y)
    | (go_at_call 14; refine (K2 _).mono ?_; rintro e w3 ⟨rfl, h3⟩; have Z := Y.later h3; obtain ⟨r0, r1, r2, r3, r4, r5, r6, r7⟩ := id Z)
    | (go_at_call 15; refine (K3 _).mono ?_; rintro e w4 ⟨rfl, h4⟩; have V := Z.later h4; obtain ⟨s0, s1, s2, s3, s4, s5, s6, s7⟩ := id V))
  all_goals go_wp2
  all_goals go_ret
  all_goals exact ⟨rfl, V.bel⟩
end Go.Proofs.Ytmbnbediedpgmaa
