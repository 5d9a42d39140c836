/-
  CHECKWITHINS (own work): both answers are one.
-/
import Derived.Test.YtdoalgfmcbmefaaWWithin
import Derived.RowKit3
import Derived.Below
import Derived.BigCall
import Derived.BigGuard
import Derived.BigQuiet
import Derived.Deep.QuietTactic
import Derived.Deep.RegionHeld3
import Derived.Lib.Hide
import Derived.WalkSpells
import Derived.WalkKit
namespace Go.Proofs.Ytdoalgfmcbmefaa
open Go.RowKit

structure Bx7 (w W : World) (x0 x1 x2 x3 x4 x5 x6 : Int) : Prop where
  a0 : W.cell? ⟨w.heap.size, 0, none⟩ = some (.int .i64 x0)
  a1 : W.cell? ⟨w.heap.size, 1, none⟩ = some (.int .i64 x1)
  a2 : W.cell? ⟨w.heap.size, 2, none⟩ = some (.int .i64 x2)
  a3 : W.cell? ⟨w.heap.size, 3, none⟩ = some (.int .i64 x3)
  a4 : W.cell? ⟨w.heap.size, 4, none⟩ = some (.int .i64 x4)
  a5 : W.cell? ⟨w.heap.size, 5, none⟩ = some (.int .i64 x5)
  a6 : W.cell? ⟨w.heap.size, 6, none⟩ = some (.int .i64 x6)
  bel : Below w.heap.size w W
  sz : w.heap.size + 1 ≤ W.heap.size
theorem Bx7.later {w W W' : World} {x0 x1 x2 x3 x4 x5 x6 : Int} (h : Bx7 w W x0 x1 x2 x3 x4 x5 x6) (b : Below W.heap.size W W') : Bx7 w W' x0 x1 x2 x3 x4 x5 x6 :=
  have z := h.sz
  have k := fun (o : Nat) (v : Value) (e : W.cell? ⟨w.heap.size, o, none⟩ = some v) => (b.cell (p := ⟨w.heap.size, o, none⟩) (by show w.heap.size < _; omega)).trans e
  ⟨k 0 _ h.a0, k 1 _ h.a1, k 2 _ h.a2, k 3 _ h.a3, k 4 _ h.a4, k 5 _ h.a5, k 6 _ h.a6, h.bel.trans (b.mono (by omega)), by have := b.size; omega⟩

set_option maxHeartbeats 2000000 in
theorem checkWithins_go (x0 x1 x2 x3 x4 x5 x6 : Int) (w : World) :
    Calls Try.prog 3 #[.agg #[.int .i64 x0, .int .i64 x1, .int .i64 x2, .int .i64 x3, .int .i64 x4, .int .i64 x5, .int .i64 x6]] w fun e w' => e = .returned (.bool true) ∧ Below w.heap.size w w' := by
  have K0 := fun W => within_any x0 x1 x2 x3 x4 x5 x6 W
  have K1 := fun W => rWithin_any x0 x1 x2 x3 x4 x5 x6 W
  generalize wIn x0 x1 x2 x3 x4 x5 x6 = x at *
  have B0 : Bx7 w (w.alloc (.cells #[.int .i64 x0, .int .i64 x1, .int .i64 x2, .int .i64 x3, .int .i64 x4, .int .i64 x5, .int .i64 x6] 23)) x0 x1 x2 x3 x4 x5 x6 :=
    ⟨by go_simp, by go_simp, by go_simp, by go_simp, by go_simp, by go_simp, by go_simp, (Below.refl _ _).alloc (Nat.le_refl _) _, by simp⟩
  go_enter Try.func3, Try.ntmps3
  go_wp2
  go_region_held3 (fun w' => w'.cell? ⟨w.heap.size, 0, none⟩ = some (.int .i64 x0) ∧ w'.cell? ⟨w.heap.size, 1, none⟩ = some (.int .i64 x1) ∧ w'.cell? ⟨w.heap.size, 2, none⟩ = some (.int .i64 x2) ∧ w'.cell? ⟨w.heap.size, 3, none⟩ = some (.int .i64 x3) ∧ w'.cell? ⟨w.heap.size, 4, none⟩ = some (.int .i64 x4) ∧ w'.cell? ⟨w.heap.size, 5, none⟩ = some (.int .i64 x5) ∧ w'.cell? ⟨w.heap.size, 6, none⟩ = some (.int .i64 x6))
    (refine ⟨?_, ?_, ?_, ?_, ?_, ?_, ?_⟩ <;> first | assumption | (go_simp; done))
    (first
    | (go_at_call 4; refine (K0 _).mono ?_; rintro e w1 ⟨rfl, h1⟩; have X := (B0.later (Below.refl _ _).drew).later h1; obtain ⟨p0, p1, p2, p3, p4, p5, p6, p7, p8⟩ := id X)
    | (go_at_call 5; refine (K1 _).mono ?_; rintro e w2 ⟨rfl, h2⟩; have Y := X.later h2; obtain ⟨q0, q1, q2, q3, q4, q5, q6, q7, q8⟩ := id Y))
  all_goals go_wp2
  all_goals go_ret
  all_goals exact ⟨rfl, Y.bel⟩
end Go.Proofs.Ytdoalgfmcbmefaa
