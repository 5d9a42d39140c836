/-
  WALKS: the table of the instructions (code): rowOf, Name, Operands, Effect, allows, Valid.
-/
import Derived.Test.YteedkcmjhdabeaaDoorRows
import Derived.Test.YteedkcmjhdabeaaDoorPlainDec
import Derived.WalkKit
import Derived.WalkSpells
import Derived.Below
import Derived.BigCall
import Derived.BigGuard
import Derived.BigQuiet
import Derived.Deep.QuietTactic
import Derived.Deep.RegionHeld3
import Derived.Lib.LaidTab
import Derived.Lib.Hide
import Derived.Lib.SmallJoins
namespace Go.Proofs.YteedkcmjhdabeaaDoor
open Go.RowKit
set_option linter.unusedVariables false
set_option linter.unusedSimpArgs false

/-- The table, where the world holds it. -/
def Rws (w : World) : Prop := 1 < w.heap.size ∧ ∀ k : Nat, k < 29 → w.cell? ⟨1, k * 6, none⟩ = some (.string (nmA k)) ∧ w.cell? ⟨1, k * 6 + 1, none⟩ = some (.int .u8 (onA k : Int)) ∧ w.cell? ⟨1, k * 6 + 2, none⟩ = some (.int .u8 (tkA k : Int)) ∧ w.cell? ⟨1, k * 6 + 3, none⟩ = some (.int .u8 (ptA k : Int)) ∧ w.cell? ⟨1, k * 6 + 4, none⟩ = some (.int .i32 (baA k : Int)) ∧ w.cell? ⟨1, k * 6 + 5, none⟩ = some (.int .i32 (bbA k : Int))
theorem Rws.later {w w' : World} {n : Nat} (h : Rws w) (b : Below n w w') (hn : w.heap.size ≤ n) : Rws w' := by
  refine ⟨Nat.lt_of_lt_of_le h.1 b.size, fun k hk => ?_⟩
  have g : ∀ o, w'.cell? ⟨1, o, none⟩ = w.cell? ⟨1, o, none⟩ := fun o => b.cell (p := ⟨1, o, none⟩) (Nat.lt_of_lt_of_le h.1 hn)
  rw [g, g, g, g, g, g]
  exact h.2 k hk
theorem Rws.alloc {w : World} (h : Rws w) (c : Obj) : Rws (w.alloc c) := h.later ((Below.refl _ _).alloc (Nat.le_refl _) _) (Nat.le_refl _)
theorem Rws.below {w w' : World} (h : Rws w) (b : Below w.heap.size w w') : Rws w' := h.later b (Nat.le_refl _)

theorem heap_new (w : World) (o : Obj) : (w.alloc o).heap[w.heap.size]? = some o := by show (w.heap.push o)[w.heap.size]? = _; simp
theorem box_all6 {w : World} {x : Nat} {a b c d e f : Value} {t : TypeId} (h : w.heap[x]? = some (.cells #[a, b, c, d, e, f] t)) : w.cell? ⟨x, 0, none⟩ = some a ∧ w.cell? ⟨x, 1, none⟩ = some b ∧ w.cell? ⟨x, 2, none⟩ = some c ∧ w.cell? ⟨x, 3, none⟩ = some d ∧ w.cell? ⟨x, 4, none⟩ = some e ∧ w.cell? ⟨x, 5, none⟩ = some f := by
  refine ⟨?_, ?_, ?_, ?_, ?_, ?_⟩ <;> simp [World.cell?, h]
theorem box_set6 {w : World} {x : Nat} {a b c d e f a' b' c' d' e' f' : Value} {t : TypeId} (h : w.heap[x]? = some (.cells #[a, b, c, d, e, f] t)) : ((((((w.setCell ⟨x, 0, none⟩ a').setCell ⟨x, 1, none⟩ b').setCell ⟨x, 2, none⟩ c').setCell ⟨x, 3, none⟩ d').setCell ⟨x, 4, none⟩ e').setCell ⟨x, 5, none⟩ f').heap[x]? = some (.cells #[a', b', c', d', e', f'] t) := by
  have h0 : (w.setCell ⟨x, 0, none⟩ a').heap[x]? = some (.cells #[a', b, c, d, e, f] t) := Joins.block_setCell (i := 0) h a'
  generalize w.setCell ⟨x, 0, none⟩ a' = w at h0 ⊢
  have h1 : (w.setCell ⟨x, 1, none⟩ b').heap[x]? = some (.cells #[a', b', c, d, e, f] t) := Joins.block_setCell (i := 1) h0 b'
  generalize w.setCell ⟨x, 1, none⟩ b' = w at h1 ⊢
  have h2 : (w.setCell ⟨x, 2, none⟩ c').heap[x]? = some (.cells #[a', b', c', d, e, f] t) := Joins.block_setCell (i := 2) h1 c'
  generalize w.setCell ⟨x, 2, none⟩ c' = w at h2 ⊢
  have h3 : (w.setCell ⟨x, 3, none⟩ d').heap[x]? = some (.cells #[a', b', c', d', e, f] t) := Joins.block_setCell (i := 3) h2 d'
  generalize w.setCell ⟨x, 3, none⟩ d' = w at h3 ⊢
  have h4 : (w.setCell ⟨x, 4, none⟩ e').heap[x]? = some (.cells #[a', b', c', d', e', f] t) := Joins.block_setCell (i := 4) h3 e'
  generalize w.setCell ⟨x, 4, none⟩ e' = w at h4 ⊢
  have h5 : (w.setCell ⟨x, 5, none⟩ f').heap[x]? = some (.cells #[a', b', c', d', e', f'] t) := Joins.block_setCell (i := 5) h4 f'
  exact h5
theorem below6 {B : Nat} {w0 w : World} {g : Nat} (h : Below B w0 w) (hg : B ≤ g) (a0 a1 a2 a3 a4 a5 : Value) :
    Below B w0 ((((((w.setCell ⟨g, 0, none⟩ a0).setCell ⟨g, 1, none⟩ a1).setCell ⟨g, 2, none⟩ a2).setCell ⟨g, 3, none⟩ a3).setCell ⟨g, 4, none⟩ a4).setCell ⟨g, 5, none⟩ a5) :=
  ((((((h.setCell (p := ⟨g, 0, none⟩) hg _).setCell (p := ⟨g, 1, none⟩) hg _).setCell (p := ⟨g, 2, none⟩) hg _).setCell (p := ⟨g, 3, none⟩) hg _).setCell (p := ⟨g, 4, none⟩) hg _).setCell (p := ⟨g, 5, none⟩) hg _)

theorem below_dr2 {B : Nat} {a w : World} (h : Below B a w) : Below B a w.drew := ⟨h.os, h.tape, h.output, h.size, h.block⟩
/-- A row, as a value. -/
abbrev rowV (n : ByteArray) (o t p a b : Int) : Value := .agg #[.string n, .int .u8 o, .int .u8 t, .int .u8 p, .int .i32 a, .int .i32 b]
def zr : Obj := .cells #[.string ⟨#[]⟩, .int .u8 0, .int .u8 0, .int .u8 0, .int .i32 0, .int .i32 0] 82
set_option maxHeartbeats 1000000 in
theorem rowOf_in (k : Nat) (hk : k < 29) (w : World) (h : Rws w) :
    Calls Tryd.prog 28 #[.int .i64 (k : Int)] w fun e w' => e = .returned (.tuple #[rowV (nmA k) (onA k : Int) (tkA k : Int) (ptA k : Int) (baA k : Int) (bbA k : Int), .int .i64 0]) ∧ Below w.heap.size w w' := by
  obtain ⟨c0, c1, c2, c3, c4, c5⟩ := (h.alloc zr).2 k hk
  unfold zr at c0 c1 c2 c3 c4 c5
  generalize nmA k = n at *
  generalize ((onA k : Nat) : Int) = o at *
  generalize ((tkA k : Nat) : Int) = t at *
  generalize ((ptA k : Nat) : Int) = p at *
  generalize ((baA k : Nat) : Int) = a at *
  generalize ((bbA k : Nat) : Int) = b at *
  clear h
  have k0 : ¬ (k : Int) < 0 := by omega
  have k1 : decide (29 ≤ k) = false := by simp; omega
  have k2 : decide ((29 : Int) ≤ (k : Int)) = false := by simp; omega
  go_enter Tryd.func28, Tryd.ntmps28
  go_wp2
  obtain ⟨r0, r1, r2, r3, r4, r5⟩ := box_all6 (heap_new w (.cells #[.string n, .int .u8 o, .int .u8 t, .int .u8 p, .int .i32 a, .int .i32 b] 82))
  exact bodyPost_ret (v := .tuple #[rowV n o t p a b, .int .i64 0]) (by simp [results, Tryd.results28, go_sem, r0, r1, r2, r3, r4, r5]) rfl ⟨rfl, (Below.refl w.heap.size w).alloc (Nat.le_refl _) _⟩
set_option maxHeartbeats 1000000 in
theorem rowOf_out (op : Int) (w : World) (h : op < 0 ∨ 29 ≤ op) :
    Calls Tryd.prog 28 #[.int .i64 op] w fun e w' => e = .returned (.tuple #[rowV ⟨#[]⟩ 0 0 0 0 0, .int .i64 111]) ∧ Below w.heap.size w w' := by
  have R := Lib.hid (box_all6 (heap_new w (.cells #[.string ⟨#[]⟩, .int .u8 0, .int .u8 0, .int .u8 0, .int .i32 0, .int .i32 0] 82)))
  by_cases k0 : op < 0
  · clear h
    go_enter Tryd.func28, Tryd.ntmps28
    go_wp2
    obtain ⟨r0, r1, r2, r3, r4, r5⟩ := R.out
    exact bodyPost_ret (v := .tuple #[rowV ⟨#[]⟩ 0 0 0 0 0, .int .i64 111]) (by simp [results, Tryd.results28, go_sem, r0, r1, r2, r3, r4, r5]) rfl ⟨rfl, (Below.refl w.heap.size w).alloc (Nat.le_refl _) _⟩
  · have k1 : (29 : Int) ≤ op := by omega
    clear h
    go_enter Tryd.func28, Tryd.ntmps28
    go_wp2
    obtain ⟨r0, r1, r2, r3, r4, r5⟩ := R.out
    exact bodyPost_ret (v := .tuple #[rowV ⟨#[]⟩ 0 0 0 0 0, .int .i64 111]) (by simp [results, Tryd.results28, go_sem, r0, r1, r2, r3, r4, r5]) rfl ⟨rfl, (Below.refl w.heap.size w).alloc (Nat.le_refl _) _⟩

/-- What the table says of a number. -/
structure RowE (op : Int) (n : ByteArray) (o t p a b er : Int) : Prop where
  say : (∃ k : Nat, k < 29 ∧ op = (k : Int) ∧ n = nmA k ∧ o = (onA k : Int) ∧ t = (tkA k : Int) ∧ p = (ptA k : Int) ∧ a = (baA k : Int) ∧ b = (bbA k : Int) ∧ er = 0) ∨ ((op < 0 ∨ 29 ≤ op) ∧ n = ⟨#[]⟩ ∧ o = 0 ∧ t = 0 ∧ p = 0 ∧ a = 0 ∧ b = 0 ∧ er = 111)
theorem row_ex (op : Int) : ∃ n o t p a b er, RowE op n o t p a b er := by
  by_cases h : op < 0 ∨ 29 ≤ op
  · exact ⟨_, _, _, _, _, _, _, ⟨.inr ⟨h, rfl, rfl, rfl, rfl, rfl, rfl, rfl⟩⟩⟩
  · exact ⟨_, _, _, _, _, _, _, ⟨.inl ⟨op.toNat, by omega, by omega, rfl, rfl, rfl, rfl, rfl, rfl, rfl⟩⟩⟩
theorem RowE.small {op : Int} {n : ByteArray} {o t p a b er : Int} (h : RowE op n o t p a b er) : (0 ≤ o ∧ o ≤ 2) ∧ (0 ≤ t ∧ t ≤ 3) ∧ (0 ≤ p ∧ p ≤ 1) ∧ (0 ≤ a ∧ a ≤ 262143) ∧ (0 ≤ b ∧ b ≤ 3660) ∧ (er = 0 ∨ er = 111) := by
  rcases h.say with ⟨k, hk, rfl, rfl, rfl, rfl, rfl, rfl, rfl, rfl⟩ | ⟨_, rfl, rfl, rfl, rfl, rfl, rfl, rfl⟩
  · obtain ⟨t1, t2, t3, t4, t5, _⟩ := tab_facts k hk
    omega
  · omega
theorem rowOf_any {op : Int} {n : ByteArray} {o t p a b er : Int} (h : RowE op n o t p a b er) (w : World) (hR : Rws w) :
    Calls Tryd.prog 28 #[.int .i64 op] w fun e w' => e = .returned (.tuple #[rowV n o t p a b, .int .i64 er]) ∧ Below w.heap.size w w' := by
  rcases h.say with ⟨k, hk, rfl, rfl, rfl, rfl, rfl, rfl, rfl, rfl⟩ | ⟨hr, rfl, rfl, rfl, rfl, rfl, rfl, rfl⟩
  · exact rowOf_in k hk w hR
  · exact rowOf_out op w hr
theorem wrap_id {x : Int} (h : -1000000 ≤ x ∧ x ≤ 1000000) : IntKind.i64.wrap x = x := by
  simp [IntKind.wrap, IntKind.bits, IntKind.signed]; omega
theorem effect_any {op : Int} {n : ByteArray} {o t p a b er : Int} (h : RowE op n o t p a b er) (w : World) (hR : Rws w) :
    Calls Tryd.prog 18 #[.int .i64 op] w fun e w' => e = .returned (.tuple #[.int .i64 t, .int .i64 p, .int .i64 er]) ∧ Below w.heap.size w w' := by
  have K := Lib.hid (rowOf_any h w hR)
  have q1 : IntKind.i64.wrap t = t := wrap_id (by have := h.small; omega)
  have q2 : IntKind.i64.wrap p = p := wrap_id (by have := h.small; omega)
  clear h hR
  go_enter Tryd.func18, Tryd.ntmps18
  go_wp2_with (go_at_call 28; refine K.out.mono ?_; rintro e w1 ⟨rfl, h1⟩; have B1 := Lib.hid h1; clear h1)
  go_region
  all_goals go_wp2
  all_goals
    go_ret3
    exact ⟨rfl, below_dr2 (B1.out.alloc B1.out.size _)⟩
end Go.Proofs.YteedkcmjhdabeaaDoor
