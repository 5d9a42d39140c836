/-
  WALKS: the document's row, Name, Operands, Effect, within, Valid; the program's allows, Valid.
-/
import Derived.Test.YtbhbbpbdnmhppaaDoorWCode2
namespace Go.Proofs.YtbhbbpbdnmhppaaDoor
open Go.RowKit
set_option linter.unusedVariables false
set_option linter.unusedSimpArgs false

theorem box_all5 {w : World} {x : Nat} {a b c d e : Value} {t : TypeId} (h : w.heap[x]? = some (.cells #[a, b, c, d, e] t)) : w.cell? ⟨x, 0, none⟩ = some a ∧ w.cell? ⟨x, 1, none⟩ = some b ∧ w.cell? ⟨x, 2, none⟩ = some c ∧ w.cell? ⟨x, 3, none⟩ = some d ∧ w.cell? ⟨x, 4, none⟩ = some e := by
  refine ⟨?_, ?_, ?_, ?_, ?_⟩ <;> simp [World.cell?, h]
theorem box_set5 {w : World} {x : Nat} {a b c d e a' b' c' d' e' : Value} {t : TypeId} (h : w.heap[x]? = some (.cells #[a, b, c, d, e] t)) : (((((w.setCell ⟨x, 0, none⟩ a').setCell ⟨x, 1, none⟩ b').setCell ⟨x, 2, none⟩ c').setCell ⟨x, 3, none⟩ d').setCell ⟨x, 4, none⟩ e').heap[x]? = some (.cells #[a', b', c', d', e'] t) := by
  have h0 : (w.setCell ⟨x, 0, none⟩ a').heap[x]? = some (.cells #[a', b, c, d, e] t) := Joins.block_setCell (i := 0) h a'
  generalize w.setCell ⟨x, 0, none⟩ a' = w at h0 ⊢
  have h1 : (w.setCell ⟨x, 1, none⟩ b').heap[x]? = some (.cells #[a', b', c, d, e] t) := Joins.block_setCell (i := 1) h0 b'
  generalize w.setCell ⟨x, 1, none⟩ b' = w at h1 ⊢
  have h2 : (w.setCell ⟨x, 2, none⟩ c').heap[x]? = some (.cells #[a', b', c', d, e] t) := Joins.block_setCell (i := 2) h1 c'
  generalize w.setCell ⟨x, 2, none⟩ c' = w at h2 ⊢
  have h3 : (w.setCell ⟨x, 3, none⟩ d').heap[x]? = some (.cells #[a', b', c', d', e] t) := Joins.block_setCell (i := 3) h2 d'
  generalize w.setCell ⟨x, 3, none⟩ d' = w at h3 ⊢
  exact Joins.block_setCell (i := 4) h3 e'
theorem below5 {B : Nat} {w0 w : World} {g : Nat} (h : Below B w0 w) (hg : B ≤ g) (a0 a1 a2 a3 a4 : Value) :
    Below B w0 (((((w.setCell ⟨g, 0, none⟩ a0).setCell ⟨g, 1, none⟩ a1).setCell ⟨g, 2, none⟩ a2).setCell ⟨g, 3, none⟩ a3).setCell ⟨g, 4, none⟩ a4) :=
  (((((h.setCell (p := ⟨g, 0, none⟩) hg _).setCell (p := ⟨g, 1, none⟩) hg _).setCell (p := ⟨g, 2, none⟩) hg _).setCell (p := ⟨g, 3, none⟩) hg _).setCell (p := ⟨g, 4, none⟩) hg _)
theorem frz5 {w : World} {x : Nat} {a b c d e : Value} {t : TypeId} (h : w.heap[x]? = some (.cells #[a, b, c, d, e] t)) : w.frozen? ⟨x, 0, none⟩ = false ∧ w.frozen? ⟨x, 1, none⟩ = false ∧ w.frozen? ⟨x, 2, none⟩ = false ∧ w.frozen? ⟨x, 3, none⟩ = false ∧ w.frozen? ⟨x, 4, none⟩ = false := by
  refine ⟨?_, ?_, ?_, ?_, ?_⟩ <;> simp [World.frozen?, h]
abbrev refV (n : ByteArray) (a b t p : Int) : Value := .agg #[.string n, .int .i64 a, .int .i64 b, .int .i64 t, .int .i64 p]
/-- What the document's table says of a number. -/
structure RefE (op : Int) (n : ByteArray) (a b t p er : Int) : Prop where
  say : (∃ k : Nat, k < 29 ∧ op = (k : Int) ∧ n = nmA k ∧ a = (rfs k).a ∧ b = (rfs k).b ∧ t = (tkA k : Int) ∧ p = (ptA k : Int) ∧ er = 0) ∨ ((op < 0 ∨ 29 ≤ op) ∧ n = ⟨#[]⟩ ∧ a = 0 ∧ b = 0 ∧ t = 0 ∧ p = 0 ∧ er = 111)
theorem ref_ex (op : Int) : ∃ n a b t p er, RefE op n a b t p er := by
  by_cases h : op < 0 ∨ 29 ≤ op
  · exact ⟨_, _, _, _, _, _, ⟨.inr ⟨h, rfl, rfl, rfl, rfl, rfl, rfl⟩⟩⟩
  · exact ⟨_, _, _, _, _, _, ⟨.inl ⟨op.toNat, by omega, by omega, rfl, rfl, rfl, rfl, rfl, rfl⟩⟩⟩
def zr5 : Obj := .cells #[.string ⟨#[]⟩, .int .i64 0, .int .i64 0, .int .i64 0, .int .i64 0] 159
set_option maxRecDepth 100000 in
set_option maxHeartbeats 2000000 in
theorem refRow_any {op : Int} {n : ByteArray} {a b t p er : Int} (h : RefE op n a b t p er) (w : World) :
    Calls Tryd.prog 89 #[.int .i64 op] w fun e w' => e = .returned (.tuple #[refV n a b t p, .int .i64 er]) ∧ Below w.heap.size w w' := by
  have A := Lib.hid ((Below.refl w.heap.size w).alloc (Nat.le_refl _) zr5)
  have KT := Lib.hid (table_any (w.alloc zr5))
  have HB := Lib.hid (p := ∀ w1, Below (w.alloc zr5).heap.size (w.alloc zr5) w1 → w1.heap[w.heap.size]? = some zr5) (fun w1 b => (b.block _ (by simp)).trans (heap_new w zr5))
  unfold zr5 at *
  rcases h.say with ⟨k, hk, rfl, rfl, rfl, rfl, rfl, rfl, rfl⟩ | ⟨hr, rfl, rfl, rfl, rfl, rfl, rfl⟩
  · have k0 : ¬ (k : Int) < 0 := by omega
    have k1 : decide (29 ≤ k) = false := by simp; omega
    have k2 : decide ((29 : Int) ≤ (k : Int)) = false := by simp; omega
    have RX := Lib.hid (p := ∀ w1 g, RTb w1 g → w1.cell? ⟨g, k * 5, none⟩ = some (.string (nmA k)) ∧ w1.cell? ⟨g, k * 5 + 1, none⟩ = some (.int .i64 (rfs k).a) ∧ w1.cell? ⟨g, k * 5 + 2, none⟩ = some (.int .i64 (rfs k).b) ∧ w1.cell? ⟨g, k * 5 + 3, none⟩ = some (.int .i64 (tkA k : Int)) ∧ w1.cell? ⟨g, k * 5 + 4, none⟩ = some (.int .i64 (ptA k : Int))) (fun w1 g q => q.2 k hk)
    clear h
    generalize nmA k = n at *
    generalize (rfs k).a = a at *
    generalize (rfs k).b = b at *
    generalize ((tkA k : Nat) : Int) = t at *
    generalize ((ptA k : Nat) : Int) = p at *
    go_enter Tryd.func89, Tryd.ntmps89
    go_wp2_with (go_at_call 99; refine KT.out.mono ?_; rintro e w1 ⟨g, cap, rfl, hT, h1⟩; obtain ⟨c0, c1, c2, c3, c4⟩ := RX.out w1 g hT; have hb := HB.out w1 h1; obtain ⟨z0, z1, z2, z3, z4⟩ := box_all5 hb; obtain ⟨f0, f1, f2, f3, f4⟩ := frz5 hb; have E1 := Lib.hid (box_all5 (box_set5 (a' := .string n) (b' := .int .i64 a) (c' := .int .i64 b) (d' := .int .i64 t) (e' := .int .i64 p) hb)); have B1 := Lib.hid (A.out.trans (h1.mono A.out.size)); clear h1 hT hb)
    obtain ⟨r0, r1, r2, r3, r4⟩ := E1.out
    exact bodyPost_ret (v := .tuple #[refV n a b t p, .int .i64 0]) (by simp [results, Tryd.results89, go_sem, r0, r1, r2, r3, r4]) rfl ⟨rfl, below5 B1.out (Nat.le_refl _) _ _ _ _ _⟩
  · by_cases k0 : op < 0
    · clear h hr
      go_enter Tryd.func89, Tryd.ntmps89
      go_wp2_with (go_at_call 99; refine KT.out.mono ?_; rintro e w1 ⟨g, cap, rfl, hT, h1⟩; have hb := HB.out w1 h1; obtain ⟨z0, z1, z2, z3, z4⟩ := box_all5 hb; obtain ⟨f0, f1, f2, f3, f4⟩ := frz5 hb; have E1 := Lib.hid (box_all5 (box_set5 (a' := .string ⟨#[]⟩) (b' := .int .i64 0) (c' := .int .i64 0) (d' := .int .i64 0) (e' := .int .i64 0) hb)); have B1 := Lib.hid (A.out.trans (h1.mono A.out.size)); clear h1 hT hb)
      obtain ⟨r0, r1, r2, r3, r4⟩ := E1.out
      exact bodyPost_ret (v := .tuple #[refV ⟨#[]⟩ 0 0 0 0, .int .i64 111]) (by simp [results, Tryd.results89, go_sem, r0, r1, r2, r3, r4]) rfl ⟨rfl, below5 B1.out (Nat.le_refl _) _ _ _ _ _⟩
    · have k1 : (29 : Int) ≤ op := by omega
      clear h hr
      go_enter Tryd.func89, Tryd.ntmps89
      go_wp2_with (go_at_call 99; refine KT.out.mono ?_; rintro e w1 ⟨g, cap, rfl, hT, h1⟩; have hb := HB.out w1 h1; obtain ⟨z0, z1, z2, z3, z4⟩ := box_all5 hb; obtain ⟨f0, f1, f2, f3, f4⟩ := frz5 hb; have E1 := Lib.hid (box_all5 (box_set5 (a' := .string ⟨#[]⟩) (b' := .int .i64 0) (c' := .int .i64 0) (d' := .int .i64 0) (e' := .int .i64 0) hb)); have B1 := Lib.hid (A.out.trans (h1.mono A.out.size)); clear h1 hT hb)
      obtain ⟨r0, r1, r2, r3, r4⟩ := E1.out
      exact bodyPost_ret (v := .tuple #[refV ⟨#[]⟩ 0 0 0 0, .int .i64 111]) (by simp [results, Tryd.results89, go_sem, r0, r1, r2, r3, r4]) rfl ⟨rfl, below5 B1.out (Nat.le_refl _) _ _ _ _ _⟩
theorem refEffect_any {op : Int} {n : ByteArray} {a b t p er : Int} (h : RefE op n a b t p er) (w : World) :
    Calls Tryd.prog 76 #[.int .i64 op] w fun e w' => e = .returned (.tuple #[.int .i64 t, .int .i64 p, .int .i64 er]) ∧ Below w.heap.size w w' := by
  have K := Lib.hid (refRow_any h w)
  clear h
  go_enter Tryd.func76, Tryd.ntmps76
  go_wp2_with (go_at_call 89; refine K.out.mono ?_; rintro e w1 ⟨rfl, h1⟩; have B1 := Lib.hid h1; clear h1)
  go_region
  all_goals go_wp2
  all_goals
    go_ret3
    exact ⟨rfl, below_dr2 (B1.out.alloc B1.out.size _)⟩
/-- How many operands: those whose bound is none below 0. -/
def opsR (a b er : Int) : Int := if er ≠ 0 then 0 else (if 0 ≤ a then 1 else 0) + (if 0 ≤ b then 1 else 0)
def wi (v b : Int) : Bool := decide (if b < 0 then v = 0 else 0 ≤ v ∧ v ≤ b)
theorem within_any (v b : Int) (w : World) : Calls Tryd.prog 90 #[.int .i64 v, .int .i64 b] w fun e w' => e = .returned (.bool (wi v b)) ∧ w' = w := by
  by_cases hb : b < 0
  · have R := Lib.hid (p := wi v b = (v == 0)) (by unfold wi; simp only [hb, if_true]; rw [Bool.eq_iff_iff]; simp)
    rw [R.out]
    clear R
    go_enter Tryd.func90, Tryd.ntmps90
    go_wp2
    go_ret
    exact ⟨rfl, rfl⟩
  · by_cases h0 : 0 ≤ v <;> by_cases h1 : v ≤ b
    all_goals
      have R := Lib.hid (p := wi v b = decide (0 ≤ v ∧ v ≤ b)) (by unfold wi; simp only [hb, if_false])
      simp only [h0, h1, and_self, and_true, and_false, true_and, false_and, decide_true, decide_false] at R
      rw [R.out]
      clear R
      first | (have h0' : decide (0 ≤ v) = false := by simp; omega) | skip
      first | (have h1' : decide (v ≤ b) = false := by simp; omega) | skip
      go_enter Tryd.func90, Tryd.ntmps90
      go_wp2
      go_ret
      exact ⟨rfl, rfl⟩
end Go.Proofs.YtbhbbpbdnmhppaaDoor
