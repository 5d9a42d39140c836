/-
  ANSWERS THAT ARE WRITTEN OVER: what stands, and where.
-/
import Derived.Test.YtdbjdieegocdfaaDoorWCodeS
import Derived.Test.YtdbjdieegocdfaaDoorWHand
namespace Go.Proofs.YtdbjdieegocdfaaDoor
open Go.RowKit
set_option linter.unusedVariables false
set_option linter.unusedSimpArgs false
theorem li_rf {w : World} {g : Nat} {l m : List In} (h : RfI w g (l ++ m)) (n : Nat) (hn : l.length = n) (hl : n ≤ 5864062014805) : LI w (some ⟨g, 0, none⟩) n l := by
  refine ⟨hn, hl, .inr ⟨g, 0, rfl, h.lt, fun i hi => ?_⟩⟩
  have := h.nc i (by simp; omega)
  rw [Nat.zero_add]
  have e : (l ++ m).getD i default = l.getD i default := by simp [List.getD, List.getElem?_append_left (show i < l.length by omega)]
  rwa [e] at this
def m77 : In := ⟨77, 0, 0⟩
def otL : List In := [⟨12, 0, 0⟩, ⟨0, 0, 0⟩]
theorem below_gr' {W W' : World} (b : Below W.heap.size W W') (r : Option Nat) : W.grownBy W' r := ⟨b.os, b.tape, b.output, b.size, fun k hk _ => b.block k hk⟩
theorem row_keep {W W' : World} {B e s n : Nat} {v : Value} {xs : List Value} (h : W.ownsRow B e s v n xs) (b : Below W.heap.size W W') : W'.ownsRow B e s v n xs := h.kept (below_gr' b none) (by cases v.ownBlock <;> simp)
theorem row_mono {w : World} {B B' : Nat} {e : TypeId} {s : Nat} {v : Value} {n : Nat} {xs : List Value} (h : w.ownsRow B e s v n xs) (hB : B' ≤ B) : w.ownsRow B' e s v n xs := by
  refine ⟨h.1, ?_⟩
  rcases h.2 with q | ⟨g, cap, cur, q1, q2, q3⟩
  · exact .inl q
  · exact .inr ⟨g, cap, cur, q1, Nat.le_trans hB q2, q3⟩
/-- A row whose block is not the one that changed. -/
theorem row_far {W W' : World} {B e s n : Nat} {v : Value} {xs : List Value} (h : W.ownsRow B e s v n xs) {r : Option Nat} (g : W.grownBy W' r) (hr : ∀ k q, r = some k → v.ownBlock = some q → k ≠ q) : W'.ownsRow B e s v n xs := by
  refine h.kept g ?_
  rcases hv : v.ownBlock with _ | q
  · exact .inl rfl
  · right
    intro e
    rcases r with _ | k
    · cases e
    · injection e with e
      exact hr k q rfl hv e.symm
/-- What stands, while the first answer is written over. -/
structure CE (w W : World) (s1 s2 : Nat) (L : List In) (va : Value) (na : Nat) (A : List Int) (rs : List (Value × Nat × List Int)) : Prop where
  bel : Below w.heap.size w W
  inn : RfI W w.heap.size L
  a : Own W s1 va na A
  alt : ∀ k, va.ownBlock = some k → k < s2
  s0 : w.heap.size < s1
  s12 : s1 ≤ s2
  sz2 : s2 ≤ W.heap.size
  rest : ∀ r ∈ rs, Own W s2 r.1 r.2.1 r.2.2
theorem CE.later {w W W' : World} {s1 s2 : Nat} {L : List In} {va : Value} {na : Nat} {A : List Int} {rs : List (Value × Nat × List Int)} (h : CE w W s1 s2 L va na A rs) (g : Below W.heap.size W W') : CE w W' s1 s2 L va na A rs :=
  ⟨h.bel.trans (g.mono h.bel.size), row_keep h.inn g, row_keep h.a g, h.alt, h.s0, h.s12, Nat.le_trans h.sz2 g.size, fun r hr => row_keep (h.rest r hr) g⟩
theorem CE.add {w W : World} {s1 s2 : Nat} {L : List In} {va : Value} {na : Nat} {A : List Int} {rs : List (Value × Nat × List Int)} (h : CE w W s1 s2 L va na A rs) {B : Nat} {v : Value} {n : Nat} {xs : List Int} (o : Own W B v n xs) (hB : s2 ≤ B) : CE w W s1 s2 L va na A ((v, n, xs) :: rs) :=
  ⟨h.bel, h.inn, h.a, h.alt, h.s0, h.s12, h.sz2, fun r hr => by
    rcases List.mem_cons.1 hr with rfl | q
    · exact row_mono o hB
    · exact h.rest r q⟩
theorem rf_block {gs : List In} {g : Nat} : Value.ownBlock (.slice (some ⟨g, 0, none⟩) gs.length gs.length) = some g := rfl
theorem CE.grown {w W W' : World} {s1 s2 : Nat} {L : List In} {va : Value} {na : Nat} {A : List Int} {rs : List (Value × Nat × List Int)} (h : CE w W s1 s2 L va na A rs) {A' : List Int} (g : W.grownBy W' va.ownBlock) (o : Own W' s1 va na A') : CE w W' s1 s2 L va na A' rs :=
  ⟨h.bel.grown g h.bel.size (fun k e => by have := (h.a.lt k e).1; have := h.s0; omega), row_far h.inn g (fun k q e e2 => by have := (h.a.lt k e).1; have := h.s0; rw [rf_block] at e2; injection e2 with e2; omega), o, h.alt, h.s0, h.s12, Nat.le_trans h.sz2 g.size,
    fun r hr => row_far (h.rest r hr) g (fun k q e e2 => by have := h.alt k e; have := ((h.rest r hr).lt q e2).1; omega)⟩
/-- What stands, while the list is turned about. -/
structure CF (w W : World) (s2 s3 : Nat) (L : List In) (vd : Value) (D : List In) (rs : List (Value × Nat × List Int)) : Prop where
  bel : Below w.heap.size w W
  inn : RfI W w.heap.size L
  d : OwI W s3 vd D
  s0 : w.heap.size < s2
  s23 : s2 ≤ s3
  sz3 : s3 ≤ W.heap.size
  rest : ∀ r ∈ rs, Own W s2 r.1 r.2.1 r.2.2 ∧ ∀ k, r.1.ownBlock = some k → k < s3
theorem CF.later {w W W' : World} {s2 s3 : Nat} {L : List In} {vd : Value} {D : List In} {rs : List (Value × Nat × List Int)} (h : CF w W s2 s3 L vd D rs) (g : Below W.heap.size W W') : CF w W' s2 s3 L vd D rs :=
  ⟨h.bel.trans (g.mono h.bel.size), row_keep h.inn g, row_keep h.d g, h.s0, h.s23, Nat.le_trans h.sz3 g.size, fun r hr => ⟨row_keep (h.rest r hr).1 g, (h.rest r hr).2⟩⟩
theorem CE.turn {w W W' : World} {s1 s2 : Nat} {L : List In} {va : Value} {na : Nat} {A : List Int} {rs : List (Value × Nat × List Int)} (h : CE w W s1 s2 L va na A rs) {vd v0 : Value} {D : List In} (o : OwI W' W.heap.size vd D) (g : W.grownBy W' v0.ownBlock) (hv : ∀ k, v0.ownBlock = some k → W.heap.size ≤ k) : CF w W' s2 W.heap.size L vd D rs :=
  ⟨h.bel.grown g h.bel.size (fun k e => Nat.le_trans h.bel.size (hv k e)), row_far h.inn g (fun k q e e2 => by have := hv k e; have := h.inn.lt; rw [rf_block] at e2; injection e2 with e2; omega), o, by have := h.s0; have := h.s12; omega, h.sz2, g.size,
    fun r hr => ⟨row_far (h.rest r hr) g (fun k q e e2 => by have := hv k e; have := ((h.rest r hr).lt q e2).2; omega), fun k e => ((h.rest r hr).lt k e).2⟩⟩
theorem CF.setD {w W : World} {s2 s3 : Nat} {L : List In} {g cap : Nat} {n : Nat} {D : List In} {rs : List (Value × Nat × List Int)} (h : CF w W s2 s3 L (.slice (some ⟨g, 0, none⟩) n cap) D rs) (i : Nat) (hi : i < D.length) (f : In) :
    CF w (((W.setCell ⟨g, i * 3, none⟩ (.int .i64 f.o)).setCell ⟨g, i * 3 + 1, none⟩ (.int .i64 f.a)).setCell ⟨g, i * 3 + 2, none⟩ (.int .i64 f.b)) s2 s3 L (.slice (some ⟨g, 0, none⟩) n cap) (D.set i f) rs := by
  have hg := World.ownsRow.lt h.d g rfl
  have hd := h.d
  have hn : n = D.length := by
    rcases hd.2 with ⟨q, _⟩ | ⟨g', c', cur, q, _⟩
    · cases q
    · injection q with _ q; 
  subst hn
  have e1 := World.ownsRow.stored hd (i * 3) (.int .i64 f.o)
  have e2 := e1.1.stored (i * 3 + 1) (.int .i64 f.a)
  have e3 := e2.1.stored (i * 3 + 2) (.int .i64 f.b)
  have G := (e1.2.trans e2.2).trans e3.2
  have o := e3.1
  rw [ics_set D i f hi] at o
  refine ⟨h.bel.grown G h.bel.size (fun k e => by injection e with e; have := h.s0; have := h.s23; omega), row_far h.inn G (fun k q e e2 => by injection e with e; rw [rf_block] at e2; injection e2 with e2; have := h.s0; have := h.s23; omega), ?_, h.s0, h.s23, Nat.le_trans h.sz3 G.size, fun r hr => ⟨row_far (h.rest r hr).1 G (fun k q e e2 => by injection e with e; have := (h.rest r hr).2 q e2; omega), (h.rest r hr).2⟩⟩
  unfold OwI
  rw [List.length_set]
  exact o
theorem CF.setI {w W : World} {s2 s3 : Nat} {L : List In} {vd : Value} {D : List In} {rs : List (Value × Nat × List Int)} (h : CF w W s2 s3 L vd D rs) (i : Nat) (hi : i < L.length) (f : In) :
    CF w (((W.setCell ⟨w.heap.size, i * 3, none⟩ (.int .i64 f.o)).setCell ⟨w.heap.size, i * 3 + 1, none⟩ (.int .i64 f.a)).setCell ⟨w.heap.size, i * 3 + 2, none⟩ (.int .i64 f.b)) s2 s3 (L.set i f) vd D rs := by
  have e1 := World.ownsRow.stored h.inn (i * 3) (.int .i64 f.o)
  have e2 := e1.1.stored (i * 3 + 1) (.int .i64 f.a)
  have e3 := e2.1.stored (i * 3 + 2) (.int .i64 f.b)
  have G := (e1.2.trans e2.2).trans e3.2
  refine ⟨h.bel.grown G h.bel.size (fun k e => by injection e with e; omega), h.inn.set i hi f, row_far h.d G (fun k q e e2 => by injection e with e; have := (World.ownsRow.lt h.d q e2).1; have := h.s0; have := h.s23; omega), h.s0, h.s23, Nat.le_trans h.sz3 G.size, fun r hr => ⟨row_far (h.rest r hr).1 G (fun k q e e2 => by injection e with e; have := ((h.rest r hr).1.lt q e2).1; have := h.s0; omega), (h.rest r hr).2⟩⟩
/-- A list half turned about. -/
def midL (l : List In) (k : Nat) : List In := l.reverse.take k ++ l.drop k
theorem midL_len (l : List In) (k : Nat) (h : k ≤ l.length) : (midL l k).length = l.length := by simp [midL]; omega
theorem midL_zero (l : List In) : midL l 0 = l := by simp [midL]
theorem midL_all (l : List In) : midL l l.length = l.reverse := by unfold midL; rw [List.take_of_length_le (by simp), List.drop_length, List.append_nil]
theorem midL_next (l : List In) (k : Nat) (h : k < l.length) : (midL l k).set k (l.getD (l.length - 1 - k) default) = midL l (k + 1) := by
  unfold midL
  rw [List.set_append_right _ _ (by simp; omega), show (l.reverse.take k).length = k by simp; omega, Nat.sub_self, List.drop_eq_getElem_cons h, List.set_cons_zero, List.take_succ_eq_append_getElem (by simpa using h), List.append_assoc, List.singleton_append, List.getElem_reverse]
  simp [List.getD, show l.length - 1 - k < l.length by omega]
theorem midL_at (l : List In) (k i : Nat) (h : k ≤ i) (hi : i < l.length) : (midL l k).getD i default = l.getD i default := by
  unfold midL
  simp only [List.getD]
  rw [List.getElem?_append_right (by simp; omega), show (l.reverse.take k).length = k by simp; omega, List.getElem?_drop, show k + (i - k) = i by omega]
end Go.Proofs.YtdbjdieegocdfaaDoor
