/-
  A PAIR OF READERS, AND WHATEVER ELSE STAYS: what holds of the rest of the world is a predicate X that no turn of the two readers breaks.
-/
import Derived.Test.YtnoimmjijkgjaaaWPut
namespace Go.Proofs.Ytnoimmjijkgjaaa
open Go.RowKit
set_option linter.unusedVariables false
set_option linter.unusedSimpArgs false

theorem row_ne {w : World} {e t : TypeId} {B : Nat} {v : Value} {n : Nat} {xs : List Value} {q : Nat} {cs : Array Value} {fz : Nat × Nat} (h : w.ownsRow B e 1 v n xs) (hq : w.heap[q]? = some (.cells cs t fz)) (ht : t ≠ e) : v.ownBlock ≠ some q := by
  intro he
  rcases h.2 with ⟨rfl, _⟩ | ⟨g, cap, cur, rfl, _, hg, _⟩
  · cases he
  · simp [Value.ownBlock] at he
    subst he
    rw [hg] at hq
    injection hq with hq
    injection hq with _ hq _
    exact ht hq.symm
theorem rows_ne {w : World} {e t : TypeId} {B B' : Nat} {v v' : Value} {n n' : Nat} {xs ys : List Value} (h : w.ownsRow B e 1 v n xs) (k : w.ownsRow B' t 1 v' n' ys) (ht : t ≠ e) : ∀ g, v'.ownBlock = some g → v.ownBlock ≠ some g := by
  intro g hg
  rcases k.2 with ⟨rfl, _⟩ | ⟨g', cap, cur, rfl, _, hg', _⟩
  · cases hg
  · simp [Value.ownBlock] at hg
    subst hg
    exact row_ne h hg' ht
theorem rowL_form {w : World} {e : TypeId} {B : Nat} {v : Value} {n : Nat} {xs : List Value} (h : w.ownsRow B e 1 v n xs) : ∃ a cap, v = .slice a n cap := by
  rcases h.2 with ⟨q, q0⟩ | ⟨g, cc, cur, q, _⟩
  · exact ⟨none, 0, by rw [q, q0]⟩
  · exact ⟨_, cc, q⟩
theorem ty_ne {w : World} {x y : Nat} {c c' : Array Value} {t t' : TypeId} {f f' : Nat × Nat} (h : w.heap[x]? = some (.cells c t f)) (k : w.heap[y]? = some (.cells c' t' f')) (ht : t ≠ t') : x ≠ y := by
  rintro rfl
  rw [h] at k
  injection k with k
  injection k with _ k _
  exact ht k
/-- X stands, whatever becomes of the blocks p and p'. -/
def StX (X : World → Prop) (p p' : Nat) : Prop := ∀ w w' : World, X w → w.heap.size ≤ w'.heap.size → (∀ k, k < w.heap.size → k ≠ p → k ≠ p' → w'.heap[k]? = w.heap[k]?) → X w'
structure PO (w : World) (B q p : Nat) (a : Option Addr) (n cap : Nat) (xs : List Int) (k p' : Nat) (a' : Option Addr) (cap' : Nat) (X : World → Prop) : Prop where
  c0 : w.cell? ⟨q, 0, none⟩ = some (.pointer (some ⟨p, 0, none⟩))
  c1 : w.cell? ⟨q, 1, none⟩ = some (.pointer (some ⟨p', 0, none⟩))
  ty : ∃ cs fz, w.heap[q]? = some (.cells cs 36 fz)
  base : B ≤ q
  bk : X w
  st : StX X p p'
  rp : RB w B p a n cap xs k
  rr : RE w B p' a' n cap' xs k
section
variable {w w1 w2 : World} {B q p : Nat} {a : Option Addr} {n cap : Nat} {xs : List Int} {k k1 p' : Nat} {a' : Option Addr} {cap' : Nat} {X Y : World → Prop}
theorem PO.qlt (h : PO w B q p a n cap xs k p' a' cap' X) : q < w.heap.size := by
  obtain ⟨cs, fz, e⟩ := h.ty; exact (Array.getElem?_eq_some_iff.1 e).1
theorem PO.ne (h : PO w B q p a n cap xs k p' a' cap' X) : q ≠ p ∧ q ≠ p' ∧ p ≠ p' ∧ Value.ownBlock (.slice a' n cap') ≠ some p ∧ Value.ownBlock (.slice a n cap) ≠ some p' ∧ Value.ownBlock (.slice a n cap) ≠ some q ∧ Value.ownBlock (.slice a' n cap') ≠ some q := by
  obtain ⟨cs, fz, tq⟩ := h.ty
  obtain ⟨cs1, fz1, tp⟩ := h.rp.ty
  obtain ⟨cs2, fz2, tr⟩ := h.rr.ty
  exact ⟨ty_ne tq tp (by decide), ty_ne tq tr (by decide), ty_ne tp tr (by decide), row_ne h.rr.own tp (by decide), row_ne h.rp.own tr (by decide), row_ne h.rp.own tq (by decide), row_ne h.rr.own tq (by decide)⟩
theorem PO.map (h : PO w B q p a n cap xs k p' a' cap' X) (y : Y w) (s : StX Y p p') : PO w B q p a n cap xs k p' a' cap' Y := ⟨h.c0, h.c1, h.ty, h.base, y, s, h.rp, h.rr⟩
theorem PO.later (h : PO w B q p a n cap xs k p' a' cap' X) (g : w.grownBy w1 none) : PO w1 B q p a n cap xs k p' a' cap' X := by
  have e : ∀ k, k < w.heap.size → w1.heap[k]? = w.heap[k]? := fun k hk => g.block k hk (fun e => by cases e)
  have eq := e q h.qlt
  obtain ⟨cs, fz, tq⟩ := h.ty
  exact ⟨(World.cell?_of_block (a := ⟨q, 0, none⟩) eq).trans h.c0, (World.cell?_of_block (a := ⟨q, 1, none⟩) eq).trans h.c1, ⟨cs, fz, eq.trans tq⟩, h.base, h.st w w1 h.bk g.size (fun k hk _ _ => e k hk), h.st, h.rp.blk (e p h.rp.lt) (fun x hx => e x (h.rp.own.lt x hx).2), h.rr.blk (e p' h.rr.lt) (fun x hx => e x (h.rr.own.lt x hx).2)⟩
theorem PO.alloc (h : PO w B q p a n cap xs k p' a' cap' X) (o : Obj) : PO (w.alloc o) B q p a n cap xs k p' a' cap' X := h.later (World.grownBy_alloc w o none)
/-- The program's reader has moved. -/
theorem PO.afterP (h : PO w B q p a n cap xs k p' a' cap' X) (g : Gr p w w1) : w1.cell? ⟨q, 0, none⟩ = some (.pointer (some ⟨p, 0, none⟩)) ∧ w1.cell? ⟨q, 1, none⟩ = some (.pointer (some ⟨p', 0, none⟩)) ∧ w1.heap[q]? = w.heap[q]? ∧ RE w1 B p' a' n cap' xs k := by
  obtain ⟨n1, n2, n3, n4, n5, n6, n7⟩ := h.ne
  have eq := g.block q h.qlt (fun e => by injection e with e; exact n1 e)
  exact ⟨(World.cell?_of_block (a := ⟨q, 0, none⟩) eq).trans h.c0, (World.cell?_of_block (a := ⟨q, 1, none⟩) eq).trans h.c1, eq, h.rr.kept g (by simp; exact n3) (fun x hx e => n4 (by rw [hx, ← e]))⟩
/-- Then the document's. -/
theorem PO.afterR (h : PO w B q p a n cap xs k p' a' cap' X) (g : Gr p w w1) (r1 : RB w1 B p a n cap xs k1) (g2 : Gr p' w1 w2) (r2 : RE w2 B p' a' n cap' xs k1) : PO w2 B q p a n cap xs k1 p' a' cap' X := by
  obtain ⟨b0, b1, b2, b3⟩ := h.afterP g
  obtain ⟨cs, fz, tq0⟩ := h.ty
  have tq := b2.trans tq0
  obtain ⟨cs1, fz1, tp⟩ := r1.ty
  obtain ⟨cs2, fz2, tr⟩ := b3.ty
  have eq := g2.block q (Nat.lt_of_lt_of_le h.qlt g.size) (fun e => by injection e with e; exact ty_ne tq tr (by decide) e)
  refine ⟨(World.cell?_of_block (a := ⟨q, 0, none⟩) eq).trans b0, (World.cell?_of_block (a := ⟨q, 1, none⟩) eq).trans b1, ⟨cs, fz, eq.trans tq⟩, h.base, h.st w w2 h.bk (Nat.le_trans g.size g2.size) (fun x hx e1 e2 => (g2.block x (Nat.lt_of_lt_of_le hx g.size) (fun e => by injection e with e; exact e2 e)).trans (g.block x hx (fun e => by injection e with e; exact e1 e))), h.st, r1.kept g2 (by simp; exact fun e => ty_ne tp tr (by decide) e.symm) (fun x hx e => row_ne r1.own tr (by decide) (by rw [hx, ← e])), r2⟩
/-- What a step leaves. -/
def StepP (w w2 : World) (B q p : Nat) (a : Option Addr) (n cap : Nat) (xs : List Int) (p' : Nat) (a' : Option Addr) (cap' : Nat) (X : World → Prop) : Prop :=
  ∃ k2, PO w2 B q p a n cap xs k2 p' a' cap' X ∧ Keep w w2 (fun x => x = p ∨ x = p')
theorem keep_two {o : Obj} (g : Gr p (w.alloc o) w1) (g2 : Gr p' w1 w2) : Keep w w2 (fun x => x = p ∨ x = p') :=
  ((Keep.of (World.grownBy_alloc w o none) (fun _ _ e => by cases e)).step g (fun x _ e => by injection e with e; exact .inl e.symm)).step g2 (fun x _ e => by injection e with e; exact .inr e.symm)
theorem stepP_of {o : Obj} (h : PO (w.alloc o) B q p a n cap xs k p' a' cap' X) (g : Gr p (w.alloc o) w1) (r1 : RB w1 B p a n cap xs k1) (g2 : Gr p' w1 w2) (r2 : RE w2 B p' a' n cap' xs k1) : StepP w w2 B q p a n cap xs p' a' cap' X :=
  ⟨k1, h.afterR g r1 g2 r2, keep_two g g2⟩
theorem stepP_none {o : Obj} (h : PO w B q p a n cap xs k p' a' cap' X) (g : (w.alloc o).grownBy w2 none) : StepP w w2 B q p a n cap xs p' a' cap' X :=
  ⟨k, (h.alloc o).later g, (Keep.of (World.grownBy_alloc w o none) (fun _ _ e => by cases e)).step g (fun x _ e => by cases e)⟩
/-- A list that is put into the book: whatever holds of the world then. -/
def PutC (B q p : Nat) (a : Option Addr) (n cap : Nat) (xs : List Int) (p' : Nat) (a' : Option Addr) (cap' : Nat) (X Y : World → Prop) : Prop :=
  ∀ (k0 k : Nat) (w0 W : World) (Bl : Nat) (s : Option Addr) (m cp : Nat) (l : List Int), PO w0 B q p a n cap xs k0 p' a' cap' X → Keep w0 W (fun x => x = p ∨ x = p') → PO W B q p a n cap xs k p' a' cap' X → Own W Bl (.slice s m cp) m l → w0.heap.size ≤ Bl → Bl ≤ W.heap.size → B ≤ W.heap.size → m ≤ n → (∀ c ∈ l, 0 ≤ c ∧ c ≤ 255) →
    Calls Try.prog 23 #[.pointer (some ⟨q, 2, none⟩), .slice s m cp] W fun e W' => e = .returned (.tuple #[]) ∧ PO W' B q p a n cap xs k p' a' cap' Y ∧ Below B W W'
/-- What a step leaves, a list put into the book or not. -/
def StepQ (w w2 : World) (B q p : Nat) (a : Option Addr) (n cap : Nat) (xs : List Int) (p' : Nat) (a' : Option Addr) (cap' : Nat) (Y : World → Prop) : Prop :=
  ∃ k2, PO w2 B q p a n cap xs k2 p' a' cap' Y ∧ Below B w w2
theorem StepP.toQ (h : StepP w w2 B q p a n cap xs p' a' cap' X) (hB : B ≤ w.heap.size) (hXY : ∀ w, X w → Y w) (s : StX Y p p') : StepQ w w2 B q p a n cap xs p' a' cap' Y := by
  obtain ⟨k2, h2, K⟩ := h
  refine ⟨k2, h2.map (hXY _ h2.bk) s, K.below (fun x hx => ?_) hB⟩
  rcases hx with e | e
  · rw [e]; exact h2.rp.base
  · rw [e]; exact h2.rr.base
theorem stepQ_put {w3 : World} (K : Keep w w2 (fun x => x = p ∨ x = p')) (h2 : PO w2 B q p a n cap xs k1 p' a' cap' X) (h3 : PO w3 B q p a n cap xs k1 p' a' cap' Y) (b : Below B w2 w3) (hB : B ≤ w.heap.size) : StepQ w w3 B q p a n cap xs p' a' cap' Y :=
  ⟨k1, h3, (K.below (fun x hx => by
    rcases hx with e | e
    · rw [e]; exact h2.rp.base
    · rw [e]; exact h2.rr.base) hB).trans b⟩
end
theorem RB.drew {w : World} {B p : Nat} {a : Option Addr} {n cap : Nat} {xs : List Int} {k : Nat} (h : RB w B p a n cap xs k) : RB w.drew B p a n cap xs k := h.later ⟨rfl, rfl, rfl, Nat.le_refl _, fun _ _ _ => rfl⟩
theorem gr_drew0 {r : Option Nat} {w w1 : World} (h : w.drew.grownBy w1 r) : w.grownBy w1 r := ⟨h.os, h.tape, h.output, h.size, h.block⟩
theorem mk_text (l : List Int) (h : ∀ c ∈ l, 0 ≤ c ∧ c ≤ 255) : ∃ t : ByteArray, sb t = l := by
  refine ⟨⟨(l.map fun c => UInt8.ofNat c.toNat).toArray⟩, ?_⟩
  simp only [sb]
  rw [List.map_map]
  conv => rhs; rw [← List.map_id l]
  apply List.map_congr_left
  intro c hc
  have := h c hc
  simp
  omega
end Go.Proofs.Ytnoimmjijkgjaaa
