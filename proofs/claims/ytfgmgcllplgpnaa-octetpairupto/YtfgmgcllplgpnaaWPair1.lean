/-
  A PAIR OF READERS, AND ITS BOOK: what stays.
-/
import Derived.Test.YtfgmgcllplgpnaaWPut2
namespace Go.Proofs.Ytfgmgcllplgpnaa
open Go.RowKit
set_option linter.unusedVariables false
set_option linter.unusedSimpArgs false

theorem ty_ne {w : World} {x y : Nat} {c c' : Array Value} {t t' : TypeId} {f f' : Nat × Nat} (h : w.heap[x]? = some (.cells c t f)) (k : w.heap[y]? = some (.cells c' t' f')) (ht : t ≠ t') : x ≠ y := by
  rintro rfl
  rw [h] at k
  injection k with k
  injection k with _ k _
  exact ht k
/-- A pair in block q: the program's reader p, the document's p', both of the bytes xs, at the place k. -/
structure PO (w : World) (B q p : Nat) (a : Option Addr) (n cap : Nat) (xs : List Int) (k p' : Nat) (a' : Option Addr) (cap' : Nat) (L : Value) (c : Nat) : Prop where
  c0 : w.cell? ⟨q, 0, none⟩ = some (.pointer (some ⟨p, 0, none⟩))
  c1 : w.cell? ⟨q, 1, none⟩ = some (.pointer (some ⟨p', 0, none⟩))
  bk : BK w B q L c
  rp : RB w B p a n cap xs k
  rr : RE w B p' a' n cap' xs k
section
variable {w w1 w2 : World} {B q p : Nat} {a : Option Addr} {n cap : Nat} {xs : List Int} {k k1 p' : Nat} {a' : Option Addr} {cap' : Nat} {L : Value} {c : Nat}
theorem PO.ne (h : PO w B q p a n cap xs k p' a' cap' L c) : q ≠ p ∧ q ≠ p' ∧ p ≠ p' ∧ L.ownBlock ≠ some p ∧ L.ownBlock ≠ some p' ∧ Value.ownBlock (.slice a' n cap') ≠ some p ∧ Value.ownBlock (.slice a n cap) ≠ some p' ∧ Value.ownBlock (.slice a n cap) ≠ some q ∧ Value.ownBlock (.slice a' n cap') ≠ some q ∧ (∀ x, L.ownBlock = some x → Value.ownBlock (.slice a n cap) ≠ some x ∧ Value.ownBlock (.slice a' n cap') ≠ some x) := by
  obtain ⟨cs, fz, tq⟩ := h.bk.ty
  obtain ⟨cs1, fz1, tp⟩ := h.rp.ty
  obtain ⟨cs2, fz2, tr⟩ := h.rr.ty
  obtain ⟨ws, ho⟩ := h.bk.own
  exact ⟨ty_ne tq tp (by decide), ty_ne tq tr (by decide), ty_ne tp tr (by decide), row_ne ho tp (by decide), row_ne ho tr (by decide), row_ne h.rr.own tp (by decide), row_ne h.rp.own tr (by decide), row_ne h.rp.own tq (by decide), row_ne h.rr.own tq (by decide), fun x hx => ⟨rows_ne h.rp.own ho (by decide) x hx, rows_ne h.rr.own ho (by decide) x hx⟩⟩
/-- What stays, when blocks turn that are none of the pair's. -/
theorem PO.keep {S : Nat → Prop} (h : PO w B q p a n cap xs k p' a' cap' L c) (K : Keep w w1 S) (hq : ¬ S q) (hp : ¬ S p) (hp' : ¬ S p') (hL : ∀ x, L.ownBlock = some x → ¬ S x) (ha : ∀ x, Value.ownBlock (.slice a n cap) = some x → ¬ S x) (ha' : ∀ x, Value.ownBlock (.slice a' n cap') = some x → ¬ S x) : PO w1 B q p a n cap xs k p' a' cap' L c := by
  obtain ⟨ws, ho⟩ := h.bk.own
  have eq := K.block q h.bk.lt hq
  exact ⟨(World.cell?_of_block (a := ⟨q, 0, none⟩) eq).trans h.c0, (World.cell?_of_block (a := ⟨q, 1, none⟩) eq).trans h.c1, h.bk.blk eq (fun g hg => K.block g (ho.lt g hg).2 (hL g hg)), h.rp.blk (K.block p h.rp.lt hp) (fun g hg => K.block g (h.rp.own.lt g hg).2 (ha g hg)), h.rr.blk (K.block p' h.rr.lt hp') (fun g hg => K.block g (h.rr.own.lt g hg).2 (ha' g hg))⟩
theorem PO.later (h : PO w B q p a n cap xs k p' a' cap' L c) (g : w.grownBy w1 none) : PO w1 B q p a n cap xs k p' a' cap' L c :=
  h.keep (Keep.of g (S := fun _ => False) (fun _ _ e => by cases e)) (fun e => e) (fun e => e) (fun e => e) (fun _ _ e => e) (fun _ _ e => e) (fun _ _ e => e)
theorem PO.alloc (h : PO w B q p a n cap xs k p' a' cap' L c) (o : Obj) : PO (w.alloc o) B q p a n cap xs k p' a' cap' L c := h.later (World.grownBy_alloc w o none)
/-- The program's reader has moved. -/
theorem PO.afterP (h : PO w B q p a n cap xs k p' a' cap' L c) (g : Gr p w w1) : w1.cell? ⟨q, 0, none⟩ = some (.pointer (some ⟨p, 0, none⟩)) ∧ w1.cell? ⟨q, 1, none⟩ = some (.pointer (some ⟨p', 0, none⟩)) ∧ BK w1 B q L c ∧ RE w1 B p' a' n cap' xs k := by
  obtain ⟨n1, n2, n3, n4, n5, n6, n7, n8, n9, n10⟩ := h.ne
  obtain ⟨ws, ho⟩ := h.bk.own
  have eq := g.block q h.bk.lt (fun e => by injection e with e; exact n1 e)
  exact ⟨(World.cell?_of_block (a := ⟨q, 0, none⟩) eq).trans h.c0, (World.cell?_of_block (a := ⟨q, 1, none⟩) eq).trans h.c1, h.bk.blk eq (fun x hx => g.block x (ho.lt x hx).2 (fun e => n4 (by rw [hx, e]))), h.rr.kept g (by simp; exact n3) (fun x hx e => n6 (by rw [hx, ← e]))⟩
/-- Then the document's. -/
theorem PO.afterR (h : PO w B q p a n cap xs k p' a' cap' L c) (g : Gr p w w1) (r1 : RB w1 B p a n cap xs k1) (g2 : Gr p' w1 w2) (r2 : RE w2 B p' a' n cap' xs k1) : PO w2 B q p a n cap xs k1 p' a' cap' L c := by
  obtain ⟨b0, b1, b2, b3⟩ := h.afterP g
  obtain ⟨cs, fz, tq⟩ := b2.ty
  obtain ⟨cs1, fz1, tp⟩ := r1.ty
  obtain ⟨cs2, fz2, tr⟩ := b3.ty
  obtain ⟨ws, ho⟩ := b2.own
  have eq := g2.block q b2.lt (fun e => by injection e with e; exact ty_ne tq tr (by decide) e)
  refine ⟨(World.cell?_of_block (a := ⟨q, 0, none⟩) eq).trans b0, (World.cell?_of_block (a := ⟨q, 1, none⟩) eq).trans b1, b2.blk eq (fun x hx => g2.block x (ho.lt x hx).2 (fun e => row_ne ho tr (by decide) (by rw [hx, e]))), r1.kept g2 (by simp; exact fun e => ty_ne tp tr (by decide) e.symm) (fun x hx e => row_ne r1.own tr (by decide) (by rw [hx, ← e])), r2⟩
/-- A list is put into the book. -/
theorem PO.put {v L' : Value} {c' : Nat} (h : PO w B q p a n cap xs k p' a' cap' L c) (P : PutP w w1 B q L v c' L') (hv : ∀ x, v.ownBlock = some x → x ≠ p ∧ x ≠ p' ∧ Value.ownBlock (.slice a n cap) ≠ some x ∧ Value.ownBlock (.slice a' n cap') ≠ some x) : PO w1 B q p a n cap xs k p' a' cap' L' c' := by
  obtain ⟨n1, n2, n3, n4, n5, n6, n7, n8, n9, n10⟩ := h.ne
  refine ⟨(P.rest 0 (by omega)).trans h.c0, (P.rest 1 (by omega)).trans h.c1, P.bk, h.rp.blk (P.keep.block p h.rp.lt ?_) (fun g hg => P.keep.block g (h.rp.own.lt g hg).2 ?_), h.rr.blk (P.keep.block p' h.rr.lt ?_) (fun g hg => P.keep.block g (h.rr.own.lt g hg).2 ?_)⟩
  · rintro (e | e | e)
    · exact n1 e.symm
    · exact n4 e
    · exact (hv p e).1 rfl
  · rintro (e | e | e)
    · exact n8 (by rw [hg, e])
    · exact (n10 g e).1 hg
    · exact (hv g e).2.2.1 hg
  · rintro (e | e | e)
    · exact n2 e.symm
    · exact n5 e
    · exact (hv p' e).2.1 rfl
  · rintro (e | e | e)
    · exact n9 (by rw [hg, e])
    · exact (n10 g e).2 hg
    · exact (hv g e).2.2.2 hg
/-- What a step leaves. -/
def StepP (w w2 : World) (B q p : Nat) (a : Option Addr) (n cap : Nat) (xs : List Int) (p' : Nat) (a' : Option Addr) (cap' : Nat) (L : Value) (c : Nat) : Prop :=
  ∃ k2 L2 c2, c2 ≤ c + 2 ∧ PO w2 B q p a n cap xs k2 p' a' cap' L2 c2 ∧ Keep w w2 (fun x => x = q ∨ x = p ∨ x = p' ∨ L.ownBlock = some x) ∧ (L2.ownBlock = L.ownBlock ∨ ∃ g, L2.ownBlock = some g ∧ w.heap.size ≤ g)
theorem stepP_of {o : Obj} (h : PO (w.alloc o) B q p a n cap xs k p' a' cap' L c) (g : Gr p (w.alloc o) w1) (r1 : RB w1 B p a n cap xs k1) (g2 : Gr p' w1 w2) (r2 : RE w2 B p' a' n cap' xs k1) : StepP w w2 B q p a n cap xs p' a' cap' L c :=
  ⟨k1, L, c, by omega, h.afterR g r1 g2 r2, ((Keep.of (World.grownBy_alloc w o none) (fun _ _ e => by cases e)).step g (fun x _ e => by injection e with e; exact .inr (.inl e.symm))).step g2 (fun x _ e => by injection e with e; exact .inr (.inr (.inl e.symm))), .inl rfl⟩
/-- .. with a list in the book. -/
theorem stepP_put {o : Obj} {w3 : World} {v L' : Value} {r : Option Nat} (h : PO (w.alloc o) B q p a n cap xs k p' a' cap' L c) (g : Gr p (w.alloc o) w1) (r1 : RB w1 B p a n cap xs k1) (g2 : Gr p' w1 w2) (r2 : RE w2 B p' a' n cap' xs k1) (P : PutP w2 w3 B q L v (c + 2) L') (hv : ∀ x, v.ownBlock = some x → (w.alloc o).heap.size ≤ x) : StepP w w3 B q p a n cap xs p' a' cap' L c := by
  have H2 := h.afterR g r1 g2 r2
  have K2 : Keep w w2 (fun x => x = q ∨ x = p ∨ x = p' ∨ L.ownBlock = some x) := ((Keep.of (World.grownBy_alloc w o none) (fun _ _ e => by cases e)).step g (fun x _ e => by injection e with e; exact .inr (.inl e.symm))).step g2 (fun x _ e => by injection e with e; exact .inr (.inr (.inl e.symm)))
  have hs : w.heap.size ≤ (w.alloc o).heap.size := by simp
  refine ⟨k1, L', c + 2, by omega, H2.put P (fun x hx => ?_), K2.trans P.keep (fun x hx t => ?_), ?_⟩
  · have hx2 := hv x hx
    have l1 := h.rp.lt
    have l2 := h.rr.lt
    exact ⟨fun e => by omega, fun e => by omega, fun e => by have := (h.rp.own.lt x e).2; omega, fun e => by have := (h.rr.own.lt x e).2; omega⟩
  · rcases t with t | t | t
    · exact .inl t
    · exact .inr (.inr (.inr t))
    · have := hv x t; omega
  · rcases P.at_ with e | ⟨y, e, hy⟩
    · exact .inl e
    · exact .inr ⟨y, e, Nat.le_trans K2.size hy⟩
theorem stepP_none {o : Obj} (h : PO w B q p a n cap xs k p' a' cap' L c) (g : (w.alloc o).grownBy w2 none) : StepP w w2 B q p a n cap xs p' a' cap' L c :=
  ⟨k, L, c, by omega, (h.alloc o).later g, (Keep.of (World.grownBy_alloc w o none) (fun _ _ e => by cases e)).step g (fun x _ e => by cases e), .inl rfl⟩
end
theorem RB.drew {w : World} {B p : Nat} {a : Option Addr} {n cap : Nat} {xs : List Int} {k : Nat} (h : RB w B p a n cap xs k) : RB w.drew B p a n cap xs k := h.later ⟨rfl, rfl, rfl, Nat.le_refl _, fun _ _ _ => rfl⟩
theorem gr_drew0 {r : Option Nat} {w w1 : World} (h : w.drew.grownBy w1 r) : w.grownBy w1 r := ⟨h.os, h.tape, h.output, h.size, h.block⟩
/-- A text of given bytes. -/
theorem mk_text (l : List Int) (h : ∀ c ∈ l, 0 ≤ c ∧ c ≤ 255) : ∃ t : ByteArray, sb t = l := by
  refine ⟨⟨(l.map fun c => UInt8.ofNat c.toNat).toArray⟩, ?_⟩
  simp only [sb]
  rw [List.map_map]
  conv => rhs; rw [← List.map_id l]
  apply List.map_congr_left
  intro c hc
  have := h c hc
  simp
  omega
end Go.Proofs.Ytfgmgcllplgpnaa
