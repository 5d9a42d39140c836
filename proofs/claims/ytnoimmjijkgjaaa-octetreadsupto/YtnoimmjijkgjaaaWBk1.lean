/-
  THE BOOK's LISTS: rows of bytes where the world holds them; a book that is not late.
-/
import Derived.Test.YtnoimmjijkgjaaaWPX1
import Derived.Test.YtnoimmjijkgjaaaWSameB
import Derived.Test.YtnoimmjijkgjaaaWHand
namespace Go.Proofs.Ytnoimmjijkgjaaa
open Go.RowKit
set_option linter.unusedVariables false
set_option linter.unusedSimpArgs false

/-- n bytes, in a block of bytes. -/
def BT (w : World) (a : Option Addr) (n : Nat) (xs : List Int) : Prop :=
  BL w a n xs ∧ (n = 0 ∨ ∃ b o cs fz, a = some ⟨b, o, none⟩ ∧ w.heap[b]? = some (.cells cs 5 fz))
theorem BT.kept {w w' : World} {a : Option Addr} {n : Nat} {xs : List Int} (h : BT w a n xs) (hs : w.heap.size ≤ w'.heap.size) (e : ∀ b o cs fz, n ≠ 0 → a = some ⟨b, o, none⟩ → w.heap[b]? = some (.cells cs 5 fz) → w'.heap[b]? = w.heap[b]?) : BT w' a n xs := by
  obtain ⟨⟨h1, h2, h3, h4⟩, h5⟩ := h
  by_cases h0 : n = 0
  · exact ⟨⟨h1, h2, h3, .inl h0⟩, .inl h0⟩
  · obtain ⟨b, o, ha, hb, hc⟩ := h4.resolve_left h0
    obtain ⟨b', o', cs, fz, ha', ht⟩ := h5.resolve_left h0
    rw [ha] at ha'
    injection ha' with ha'
    injection ha' with e1 e2
    subst e1 e2
    have eb := e b o cs fz h0 ha ht
    exact ⟨⟨h1, h2, h3, .inr ⟨b, o, ha, Nat.lt_of_lt_of_le hb hs, fun i hi => (World.cell?_of_block (a := ⟨b, o + i, none⟩) eb).trans (hc i hi)⟩⟩, .inr ⟨b, o, cs, fz, ha, eb.trans ht⟩⟩
theorem own_bt {w : World} {B : Nat} {a : Option Addr} {n cap : Nat} {xs : List Int} (h : Own w B (.slice a n cap) n xs) (hb : ∀ c ∈ xs, 0 ≤ c ∧ c ≤ 255) (hn : n ≤ 140737488355328) : BT w a n xs := by
  refine ⟨(own_bl h hb hn).1, ?_⟩
  rcases h.2 with ⟨e, h0⟩ | ⟨g, c, cur, e, _, hg, _⟩
  · exact .inl h0
  · injection e with e1 e2 e3
    exact .inr ⟨g, 0, cur, _, e1, hg⟩
theorem BT.upTo {w : World} {a : Option Addr} {n : Nat} {xs : List Int} (h : BT w a n xs) (m : Nat) (hm : m ≤ n) : BT w a m (xs.take m) := by
  refine ⟨h.1.upTo m hm, ?_⟩
  rcases h.2 with e | e
  · exact .inl (by omega)
  · exact .inr e
theorem BT.ne {w : World} {a : Option Addr} {n : Nat} {xs : List Int} (h : BT w a n xs) {q : Nat} {cs : Array Value} {t : TypeId} {fz : Nat × Nat} (hq : w.heap[q]? = some (.cells cs t fz)) (ht : t ≠ 5) : ∀ b o, n ≠ 0 → a = some ⟨b, o, none⟩ → b ≠ q := by
  intro b o h0 ha e
  obtain ⟨b', o', cs', fz', ha', hb⟩ := h.2.resolve_left h0
  rw [ha] at ha'
  injection ha' with ha'
  injection ha' with e1 e2
  subst e1 e
  rw [hb] at hq
  injection hq with hq
  injection hq with _ hq _
  exact ht hq.symm
theorem BT.lt {w : World} {a : Option Addr} {n : Nat} {xs : List Int} (h : BT w a n xs) : ∀ b o, n ≠ 0 → a = some ⟨b, o, none⟩ → b < w.heap.size := by
  intro b o h0 ha
  obtain ⟨b', o', cs', fz', ha', hb⟩ := h.2.resolve_left h0
  rw [ha] at ha'
  injection ha' with ha'
  injection ha' with e1 e2
  subst e1
  exact (Array.getElem?_eq_some_iff.1 hb).1

/-- A book in the cells 2 to 5 of block q: its lists ws. -/
structure EB (w : World) (B q : Nat) (L : Value) (c : Nat) (ws : List Value) : Prop where
  l : w.cell? ⟨q, 2, none⟩ = some L
  late : w.cell? ⟨q, 3, none⟩ = some (.bool false)
  f : w.frozen? ⟨q, 2, none⟩ = false
  ty : ∃ cs fz, w.heap[q]? = some (.cells cs 36 fz)
  base : B ≤ q
  own : w.ownsRow B 22 1 L c ws
section
variable {w w' w1 w2 : World} {B q : Nat} {L L' L2 l v : Value} {c c' : Nat} {ws ws' : List Value}
theorem EB.lt (h : EB w B q L c ws) : q < w.heap.size := by
  obtain ⟨cs, fz, e⟩ := h.ty; exact (Array.getElem?_eq_some_iff.1 e).1
theorem EB.blk (h : EB w B q L c ws) (e : w'.heap[q]? = w.heap[q]?) (er : ∀ g, L.ownBlock = some g → w'.heap[g]? = w.heap[g]?) : EB w' B q L c ws := by
  refine ⟨(World.cell?_of_block (a := ⟨q, 2, none⟩) e).trans h.l, (World.cell?_of_block (a := ⟨q, 3, none⟩) e).trans h.late, (World.frozen?_of_block (a := ⟨q, 2, none⟩) e).trans h.f, ?_, h.base, own_blk h.own er⟩
  obtain ⟨cs, fz, ht⟩ := h.ty; exact ⟨cs, fz, e.trans ht⟩
/-- What put leaves. -/
structure PutE (w w' : World) (B q : Nat) (L l : Value) (c : Nat) (ws : List Value) (L' : Value) : Prop where
  bk : EB w' B q L' c ws
  keep : Keep w w' (fun x => x = q ∨ L.ownBlock = some x ∨ l.ownBlock = some x)
  at_ : L'.ownBlock = L.ownBlock ∨ ∃ g, L'.ownBlock = some g ∧ w.heap.size ≤ g
  rest : ∀ j, j ≠ 2 → w'.cell? ⟨q, j, none⟩ = w.cell? ⟨q, j, none⟩
/-- A row, new or the list's own, has turned. -/
theorem PutE.store (h : PutE w w1 B q L l c ws L') (g : w1.grownBy w2 v.ownBlock) (hv : v.ownBlock = l.ownBlock ∨ ∃ x, v.ownBlock = some x ∧ w.heap.size ≤ x) (hq : v.ownBlock ≠ some q) (hL : ∀ x, L'.ownBlock = some x → v.ownBlock ≠ some x) : PutE w w2 B q L l c ws L' :=
  ⟨h.bk.blk (g.block q h.bk.lt (fun e => hq e.symm)) (fun x hx => g.block x (h.bk.own.lt x hx).2 (fun e => hL x hx e.symm)), h.keep.step g (fun x hx e => by
      rcases hv with r | ⟨y, r, hy⟩
      · exact .inr (.inr (by rw [← r]; exact e))
      · rw [r] at e; injection e with e; omega), h.at_, fun j hj => (World.cell?_of_block (a := ⟨q, j, none⟩) (g.block q h.bk.lt (fun e => hq e.symm))).trans (h.rest j hj)⟩
/-- The lists have grown, and the book has them. -/
theorem PutE.list (h : PutE w w1 B q L l c ws L') (g : w1.grownBy w2 L'.ownBlock) (ho : w2.ownsRow B 22 1 L2 (c + 1) ws') (ha : L2.ownBlock = L'.ownBlock ∨ ∃ g, L2.ownBlock = some g ∧ w1.heap.size ≤ g) (hs : w.heap.size ≤ w1.heap.size) : PutE w (w2.setCell ⟨q, 2, none⟩ L2) B q L l (c + 1) ws' L2 := by
  have ho0 := h.bk.own
  obtain ⟨cs, fz, ht⟩ := h.bk.ty
  have hne := row_ne ho0 ht (by decide)
  have e := g.block q h.bk.lt (fun e => hne e.symm)
  have b2 : w2.cell? ⟨q, 2, none⟩ = some L' ∧ w2.cell? ⟨q, 3, none⟩ = some (.bool false) ∧ w2.frozen? ⟨q, 2, none⟩ = false := ⟨(World.cell?_of_block (a := ⟨q, 2, none⟩) e).trans h.bk.l, (World.cell?_of_block (a := ⟨q, 3, none⟩) e).trans h.bk.late, (World.frozen?_of_block (a := ⟨q, 2, none⟩) e).trans h.bk.f⟩
  have ht2 := e.trans ht
  have hne2 := row_ne ho ht2 (by decide)
  refine ⟨⟨World.cell?_setCell_same' _ _ _ (by rw [b2.1]; rfl), by rw [World.cell?_setCell_other _ _ _ _ (by simp)]; exact b2.2.1, by rw [World.frozen?_setCell]; exact b2.2.2, ⟨cs.setIfInBounds 2 L2, fz, by simp [World.setCell, Array.getElem?_modify, ht2]⟩, h.bk.base, own_blk ho (fun x hx => ?_)⟩, (h.keep.step g (fun x hx e => ?_)).step (gr_set (gr_refl (some q) w2) 2 L2) (fun x _ e => by injection e with e; exact .inl e.symm), ?_, fun j hj => by rw [World.cell?_setCell_other _ _ _ _ (by first | (simp; done) | (simp; omega))]; exact (World.cell?_of_block (a := ⟨q, j, none⟩) e).trans (h.rest j hj)⟩
  · have : ¬ q = x := fun e => hne2 (by rw [e]; exact hx)
    simp [World.setCell, Array.getElem?_modify, this]
  · rcases h.at_ with r | ⟨y, r, hy⟩
    · exact .inr (.inl (by rw [← r]; exact e))
    · rw [r] at e; injection e with e; omega
  · rcases ha with r | ⟨y, r, hy⟩
    · rw [r]; exact h.at_
    · exact .inr ⟨y, r, by omega⟩
theorem PutE.at2 (h : PutE w w1 B q L l c ws L') (g : w1.grownBy w2 L'.ownBlock) : w2.cell? ⟨q, 2, none⟩ = some L' ∧ w2.frozen? ⟨q, 2, none⟩ = false := by
  obtain ⟨cs, fz, ht⟩ := h.bk.ty
  have hne := row_ne h.bk.own ht (by decide)
  have e := g.block q h.bk.lt (fun e => hne e.symm)
  exact ⟨(World.cell?_of_block (a := ⟨q, 2, none⟩) e).trans h.bk.l, (World.frozen?_of_block (a := ⟨q, 2, none⟩) e).trans h.bk.f⟩
/-- A row of bytes through a growing of the lists and a store into the book. -/
theorem own_listE {Bl n : Nat} {zs : List Int} (o : Own w1 Bl v n zs) (b : EB w1 B q L' c ws) (g : w1.grownBy w2 L'.ownBlock) : Own (w2.setCell ⟨q, 2, none⟩ L2) Bl v n zs := by
  obtain ⟨cs, fz, ht⟩ := b.ty
  refine own_blk (own_blk o (fun x hx => g.block x (o.lt x hx).2 (fun e => ?_))) (fun x hx => ?_)
  · exact rows_ne o b.own (by decide) x e.symm hx
  · have : ¬ q = x := fun e => row_ne o ht (by decide) (by rw [e]; exact hx)
    simp [World.setCell, Array.getElem?_modify, this]
theorem bt_listE {a : Option Addr} {n : Nat} {xs : List Int} (o : BT w1 a n xs) (b : EB w1 B q L' c ws) (g : w1.grownBy w2 L'.ownBlock) : BT (w2.setCell ⟨q, 2, none⟩ L2) a n xs := by
  obtain ⟨cs, fz, ht⟩ := b.ty
  refine o.kept (Nat.le_trans g.size (by simp [World.setCell])) (fun x o' cs' fz' h0 ha hb => ?_)
  have n1 : x ≠ q := o.ne ht (by decide) x o' h0 ha
  have n2 : L'.ownBlock ≠ some x := row_ne b.own hb (by decide)
  have : ¬ q = x := fun e => n1 e.symm
  rw [show (w2.setCell ⟨q, 2, none⟩ L2).heap[x]? = w2.heap[x]? by simp [World.setCell, Array.getElem?_modify, this]]
  exact g.block x (Array.getElem?_eq_some_iff.1 hb).1 (fun e => n2 e.symm)
end
end Go.Proofs.Ytnoimmjijkgjaaa
