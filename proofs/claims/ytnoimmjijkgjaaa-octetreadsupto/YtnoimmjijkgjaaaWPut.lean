/-
  WALK: put (lists that are not kept late); what stays when some blocks turn.
-/
import Derived.Test.YtnoimmjijkgjaaaWRefRd3
namespace Go.Proofs.Ytnoimmjijkgjaaa
open Go.RowKit
set_option linter.unusedVariables false
set_option linter.unusedSimpArgs false

/-- At most the blocks of S have turned. -/
structure Keep (w w' : World) (S : Nat → Prop) : Prop where
  os : w'.os = w.os
  tape : w'.tape = w.tape
  output : w'.output = w.output
  size : w.heap.size ≤ w'.heap.size
  block : ∀ k, k < w.heap.size → ¬ S k → w'.heap[k]? = w.heap[k]?
theorem Keep.refl (w : World) (S : Nat → Prop) : Keep w w S := ⟨rfl, rfl, rfl, Nat.le_refl _, fun _ _ _ => rfl⟩
theorem Keep.of {w w' : World} {r : Option Nat} (g : w.grownBy w' r) {S : Nat → Prop} (h : ∀ k, k < w.heap.size → r = some k → S k) : Keep w w' S := ⟨g.os, g.tape, g.output, g.size, fun k hk hs => g.block k hk (fun e => hs (h k hk e.symm))⟩
theorem Keep.trans {a b c : World} {S T : Nat → Prop} (h : Keep a b S) (k : Keep b c T) (hT : ∀ x, x < a.heap.size → T x → S x) : Keep a c S :=
  ⟨k.os.trans h.os, k.tape.trans h.tape, k.output.trans h.output, Nat.le_trans h.size k.size, fun x hx hs => (k.block x (Nat.lt_of_lt_of_le hx h.size) (fun t => hs (hT x hx t))).trans (h.block x hx hs)⟩
theorem Keep.step {a b c : World} {S : Nat → Prop} {r : Option Nat} (h : Keep a b S) (k : b.grownBy c r) (hT : ∀ x, x < a.heap.size → r = some x → S x) : Keep a c S :=
  h.trans (Keep.of k (S := fun x => r = some x) (fun x _ e => e)) hT
theorem Keep.below {a b : World} {S : Nat → Prop} {B : Nat} (h : Keep a b S) (hS : ∀ x, S x → B ≤ x) (hB : B ≤ a.heap.size) : Below B a b := ⟨h.os, h.tape, h.output, h.size, fun k hk => h.block k (by omega) (fun s => by have := hS k s; omega)⟩
theorem own_blk {e : TypeId} {w w' : World} {B : Nat} {v : Value} {n : Nat} {xs : List Value} (h : w.ownsRow B e 1 v n xs) (hb : ∀ g, v.ownBlock = some g → w'.heap[g]? = w.heap[g]?) : w'.ownsRow B e 1 v n xs := by
  refine ⟨h.1, ?_⟩
  rcases h.2 with hn | ⟨g, cap, cur, rfl, hB, hg, rest⟩
  · exact .inl hn
  · exact .inr ⟨g, cap, cur, rfl, hB, by rw [hb g rfl]; exact hg, rest⟩
theorem RB.blk {w w' : World} {B p : Nat} {a : Option Addr} {n cap : Nat} {xs : List Int} {k : Nat} (h : RB w B p a n cap xs k) (e : w'.heap[p]? = w.heap[p]?) (er : ∀ g, Value.ownBlock (.slice a n cap) = some g → w'.heap[g]? = w.heap[g]?) : RB w' B p a n cap xs k := by
  refine ⟨(World.cell?_of_block (a := ⟨p, 0, none⟩) e).trans h.t, (World.cell?_of_block (a := ⟨p, 1, none⟩) e).trans h.ac, (World.frozen?_of_block (a := ⟨p, 1, none⟩) e).trans h.f, ?_, h.base, own_blk h.own er, h.bnd, h.le, h.byte⟩
  obtain ⟨cs, fz, ht⟩ := h.ty; exact ⟨cs, fz, e.trans ht⟩
theorem RE.blk {w w' : World} {B p : Nat} {a : Option Addr} {n cap : Nat} {xs : List Int} {k : Nat} (h : RE w B p a n cap xs k) (e : w'.heap[p]? = w.heap[p]?) (er : ∀ g, Value.ownBlock (.slice a n cap) = some g → w'.heap[g]? = w.heap[g]?) : RE w' B p a n cap xs k := by
  refine ⟨(World.cell?_of_block (a := ⟨p, 0, none⟩) e).trans h.t, (World.cell?_of_block (a := ⟨p, 1, none⟩) e).trans h.ac, (World.frozen?_of_block (a := ⟨p, 1, none⟩) e).trans h.f, ?_, h.base, own_blk h.own er, h.bnd, h.le, h.byte⟩
  obtain ⟨cs, fz, ht⟩ := h.ty; exact ⟨cs, fz, e.trans ht⟩

/-- A book in the cells 2 to 5 of block q: its lists. -/
structure BK (w : World) (B q : Nat) (L : Value) (c : Nat) : Prop where
  l : w.cell? ⟨q, 2, none⟩ = some L
  late : w.cell? ⟨q, 3, none⟩ = some (.bool false)
  f : w.frozen? ⟨q, 2, none⟩ = false
  ty : ∃ cs fz, w.heap[q]? = some (.cells cs 36 fz)
  base : B ≤ q
  own : ∃ ws, w.ownsRow B 22 1 L c ws
theorem BK.lt {w : World} {B q : Nat} {L : Value} {c : Nat} (h : BK w B q L c) : q < w.heap.size := by
  obtain ⟨cs, fz, e⟩ := h.ty; exact (Array.getElem?_eq_some_iff.1 e).1
theorem info22 : (Try.prog.info? 22).map (fun i => (i.zero, i.size, i.bytes)) = some (some (.slice none 0 0), 1, 24) := by kernel_rfl
/-- 'lists = append(lists, l)'. -/
theorem wp_listL {ops : Array Oper} {rest : List Oper} {o : Oper} {a : Act} {Q : Exit → Act → World → Prop} (w : World) (ad : Option Addr) (m cp : Nat) (hgd : o.guard = none) (s x : Operand)
    (ho : o.op = .call { callee := .builtin .append, args := #[s, x], argTypes := #[32, 32] }) (B : Nat) (v : Value) (n : Nat) (xs : List Value) (hs : a.eval s = v)
    (hx : a.eval x = .slice (some ⟨w.heap.size, 0, none⟩) 1 1) (hown : w.ownsRow B 22 1 v n xs) (hl : n ≤ 1000000000000) (hb : B ≤ w.heap.size)
    (h : ∀ v' w', w'.ownsRow B 22 1 v' (n + 1) (xs ++ [.slice ad m cp]) → w.grownBy w' v.ownBlock → (v'.ownBlock = v.ownBlock ∨ ∃ g, v'.ownBlock = some g ∧ w.heap.size ≤ g) → wpList Try.prog ops Q rest (a.put o.dst v') w') :
    wpList Try.prog ops Q (o :: rest) a (w.alloc (.cells #[.slice ad m cp] 22)) := by
  obtain ⟨i0, hi, hz0, hz1, hz2⟩ := info_parts info22
  refine wpList_append_own_at _ hgd s x 32 ho B 22 i0 (.slice none 0 0) 1 24 Try.underlying32 hi hz0 hz1 hz2 rfl (by decide) v _ _ hs (hown.alloc _) ⟨w.heap.size, 0, none⟩ 1 1 [.slice ad m cp] hx rfl ?_ ?_ (by unfold maxLen; omega) (by omega) (by simp; omega) ?_
  · intro j u hj
    match j, hj with
    | 0, hj => simp at hj; subst hj; simp [Addr.add]
  · intro u hu; simp at hu; subst hu; rfl
  · intro v' w' h1 h2 h3 h4
    refine h v' w' h1 ⟨h2.os, h2.tape, h2.output, Nat.le_trans (by simp) h2.size, fun k hk hr => ?_⟩ ?_
    · rw [h2.block k (Nat.lt_of_lt_of_le hk (by simp)) hr]
      exact Below.heap_alloc w _ k hk
    · rcases h4 with q | q
      · exact .inl q
      · exact .inr ⟨_, q, by simp⟩
end Go.Proofs.Ytnoimmjijkgjaaa
