/-
  WALKS: the document's Decode.
-/
import Derived.Test.YtdbjdieegocdfaaDoorWCodeO
namespace Go.Proofs.YtdbjdieegocdfaaDoor
open Go.RowKit
set_option linter.unusedVariables false
set_option linter.unusedSimpArgs false

theorem RE.appI {w w' : World} {B p : Nat} {a : Option Addr} {n cap : Nat} {xs : List Int} {k : Nat} (h : RE w B p a n cap xs k) {B' : Nat} {v : Value} {l : List In} (ho : OwI w B' v l) (g : w.grownBy w' v.ownBlock) : RE w' B p a n cap xs k := by
  obtain ⟨cs, fz, ht⟩ := h.ty
  refine h.kept g (owi_ne ho ht (by decide)) (fun q hq => ?_)
  rcases h.own.2 with ⟨e', h0⟩ | ⟨g', c, cur, e', _, hg, _⟩
  · rw [e'] at hq; cases hq
  · rw [e'] at hq
    simp [Value.ownBlock] at hq
    subst hq
    exact owi_ne ho hg (by decide)
theorem sl_one2 {w : World} {v : Value} {B : Nat} {c : Int} (h : Own w B v 1 [c]) (hc : 0 ≤ c ∧ c ≤ 255) : ∃ b o cap, v = .slice (some ⟨b, o, none⟩) 1 cap ∧ w.cell? ⟨b, o, none⟩ = some (.int .u8 c) ∧ b < w.heap.size := by
  obtain ⟨a, cap, rfl, hs⟩ := own_sl h (by simp; exact hc) (by omega)
  rcases hs.1.2.2.2 with q | ⟨b, o, rfl, hb, hcell⟩
  · omega
  · exact ⟨b, o, cap, rfl, by simpa using hcell 0 (by omega), hb⟩
/-- What stands while an instruction is read: the reader, the row gathered, the table's row and the instruction in their boxes. -/
structure RM (w wr : World) (B p : Nat) (a : Option Addr) (n cap : Nat) (xs : List Int) (pos : Nat) (v : Value) (acc : List In) (q : Nat) (nm : ByteArray) (ra rb tk pt x y z : Int) : Prop where
  rd : RE wr B p a n cap xs pos
  own : OwI wr B v acc
  bel : Below B w wr
  row : wr.heap[q]? = some (.cells #[.string nm, .int .i64 ra, .int .i64 rb, .int .i64 tk, .int .i64 pt] 38)
  ins : wr.heap[q + 1]? = some (.cells #[.int .i64 x, .int .i64 y, .int .i64 z] 24)
  pq : p < q
  vq : ∀ g, v.ownBlock = some g → g < q
  oq : ∀ g, Value.ownBlock (.slice a n cap) = some g → g < q
theorem RM.turn {w wr w' : World} {B p : Nat} {a : Option Addr} {n cap : Nat} {xs : List Int} {pos pos' : Nat} {v : Value} {acc : List In} {q : Nat} {nm : ByteArray} {ra rb tk pt x y z : Int} (h : RM w wr B p a n cap xs pos v acc q nm ra rb tk pt x y z) (r : RE w' B p a n cap xs pos') (g : Gr p wr w') (hB : B ≤ wr.heap.size) : RM w w' B p a n cap xs pos' v acc q nm ra rb tk pt x y z := by
  have hp := h.pq
  refine ⟨r, h.own.kept g (.inr ?_), h.bel.trans (gr_out g h.rd.base hB), grown_block g h.row (by simp; omega), grown_block g h.ins (by simp; omega), h.pq, h.vq, h.oq⟩
  obtain ⟨cs, fz, ht⟩ := h.rd.ty
  exact owi_ne h.own ht (by decide)
theorem RM.setCell {w wr : World} {B p : Nat} {a : Option Addr} {n cap : Nat} {xs : List Int} {pos : Nat} {v : Value} {acc : List In} {q : Nat} {nm : ByteArray} {ra rb tk pt x y z x' y' z' : Int} (h : RM w wr B p a n cap xs pos v acc q nm ra rb tk pt x y z) (o : Nat) (u : Int) (hB : B ≤ q)
    (hi : (wr.setCell ⟨q + 1, o, none⟩ (.int .i64 u)).heap[q + 1]? = some (.cells #[.int .i64 x', .int .i64 y', .int .i64 z'] 24)) : RM w (wr.setCell ⟨q + 1, o, none⟩ (.int .i64 u)) B p a n cap xs pos v acc q nm ra rb tk pt x' y' z' := by
  have hp := h.pq
  have g := gr_set (gr_refl (some (q + 1)) wr) o (.int .i64 u)
  refine ⟨h.rd.kept g (by simp; omega) (fun k hk e => ?_), h.own.kept g (.inr (fun e => ?_)), h.bel.setCell (p := ⟨q + 1, o, none⟩) (by show B ≤ q + 1; omega) _, set_other h.row (by omega), hi, h.pq, h.vq, h.oq⟩
  · injection e with e; have := h.oq k hk; omega
  · have := h.vq _ e; omega
theorem set3b {w : World} {x : Nat} {a b c b' : Value} {t : TypeId} (h : w.heap[x]? = some (.cells #[a, b, c] t)) : (w.setCell ⟨x, 1, none⟩ b').heap[x]? = some (.cells #[a, b', c] t) := Joins.block_setCell (i := 1) h b'
theorem set3c {w : World} {x : Nat} {a b c c' : Value} {t : TypeId} (h : w.heap[x]? = some (.cells #[a, b, c] t)) : (w.setCell ⟨x, 2, none⟩ c').heap[x]? = some (.cells #[a, b, c'] t) := Joins.block_setCell (i := 2) h c'
end Go.Proofs.YtdbjdieegocdfaaDoor
