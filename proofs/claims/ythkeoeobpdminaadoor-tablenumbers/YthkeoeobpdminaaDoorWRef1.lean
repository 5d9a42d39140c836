/-
  WALKS: the document's answer (payoffref01): trim, at, above.
-/
import Derived.Test.YthkeoeobpdminaaDoorRows
import Derived.WalkKit
import Derived.WalkSpells
import Derived.BigQuiet
import Derived.Test.YthkeoeobpdminaaDoorPlainDig
import Derived.Test.YthkeoeobpdminaaDoorWMul
namespace Go.Proofs.YthkeoeobpdminaaDoor
open Go.RowKit

/-- A value that reads as a list of digits. -/
def Dg (w : World) (v : Value) (ds : List Int) : Prop :=
  Digs ds ∧ ds.length ≤ 1000 ∧ ∃ ao cap, v = .slice ao ds.length cap ∧ ds.length ≤ cap ∧ (cap ≤ maxLen ∧ (ao = none → cap = 0)) ∧
    (ds.length = 0 ∨ ∃ b off, ao = some ⟨b, off, none⟩ ∧ b < w.heap.size ∧ ∀ i, i < ds.length → w.cell? ⟨b, off + i, none⟩ = some (.int .i64 (ds.getD i 0)))

theorem Dg.later {w w' : World} {v : Value} {ds : List Int} (h : Dg w v ds) (hb : Below w.heap.size w w') : Dg w' v ds := by
  obtain ⟨h1, h2, ao, cap, hv, hc, hm, hd⟩ := h
  refine ⟨h1, h2, ao, cap, hv, hc, hm, ?_⟩
  rcases hd with h0 | ⟨b, off, ha, hlt, hcell⟩
  · exact Or.inl h0
  · exact Or.inr ⟨b, off, ha, Nat.lt_of_lt_of_le hlt hb.size, fun i hi => (hb.cell (p := ⟨b, off + i, none⟩) hlt).trans (hcell i hi)⟩
/-- What is not empty lies in a block from B on. -/
def Fresh (B : Nat) (v : Value) : Prop := ∀ p n c, v = .slice (some p) n c → n ≠ 0 → B ≤ p.block
theorem Fresh.mono {B B' : Nat} {v : Value} (h : Fresh B v) (hB : B' ≤ B) : Fresh B' v := fun p n c e hn => Nat.le_trans hB (h p n c e hn)
theorem Fresh.cut {B : Nat} {ao : Option Addr} {n c k : Nat} (h : Fresh B (.slice ao n c)) (hk : k ≤ n) : Fresh B (.slice ao k c) := fun p m c' e hm => by
  injection e with e1 e2 e3
  subst e1 e2
  exact h p n c rfl (by omega)
/-- A store into a box leaves digits of other blocks alone. -/
theorem Dg.set {w : World} {v : Value} {ds : List Int} (h : Dg w v ds) {k j : Nat} {B : Nat} (hf : Fresh B v) (hk : k < B) (u : Value) : Dg (w.setCell ⟨k, j, none⟩ u) v ds := by
  obtain ⟨h1, h2, ao, cap, hv, hc, hm, hd⟩ := h
  refine ⟨h1, h2, ao, cap, hv, hc, hm, ?_⟩
  rcases hd with h0 | ⟨b, off, ha, hlt, hcell⟩
  · exact Or.inl h0
  · by_cases h0 : ds.length = 0
    · exact Or.inl h0
    · have hb := hf ⟨b, off, none⟩ ds.length cap (by rw [hv, ha]) h0
      refine Or.inr ⟨b, off, ha, by simpa using hlt, fun i hi => ?_⟩
      rw [World.cell?_setCell_other _ _ _ _ (by intro e; injection e with e1; simp at hb; omega)]
      exact hcell i hi
theorem below_nq {B : Nat} {a w : World} (h : Below B a w) (n : Nat) : Below B a (w.drewN n) := ⟨h.os, h.tape, h.output, h.size, h.block⟩
theorem Dg.draws {w : World} {v : Value} {ds : List Int} (h : Dg w v ds) (n : Nat) : Dg (w.drewN n) v ds := h

theorem at_any (v : Value) (ds : List Int) (i : Nat) (w : World) (hi : i ≤ 100000) (hd : Dg w v ds) :
    Calls Tryd.prog 50 #[v, .int .i64 i] w fun e w' => e = .returned (.int .i64 (ds.getD i 0)) ∧ w' = w := by
  obtain ⟨h1, h2, ao, cap, rfl, hc, hm, hr⟩ := hd
  by_cases hlt : i < ds.length
  · rcases hr with h0 | ⟨b, off, rfl, hb, hcell⟩
    · omega
    · have hx := hcell i hlt
      clear hcell h1
      generalize ds.getD i 0 = d at *
      go_enter Tryd.func50, Tryd.ntmps50
      go_wp2
      go_ret
      exact ⟨rfl, rfl⟩
  · have e : ds.getD i 0 = 0 := by simp [List.getElem?_eq_none (Nat.le_of_not_lt hlt)]
    rw [e]
    clear hr h1 e
    go_enter Tryd.func50, Tryd.ntmps50
    go_wp2
    go_ret
    exact ⟨rfl, rfl⟩

theorem at_keep (v : Value) (ds : List Int) (i : Nat) (w : World) (hi : i ≤ 100000) (hd : Dg w v ds) :
    Calls Tryd.prog 50 #[v, .int .i64 i] w fun e w' => e = .returned (.int .i64 (ds.getD i 0)) ∧ w = w' := by
  refine (at_any v ds i w hi hd).mono ?_
  rintro e w' ⟨rfl, rfl⟩
  exact ⟨rfl, rfl⟩

end Go.Proofs.YthkeoeobpdminaaDoor
