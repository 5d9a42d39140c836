/-
  OPENING A SLICE OF ITEMS, WITH THEIR READINGS (own work).
-/
import Derived.Test.YtfgmgcllplgpnaaOpenOp
namespace Go.Proofs.Ytfgmgcllplgpnaa
open Go.ChangeShapes Go.WideShapes Go.ChangeAt Go.RowKit Go.Deep

theorem trod_it2 {H : Type} {enc : TypeId × Value → H} {P : Program} {W : World} {base : Nat} {sp : Nat → Bool} {held : Bool} {t e u s : TypeId} {fs : Array Field} {fuel : Nat} {f : It4} {x : DataW H × List MemPlace}
    (ht : P.underlying t = some (.struct fs)) (hfs : fs.toList.map (fun f => (f.type, f.offset)) = [(e, 0), (u, 1), (e, 2), (s, 3)]) (hs : P.underlying s = some .string) (hcs : P.cellsOf s = 1)
    (h : DataW.trod enc P W base sp held fuel t f.cells = some x) : ∃ l, x.1 = .agg l ∧ DataW.lit (.string f.s.data.toList) ∈ l := by
  obtain ⟨xs, n, _, hx, hl, hlen, hfld⟩ := DataW.trod_struct ht h
  have h3 : fs.size = 4 := by have := congrArg List.length hfs; simpa using this
  have g3 : fs[3]? = some (fs[3]'(by omega)) := by simp [show 3 < fs.size by omega]
  have e3 : ((fs[3]'(by omega)).type, (fs[3]'(by omega)).offset) = (s, 3) := by
    have : (fs.toList.map (fun f => (f.type, f.offset)))[3]? = [(e, 0), (u, 1), (e, 2), (s, 3)][3]? := by rw [hfs]
    simpa [show 3 < fs.size by omega] using this
  have k3 := hfld 3 _ g3
  simp at e3
  have q3 : xs[3]? = some (xs[3]'(by omega)) := by simp [show 3 < xs.length by omega]
  rw [q3, e3.1, e3.2, hcs] at k3
  obtain ⟨z3, r3, w3, _⟩ := DataW.trod_string hs k3
  simp [It4.cells] at r3
  refine ⟨xs.map (·.1), by rw [hx], ?_⟩
  rw [r3]
  refine List.mem_map.2 ⟨xs[3]'(by omega), List.getElem_mem _, ?_⟩
  rw [w3]

theorem open_its2 {H : Type} {enc : TypeId × Value → H} {P : Program} {W : World} {base : Nat} {sp : Nat → Bool} {held : Bool} {T t e u s : TypeId} {fs : Array Field} {fuel : Nat} {a : Option Addr} {len cap : Nat} {x : DataW H × List MemPlace}
    (hT : P.underlying T = some (.slice t)) (ht : P.underlying t = some (.struct fs)) (hfs : fs.toList.map (fun f => (f.type, f.offset)) = [(e, 0), (u, 1), (e, 2), (s, 3)]) (he : P.underlying e = some (.int .i64)) (hu : P.underlying u = some (.int .u64)) (hs : P.underlying s = some .string) (hce : P.cellsOf e = 1) (hcu : P.cellsOf u = 1) (hcs : P.cellsOf s = 1) (hct : P.cellsOf t = 4)
    (h : DataW.trod enc P W base sp held fuel T [.slice a len cap] = some x) : ∃ fl, IsIts W a len cap fl ∧ (len = 0 ∨ ∃ l r, x.1 = .slice l r ∧ l.length = len ∧ ∀ f ∈ fl, ∃ q, DataW.agg q ∈ l ∧ DataW.lit (.string f.s.data.toList) ∈ q) := by
  rcases open_slice hT h with ⟨h0, _⟩ | ⟨y, l, c, m, n, D, Pl, h0, hb, hl, hm, hmm, xe, hx⟩
  · simp at h0
    exact ⟨[], .inl ⟨h0.1, h0.2.1, h0.2.2, rfl⟩, .inl h0.2.1⟩
  · simp at h0
    obtain ⟨rfl, rfl, rfl⟩ := h0
    have hlm : len ≤ m := by rw [hmm]; split <;> omega
    obtain ⟨F, hF⟩ := choose_lt (α := It4) (n := len) (p := fun i f => f.wf ∧ (∃ q, D i = .agg q ∧ DataW.lit (.string f.s.data.toList) ∈ q) ∧ W.cell? (y.add (i * 4)) = some (.int .i64 f.k) ∧ W.cell? (y.add (i * 4 + 1)) = some (.int .u64 f.x) ∧ W.cell? (y.add (i * 4 + 2)) = some (.int .i64 f.y) ∧ W.cell? (y.add (i * 4 + 3)) = some (.string f.s)) (fun i hi => by
      obtain ⟨cs', h1, h2⟩ := hx i (by omega)
      rw [hct] at h1
      obtain ⟨_, _, h3⟩ := World.cells?_some h1
      obtain ⟨f, rfl, w⟩ := trod_it ht hfs he hu hs hce hcu hcs hct h2
      obtain ⟨q, q1, q2⟩ := trod_it2 ht hfs hs hcs h2
      have a0 := h3 0 (by omega)
      have a1 := h3 1 (by omega)
      have a2 := h3 2 (by omega)
      have a3 := h3 3 (by omega)
      rw [addO_add] at a0 a1 a2 a3
      exact ⟨f, w, ⟨q, q1, q2⟩, a0, a1, a2, a3⟩)
    have g : ∀ i, i < len → ((List.range len).map F).getD i default = F i := fun i hi => by simp [hi]
    refine ⟨(List.range len).map F, .inr ⟨y, rfl, hl, hm, by simp, ?_, fun i hi => by rw [g i hi]; exact (hF i hi).2.2⟩, .inr ⟨_, _, by rw [xe], by simp, ?_⟩⟩
    · intro f hf
      simp at hf
      obtain ⟨i, hi, rfl⟩ := hf
      exact (hF i hi).1
    · intro f hf
      simp at hf
      obtain ⟨i, hi, rfl⟩ := hf
      obtain ⟨q, q1, q2⟩ := (hF i hi).2.1
      exact ⟨q, by rw [← q1]; simp; exact ⟨i, hi, rfl⟩, q2⟩
end Go.Proofs.Ytfgmgcllplgpnaa
