/-
  HOW MANY YthkeoeobpdminaaDoorS A TABLE's READING HAS (own work).
-/
import Derived.Test.YthkeoeobpdminaaDoorOpenTab
namespace Go.Proofs.YthkeoeobpdminaaDoor
open Go.ChangeShapes Go.WideShapes Go.ChangeAt Go.RowKit Go.Deep
set_option linter.unusedVariables false

theorem table_names {H : Type} {enc : TypeId × Value → H} {P : Program} {W : World} {base : Nat} {sp : Nat → Bool} {held : Bool} {S N s TT : TypeId} {fS : Array Field} {a : Option Addr} {ln cn : Nat} {v1 : Value} {d : DataW H} {ps : List MemPlace}
    (hS : P.underlying S = some (.struct fS)) (hfS : fS.toList.map (fun f => (f.type, f.offset)) = [(N, 0), (TT, 1)]) (hcS : P.cellsOf S = 2) (hcN : P.cellsOf N = 1) (hN : P.underlying N = some (.slice s))
    (h : DataW.Trod enc P W base sp held S (.agg #[.slice a ln cn, v1]) d ps) : ∃ e0 e1, d = .agg [e0, e1] ∧ (ln = 0 ∨ ∃ l r, e0 = .slice l r ∧ l.length = ln) := by
  obtain ⟨fuel, hf⟩ := h
  obtain ⟨xs, n, _, hd, hl, hlen, hfld⟩ := DataW.trod_struct hS hf
  have h3 : fS.size = 2 := by have := congrArg List.length hfS; simpa using this
  obtain ⟨y0, y1, rfl⟩ : ∃ a b, xs = [a, b] := by
    have : xs.length = 2 := by omega
    match xs, this with
    | [a, b], _ => exact ⟨a, b, rfl⟩
  have g0 : fS[0]? = some (fS[0]'(by omega)) := by simp [show 0 < fS.size by omega]
  have e0 : ((fS[0]'(by omega)).type, (fS[0]'(by omega)).offset) = (N, 0) := by
    have : (fS.toList.map (fun f => (f.type, f.offset)))[0]? = [(N, 0), (TT, 1)][0]? := by rw [hfS]
    simpa [show 0 < fS.size by omega] using this
  have k0 := hfld 0 _ g0
  simp only [Prod.mk.injEq] at e0
  rw [e0.1, e0.2, hcN] at k0
  simp [Value.cells] at k0
  have hd1 : d = .agg ([y0, y1].map (·.1)) := by have := congrArg Prod.fst hd; simpa using this
  refine ⟨y0.1, y1.1, hd1, ?_⟩
  rcases open_slice hN k0 with ⟨h0, _⟩ | ⟨y, l, c, m, n, D, Pl, h0, hbb, hl, hm, hmm, xe, hx⟩
  · simp at h0; exact .inl h0.2.1
  · simp at h0
    obtain ⟨rfl, rfl, rfl⟩ := h0
    exact .inr ⟨_, _, by rw [xe], by simp⟩
end Go.Proofs.YthkeoeobpdminaaDoor
