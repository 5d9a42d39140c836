/-
  OPENING A STRUCT OF SEVEN INTS THAT CAME IN (own work).
-/
import Derived.ProofKit
import Derived.OpenShut
namespace Go.Proofs.Ytdoalgfmcbmefaa
open Go.ChangeShapes Go.WideShapes Go.ChangeAt Go.RowKit

theorem open_seven {H : Type} {enc : TypeId × Value → H} {P : Program} {W : World} {r : Reach} {b0 base : Nat} {sp : Nat → Bool} {held : Bool} {t e : TypeId} {fs : Array Field} {v : Value} {d : DataW H} {ps : List MemPlace}
    (ht : P.underlying t = some (.struct fs)) (hfs : fs.toList.map (fun f => (f.type, f.offset)) = [(e, 0), (e, 1), (e, 2), (e, 3), (e, 4), (e, 5), (e, 6)]) (he : P.underlying e = some (.int .i64)) (hc : P.cellsOf e = 1) (hct : P.cellsOf t = 7)
    (hok : Value.okWide P W r b0 t v) (h : DataW.Trod enc P W base sp held t v d ps) :
    ∃ x0 x1 x2 x3 x4 x5 x6 : Int, v = .agg #[.int .i64 x0, .int .i64 x1, .int .i64 x2, .int .i64 x3, .int .i64 x4, .int .i64 x5, .int .i64 x6] ∧ (Lit.int .i64 x0).wf = true ∧ (Lit.int .i64 x1).wf = true ∧ (Lit.int .i64 x2).wf = true ∧ (Lit.int .i64 x3).wf = true ∧ (Lit.int .i64 x4).wf = true ∧ (Lit.int .i64 x5).wf = true ∧ (Lit.int .i64 x6).wf = true := by
  obtain ⟨cs, rfl, hsz⟩ := okWide_struct ht hok
  obtain ⟨fuel, hf⟩ := h
  obtain ⟨xs, n, _, _, hl, hlen, hfld⟩ := DataW.trod_struct ht hf
  rw [hct] at hsz
  obtain ⟨c0, c1, c2, c3, c4, c5, c6, rfl⟩ : ∃ c0 c1 c2 c3 c4 c5 c6, cs = #[c0, c1, c2, c3, c4, c5, c6] := by
    obtain ⟨l⟩ := cs
    match l, hsz with
    | [c0, c1, c2, c3, c4, c5, c6], _ => exact ⟨c0, c1, c2, c3, c4, c5, c6, rfl⟩
  have h3 : fs.size = 7 := by have := congrArg List.length hfs; simpa using this
  have fat : ∀ i (hi : i < 7), ∃ f, fs[i]? = some f ∧ (f.type, f.offset) = [(e, 0), (e, 1), (e, 2), (e, 3), (e, 4), (e, 5), (e, 6)][i] := fun i hi => by
    refine ⟨fs[i]'(by omega), by simp [show i < fs.size by omega], ?_⟩
    have : (fs.toList.map (fun f => (f.type, f.offset)))[i]? = [(e, 0), (e, 1), (e, 2), (e, 3), (e, 4), (e, 5), (e, 6)][i]? := by rw [hfs]
    simpa [show i < fs.size by omega, hi] using this
  have key : ∀ i (hi : i < 7) c, (#[c0, c1, c2, c3, c4, c5, c6] : Array Value)[i]? = some c → ∃ z, c = .int .i64 z ∧ (Lit.int .i64 z).wf = true := by
    intro i hi c hcc
    obtain ⟨f, hfi, hfe⟩ := fat i hi
    have hx := hfld i f hfi
    obtain ⟨y, hy⟩ : ∃ y, xs[i]? = some y := ⟨xs[i]'(by omega), by simp [show i < xs.length by omega]⟩
    rw [hy] at hx
    have ft : f.type = e := by
      have := congrArg Prod.fst hfe
      rcases (show i = 0 ∨ i = 1 ∨ i = 2 ∨ i = 3 ∨ i = 4 ∨ i = 5 ∨ i = 6 by omega) with rfl | rfl | rfl | rfl | rfl | rfl | rfl <;> simpa using this
    have fo : f.offset = i := by
      have := congrArg Prod.snd hfe
      rcases (show i = 0 ∨ i = 1 ∨ i = 2 ∨ i = 3 ∨ i = 4 ∨ i = 5 ∨ i = 6 by omega) with rfl | rfl | rfl | rfl | rfl | rfl | rfl <;> simpa using this
    rw [ft, fo, hc] at hx
    obtain ⟨z, hz, _, hw⟩ := DataW.trod_int he hx
    refine ⟨z, ?_, hw⟩
    rcases (show i = 0 ∨ i = 1 ∨ i = 2 ∨ i = 3 ∨ i = 4 ∨ i = 5 ∨ i = 6 by omega) with rfl | rfl | rfl | rfl | rfl | rfl | rfl <;> (simp [Value.cells] at hz hcc; rw [← hcc, hz])
  obtain ⟨x0, rfl, w0⟩ := key 0 (by omega) c0 rfl
  obtain ⟨x1, rfl, w1⟩ := key 1 (by omega) c1 rfl
  obtain ⟨x2, rfl, w2⟩ := key 2 (by omega) c2 rfl
  obtain ⟨x3, rfl, w3⟩ := key 3 (by omega) c3 rfl
  obtain ⟨x4, rfl, w4⟩ := key 4 (by omega) c4 rfl
  obtain ⟨x5, rfl, w5⟩ := key 5 (by omega) c5 rfl
  obtain ⟨x6, rfl, w6⟩ := key 6 (by omega) c6 rfl
  exact ⟨x0, x1, x2, x3, x4, x5, x6, rfl, w0, w1, w2, w3, w4, w5, w6⟩
end Go.Proofs.Ytdoalgfmcbmefaa
