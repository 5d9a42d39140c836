/-
  OPENING A STRUCT OF INTS THAT CAME IN (own work): two fields, or three.
-/
import Derived.ProofKit
import Derived.OpenShut
namespace Go.Proofs.YtlcidigcecmnpaaDoor
open Go.ChangeShapes Go.WideShapes Go.ChangeAt Go.RowKit

theorem open_three {H : Type} {enc : TypeId × Value → H} {P : Program} {W : World} {r : Reach} {b0 base : Nat} {sp : Nat → Bool} {held : Bool} {t e : TypeId} {fs : Array Field} {v : Value} {d : DataW H} {ps : List MemPlace}
    (ht : P.underlying t = some (.struct fs)) (hfs : fs.toList.map (fun f => (f.type, f.offset)) = [(e, 0), (e, 1), (e, 2)]) (he : P.underlying e = some (.int .i64)) (hc : P.cellsOf e = 1) (hct : P.cellsOf t = 3)
    (hok : Value.okWide P W r b0 t v) (h : DataW.Trod enc P W base sp held t v d ps) :
    ∃ y m z : Int, v = .agg #[.int .i64 y, .int .i64 m, .int .i64 z] ∧ (Lit.int .i64 y).wf = true ∧ (Lit.int .i64 m).wf = true ∧ (Lit.int .i64 z).wf = true := by
  obtain ⟨cs, rfl, hsz⟩ := okWide_struct ht hok
  obtain ⟨fuel, hf⟩ := h
  obtain ⟨xs, n, _, _, hl, hlen, hfld⟩ := DataW.trod_struct ht hf
  rw [hct] at hsz
  obtain ⟨c0, c1, c2, rfl⟩ : ∃ a b c, cs = #[a, b, c] := by
    obtain ⟨l⟩ := cs
    match l, hsz with
    | [a, b, c], _ => exact ⟨a, b, c, rfl⟩
  have h3 : fs.size = 3 := by have := congrArg List.length hfs; simpa using this
  have fat : ∀ i (hi : i < 3), ∃ f, fs[i]? = some f ∧ (f.type, f.offset) = [(e, 0), (e, 1), (e, 2)][i] := fun i hi => by
    refine ⟨fs[i]'(by omega), by simp [show i < fs.size by omega], ?_⟩
    have : (fs.toList.map (fun f => (f.type, f.offset)))[i]? = [(e, 0), (e, 1), (e, 2)][i]? := by rw [hfs]
    simpa [show i < fs.size by omega, hi] using this
  have key : ∀ i (hi : i < 3) c, (#[c0, c1, c2] : Array Value)[i]? = some c → ∃ z, c = .int .i64 z ∧ (Lit.int .i64 z).wf = true := by
    intro i hi c hcc
    obtain ⟨f, hfi, hfe⟩ := fat i hi
    have hx := hfld i f hfi
    obtain ⟨y, hy⟩ : ∃ y, xs[i]? = some y := ⟨xs[i]'(by omega), by simp [show i < xs.length by omega]⟩
    rw [hy] at hx
    have ft : f.type = e := by
      have := congrArg Prod.fst hfe
      rcases (show i = 0 ∨ i = 1 ∨ i = 2 by omega) with rfl | rfl | rfl <;> simpa using this
    have fo : f.offset = i := by
      have := congrArg Prod.snd hfe
      rcases (show i = 0 ∨ i = 1 ∨ i = 2 by omega) with rfl | rfl | rfl <;> simpa using this
    rw [ft, fo, hc] at hx
    obtain ⟨z, hz, _, hw⟩ := DataW.trod_int he hx
    refine ⟨z, ?_, hw⟩
    rcases (show i = 0 ∨ i = 1 ∨ i = 2 by omega) with rfl | rfl | rfl <;> (simp [Value.cells] at hz hcc; rw [← hcc, hz])
  obtain ⟨y, rfl, wy⟩ := key 0 (by omega) c0 rfl
  obtain ⟨m, rfl, wm⟩ := key 1 (by omega) c1 rfl
  obtain ⟨z, rfl, wz⟩ := key 2 (by omega) c2 rfl
  exact ⟨y, m, z, rfl, wy, wm, wz⟩

theorem open_two {H : Type} {enc : TypeId × Value → H} {P : Program} {W : World} {r : Reach} {b0 base : Nat} {sp : Nat → Bool} {held : Bool} {t e : TypeId} {fs : Array Field} {v : Value} {d : DataW H} {ps : List MemPlace}
    (ht : P.underlying t = some (.struct fs)) (hfs : fs.toList.map (fun f => (f.type, f.offset)) = [(e, 0), (e, 1)]) (he : P.underlying e = some (.int .i64)) (hc : P.cellsOf e = 1) (hct : P.cellsOf t = 2)
    (hok : Value.okWide P W r b0 t v) (h : DataW.Trod enc P W base sp held t v d ps) :
    ∃ y m : Int, v = .agg #[.int .i64 y, .int .i64 m] ∧ (Lit.int .i64 y).wf = true ∧ (Lit.int .i64 m).wf = true := by
  obtain ⟨cs, rfl, hsz⟩ := okWide_struct ht hok
  obtain ⟨fuel, hf⟩ := h
  obtain ⟨xs, n, _, _, hl, hlen, hfld⟩ := DataW.trod_struct ht hf
  rw [hct] at hsz
  obtain ⟨c0, c1, rfl⟩ : ∃ a b, cs = #[a, b] := by
    obtain ⟨l⟩ := cs
    match l, hsz with
    | [a, b], _ => exact ⟨a, b, rfl⟩
  have h3 : fs.size = 2 := by have := congrArg List.length hfs; simpa using this
  have fat : ∀ i (hi : i < 2), ∃ f, fs[i]? = some f ∧ (f.type, f.offset) = [(e, 0), (e, 1)][i] := fun i hi => by
    refine ⟨fs[i]'(by omega), by simp [show i < fs.size by omega], ?_⟩
    have : (fs.toList.map (fun f => (f.type, f.offset)))[i]? = [(e, 0), (e, 1)][i]? := by rw [hfs]
    simpa [show i < fs.size by omega, hi] using this
  have key : ∀ i (hi : i < 2) c, (#[c0, c1] : Array Value)[i]? = some c → ∃ z, c = .int .i64 z ∧ (Lit.int .i64 z).wf = true := by
    intro i hi c hcc
    obtain ⟨f, hfi, hfe⟩ := fat i hi
    have hx := hfld i f hfi
    obtain ⟨y, hy⟩ : ∃ y, xs[i]? = some y := ⟨xs[i]'(by omega), by simp [show i < xs.length by omega]⟩
    rw [hy] at hx
    have ft : f.type = e := by
      have := congrArg Prod.fst hfe
      rcases (show i = 0 ∨ i = 1 by omega) with rfl | rfl <;> simpa using this
    have fo : f.offset = i := by
      have := congrArg Prod.snd hfe
      rcases (show i = 0 ∨ i = 1 by omega) with rfl | rfl <;> simpa using this
    rw [ft, fo, hc] at hx
    obtain ⟨z, hz, _, hw⟩ := DataW.trod_int he hx
    refine ⟨z, ?_, hw⟩
    rcases (show i = 0 ∨ i = 1 by omega) with rfl | rfl <;> (simp [Value.cells] at hz hcc; rw [← hcc, hz])
  obtain ⟨y, rfl, wy⟩ := key 0 (by omega) c0 rfl
  obtain ⟨m, rfl, wm⟩ := key 1 (by omega) c1 rfl
  exact ⟨y, m, rfl, wy, wm⟩
end Go.Proofs.YtlcidigcecmnpaaDoor
