import Derived.Test.YtldplmchgmoopaaDoorXAG
import Derived.Lib.LaidTab
import Derived.Stop.LaidErr
namespace Go.Proofs.YtldplmchgmoopaaDoor
open Go.ChangeShapes Go.WideShapes Go.ChangeAt Go.RowKit Go.Deep
set_option linter.unusedVariables false

theorem trod_cl2 {H : Type} {enc : TypeId × Value → H} {P : Program} {W : World} {base : Nat} {sp : Nat → Bool} {held : Bool} {t bt e : TypeId} {fs : Array Field} {fuel : Nat} {h0 : Bool} {v0 : Int} {p : List MemPlace} {cs : List Value}
    (ht : P.underlying t = some (.struct fs)) (hfs : fs.toList.map (fun f => (f.type, f.offset)) = [(bt, 0), (e, 1)]) (hb : P.underlying bt = some .bool) (he : P.underlying e = some (.int .i64)) (hcb : P.cellsOf bt = 1) (hce : P.cellsOf e = 1) (hct : P.cellsOf t = 2)
    (h : DataW.trod enc P W base sp held fuel t cs = some (.agg [.lit (.bool h0), .lit (.int .i64 v0)], p)) : cs = [.bool h0, .int .i64 v0] := by
  obtain ⟨xs, n, _, hx, hl, hlen, hfld⟩ := DataW.trod_struct ht h
  rw [hct] at hl
  obtain ⟨c0, c1, rfl⟩ : ∃ a b, cs = [a, b] := by
    match cs, hl with
    | [a, b], _ => exact ⟨a, b, rfl⟩
  have h3 : fs.size = 2 := by have := congrArg List.length hfs; simpa using this
  have fat : ∀ i (hi : i < 2), ∃ f, fs[i]? = some f ∧ (f.type, f.offset) = [(bt, 0), (e, 1)][i] := fun i hi => by
    refine ⟨fs[i]'(by omega), by simp [show i < fs.size by omega], ?_⟩
    have : (fs.toList.map (fun f => (f.type, f.offset)))[i]? = [(bt, 0), (e, 1)][i]? := by rw [hfs]
    simpa [show i < fs.size by omega, hi] using this
  obtain ⟨f0, g0, e0⟩ := fat 0 (by omega)
  obtain ⟨f1, g1, e1⟩ := fat 1 (by omega)
  obtain ⟨y0, y1, rfl⟩ : ∃ a b, xs = [a, b] := by
    have : xs.length = 2 := by omega
    match xs, this with
    | [a, b], _ => exact ⟨a, b, rfl⟩
  have k0 := hfld 0 f0 g0
  have k1 := hfld 1 f1 g1
  simp at e0 e1
  simp only [List.getElem?_cons_zero, List.getElem?_cons_succ] at k0 k1
  rw [e0.1, e0.2, hcb] at k0
  rw [e1.1, e1.2, hce] at k1
  obtain ⟨z0, r0, q0⟩ := DataW.trod_bool hb k0
  obtain ⟨z1, r1, q1, _⟩ := DataW.trod_int he k1
  simp at r0 r1
  subst r0 r1
  have hx1 := congrArg Prod.fst hx
  simp only [List.map_cons, List.map_nil, DataW.agg.injEq, List.cons.injEq, and_true] at hx1
  rw [q0, q1] at hx1
  simp at hx1
  rw [hx1.1, hx1.2]

end Go.Proofs.YtldplmchgmoopaaDoor
