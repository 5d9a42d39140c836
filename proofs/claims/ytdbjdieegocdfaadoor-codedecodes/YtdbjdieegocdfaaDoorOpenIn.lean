/-
  OPENING A SLICE OF INSTRUCTIONS THAT CAME IN (own work): structs of three ints.
-/
import Derived.ProofKit
import Derived.OpenShut
import Derived.Deep.Slices
import Derived.Test.YtdbjdieegocdfaaDoorPlainCode
namespace Go.Proofs.YtdbjdieegocdfaaDoor
open Go.ChangeShapes Go.WideShapes Go.ChangeAt Go.RowKit Go.Deep
def In.cellsO (i : In) : List Value := [.int .i64 i.o, .int .i64 i.a, .int .i64 i.b]
theorem addI_add (a : Addr) (m n : Nat) : (a.add m).add n = a.add (m + n) := by
  unfold Addr.add
  by_cases h1 : m = 0
  · subst h1; simp
  · by_cases h2 : n = 0
    · subst h2; simp
    · simp [h1, h2, Nat.add_assoc]
theorem trod_ins {H : Type} {enc : TypeId × Value → H} {P : Program} {W : World} {base : Nat} {sp : Nat → Bool} {held : Bool} {t e : TypeId} {fs : Array Field} {fuel : Nat} {cs : List Value} {x : DataW H × List MemPlace}
    (ht : P.underlying t = some (.struct fs)) (hfs : fs.toList.map (fun f => (f.type, f.offset)) = [(e, 0), (e, 1), (e, 2)]) (he : P.underlying e = some (.int .i64)) (hc : P.cellsOf e = 1) (hct : P.cellsOf t = 3)
    (h : DataW.trod enc P W base sp held fuel t cs = some x) : ∃ f : In, cs = f.cellsO := by
  obtain ⟨xs, n, _, _, hl, hlen, hfld⟩ := DataW.trod_struct ht h
  rw [hct] at hl
  obtain ⟨c0, c1, c2, rfl⟩ : ∃ a b c, cs = [a, b, c] := by
    match cs, hl with
    | [a, b, c], _ => exact ⟨a, b, c, rfl⟩
  have h3 : fs.size = 3 := by have := congrArg List.length hfs; simpa using this
  have fat : ∀ i (hi : i < 3), ∃ f, fs[i]? = some f ∧ (f.type, f.offset) = [(e, 0), (e, 1), (e, 2)][i] := fun i hi => by
    refine ⟨fs[i]'(by omega), by simp [show i < fs.size by omega], ?_⟩
    have : (fs.toList.map (fun f => (f.type, f.offset)))[i]? = [(e, 0), (e, 1), (e, 2)][i]? := by rw [hfs]
    simpa [show i < fs.size by omega, hi] using this
  have ex : ∀ i, i < 3 → ∃ y, xs[i]? = some y := fun i hi => ⟨xs[i]'(by omega), by simp [show i < xs.length by omega]⟩
  obtain ⟨f0, g0, e0⟩ := fat 0 (by omega)
  obtain ⟨f1, g1, e1⟩ := fat 1 (by omega)
  obtain ⟨f2, g2, e2⟩ := fat 2 (by omega)
  obtain ⟨y0, q0⟩ := ex 0 (by omega)
  obtain ⟨y1, q1⟩ := ex 1 (by omega)
  obtain ⟨y2, q2⟩ := ex 2 (by omega)
  have k0 := hfld 0 f0 g0
  have k1 := hfld 1 f1 g1
  have k2 := hfld 2 f2 g2
  simp at e0 e1 e2
  rw [q0, e0.1, e0.2, hc] at k0
  rw [q1, e1.1, e1.2, hc] at k1
  rw [q2, e2.1, e2.2, hc] at k2
  obtain ⟨z0, r0, _, w0⟩ := DataW.trod_int he k0
  obtain ⟨z1, r1, _, w1⟩ := DataW.trod_int he k1
  obtain ⟨z2, r2, _, w2⟩ := DataW.trod_int he k2
  simp at r0 r1 r2
  subst r0 r1 r2
  exact ⟨⟨z0, z1, z2⟩, rfl⟩

/-- A row of instructions, its spare room with it. -/
def IsIns (w : World) (a : Option Addr) (len cap : Nat) (fs : List In) : Prop :=
  (a = none ∧ len = 0 ∧ cap = 0 ∧ fs = []) ∨
  ∃ x, a = some x ∧ len ≤ cap ∧ cap ≤ maxLen ∧ fs.length = len ∧ ∀ i, i < len → w.cell? (x.add (i * 3)) = some (.int .i64 (fs.getD i default).o) ∧ w.cell? (x.add (i * 3 + 1)) = some (.int .i64 (fs.getD i default).a) ∧ w.cell? (x.add (i * 3 + 2)) = some (.int .i64 (fs.getD i default).b)

theorem open_ins {H : Type} {enc : TypeId × Value → H} {P : Program} {W : World} {base : Nat} {sp : Nat → Bool} {held : Bool} {T t e : TypeId} {fs : Array Field} {fuel : Nat} {a : Option Addr} {len cap : Nat} {x : DataW H × List MemPlace}
    (hT : P.underlying T = some (.slice t)) (ht : P.underlying t = some (.struct fs)) (hfs : fs.toList.map (fun f => (f.type, f.offset)) = [(e, 0), (e, 1), (e, 2)]) (he : P.underlying e = some (.int .i64)) (hc : P.cellsOf e = 1) (hct : P.cellsOf t = 3)
    (h : DataW.trod enc P W base sp held fuel T [.slice a len cap] = some x) : ∃ fl, IsIns W a len cap fl ∧ (len = 0 ∨ ∃ l r, x.1 = .slice l r ∧ l.length = len) := by
  rcases open_slice hT h with ⟨h0, _⟩ | ⟨y, l, c, m, n, D, Pl, h0, hb, hl, hm, hmm, xe, hx⟩
  · simp at h0
    exact ⟨[], .inl ⟨h0.1, h0.2.1, h0.2.2, rfl⟩, .inl h0.2.1⟩
  · simp at h0
    obtain ⟨rfl, rfl, rfl⟩ := h0
    have hlm : len ≤ m := by rw [hmm]; split <;> omega
    obtain ⟨F, hF⟩ := choose_lt (α := In) (n := len) (p := fun i f => W.cell? (y.add (i * 3)) = some (.int .i64 f.o) ∧ W.cell? (y.add (i * 3 + 1)) = some (.int .i64 f.a) ∧ W.cell? (y.add (i * 3 + 2)) = some (.int .i64 f.b)) (fun i hi => by
      obtain ⟨cs', h1, h2⟩ := hx i (by omega)
      rw [hct] at h1
      obtain ⟨_, _, h3⟩ := World.cells?_some h1
      obtain ⟨f, rfl⟩ := trod_ins ht hfs he hc hct h2
      have a0 := h3 0 (by omega)
      have a1 := h3 1 (by omega)
      have a2 := h3 2 (by omega)
      rw [addI_add] at a0 a1 a2
      exact ⟨f, a0, a1, a2⟩)
    have g : ∀ i, i < len → ((List.range len).map F).getD i default = F i := fun i hi => by simp [hi]
    refine ⟨(List.range len).map F, .inr ⟨y, rfl, hl, hm, by simp, fun i hi => by rw [g i hi]; exact hF i hi⟩, .inr ⟨_, _, by rw [xe], by simp⟩⟩
end Go.Proofs.YtdbjdieegocdfaaDoor
