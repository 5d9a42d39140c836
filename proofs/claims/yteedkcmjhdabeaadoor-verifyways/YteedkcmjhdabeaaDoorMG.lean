/-
  OPENING A SLICE OF CALLS (int, uint64, int) AND OF ITEMS (int, uint64, int, string) THAT CAME IN (own work).
-/
import Derived.ProofKit
import Derived.OpenShut
import Derived.Deep.Slices
namespace Go.Proofs.YteedkcmjhdabeaaDoor
open Go.ChangeShapes Go.WideShapes Go.ChangeAt Go.RowKit Go.Deep

theorem addO_add (a : Addr) (m n : Nat) : (a.add m).add n = a.add (m + n) := by
  unfold Addr.add
  by_cases h1 : m = 0
  · subst h1; simp
  · by_cases h2 : n = 0
    · subst h2; simp
    · simp [h1, h2, Nat.add_assoc]

structure Op3 where
  k : Int
  l : Int
  n : Int
  deriving Inhabited
def Op3.wf (f : Op3) : Prop := (Lit.int .i64 f.k).wf = true ∧ (Lit.int .u64 f.l).wf = true ∧ (Lit.int .i64 f.n).wf = true
def Op3.cells (f : Op3) : List Value := [.int .i64 f.k, .int .u64 f.l, .int .i64 f.n]

theorem trod_op {H : Type} {enc : TypeId × Value → H} {P : Program} {W : World} {base : Nat} {sp : Nat → Bool} {held : Bool} {t e u : TypeId} {fs : Array Field} {fuel : Nat} {cs : List Value} {x : DataW H × List MemPlace}
    (ht : P.underlying t = some (.struct fs)) (hfs : fs.toList.map (fun f => (f.type, f.offset)) = [(e, 0), (u, 1), (e, 2)]) (he : P.underlying e = some (.int .i64)) (hu : P.underlying u = some (.int .u64)) (hce : P.cellsOf e = 1) (hcu : P.cellsOf u = 1) (hct : P.cellsOf t = 3)
    (h : DataW.trod enc P W base sp held fuel t cs = some x) : ∃ f : Op3, cs = f.cells ∧ f.wf := by
  obtain ⟨xs, n, _, _, hl, hlen, hfld⟩ := DataW.trod_struct ht h
  rw [hct] at hl
  obtain ⟨c0, c1, c2, rfl⟩ : ∃ a0 a1 a2, cs = [a0, a1, a2] := by
    match cs, hl with
    | [a0, a1, a2], _ => exact ⟨a0, a1, a2, rfl⟩
  have h3 : fs.size = 3 := by have := congrArg List.length hfs; simpa using this
  have fat : ∀ i (hi : i < 3), ∃ f, fs[i]? = some f ∧ (f.type, f.offset) = [(e, 0), (u, 1), (e, 2)][i] := fun i hi => by
    refine ⟨fs[i]'(by omega), by simp [show i < fs.size by omega], ?_⟩
    have : (fs.toList.map (fun f => (f.type, f.offset)))[i]? = [(e, 0), (u, 1), (e, 2)][i]? := by rw [hfs]
    simpa [show i < fs.size by omega, hi] using this
  have ex : ∀ i, i < 3 → ∃ y, xs[i]? = some y := fun i hi => ⟨xs[i]'(by omega), by simp [show i < xs.length by omega]⟩
  obtain ⟨f0, g0, e0⟩ := fat 0 (by omega)
  obtain ⟨y0, q0⟩ := ex 0 (by omega)
  have k0 := hfld 0 f0 g0
  obtain ⟨f1, g1, e1⟩ := fat 1 (by omega)
  obtain ⟨y1, q1⟩ := ex 1 (by omega)
  have k1 := hfld 1 f1 g1
  obtain ⟨f2, g2, e2⟩ := fat 2 (by omega)
  obtain ⟨y2, q2⟩ := ex 2 (by omega)
  have k2 := hfld 2 f2 g2
  simp at e0 e1 e2
  rw [q0, e0.1, e0.2, hce] at k0
  rw [q1, e1.1, e1.2, hcu] at k1
  rw [q2, e2.1, e2.2, hce] at k2
  obtain ⟨z0, r0, _, w0⟩ := DataW.trod_int he k0
  obtain ⟨z1, r1, _, w1⟩ := DataW.trod_int hu k1
  obtain ⟨z2, r2, _, w2⟩ := DataW.trod_int he k2
  simp at r0 r1 r2
  subst r0 r1 r2
  exact ⟨⟨z0, z1, z2⟩, rfl, w0, w1, w2⟩

def IsOps (w : World) (a : Option Addr) (len cap : Nat) (fs : List Op3) : Prop :=
  (a = none ∧ len = 0 ∧ cap = 0 ∧ fs = []) ∨
  ∃ x, a = some x ∧ len ≤ cap ∧ cap ≤ maxLen ∧ fs.length = len ∧ (∀ f ∈ fs, f.wf) ∧ ∀ i, i < len → w.cell? (x.add (i * 3)) = some (.int .i64 (fs.getD i default).k) ∧ w.cell? (x.add (i * 3 + 1)) = some (.int .u64 (fs.getD i default).l) ∧ w.cell? (x.add (i * 3 + 2)) = some (.int .i64 (fs.getD i default).n)

theorem open_ops {H : Type} {enc : TypeId × Value → H} {P : Program} {W : World} {base : Nat} {sp : Nat → Bool} {held : Bool} {T t e u : TypeId} {fs : Array Field} {fuel : Nat} {a : Option Addr} {len cap : Nat} {x : DataW H × List MemPlace}
    (hT : P.underlying T = some (.slice t)) (ht : P.underlying t = some (.struct fs)) (hfs : fs.toList.map (fun f => (f.type, f.offset)) = [(e, 0), (u, 1), (e, 2)]) (he : P.underlying e = some (.int .i64)) (hu : P.underlying u = some (.int .u64)) (hce : P.cellsOf e = 1) (hcu : P.cellsOf u = 1) (hct : P.cellsOf t = 3)
    (h : DataW.trod enc P W base sp held fuel T [.slice a len cap] = some x) : ∃ fl, IsOps W a len cap fl ∧ (len = 0 ∨ ∃ l r, x.1 = .slice l r ∧ l.length = len) := by
  rcases open_slice hT h with ⟨h0, _⟩ | ⟨y, l, c, m, n, D, Pl, h0, hb, hl, hm, hmm, xe, hx⟩
  · simp at h0
    exact ⟨[], .inl ⟨h0.1, h0.2.1, h0.2.2, rfl⟩, .inl h0.2.1⟩
  · simp at h0
    obtain ⟨rfl, rfl, rfl⟩ := h0
    have hlm : len ≤ m := by rw [hmm]; split <;> omega
    obtain ⟨F, hF⟩ := choose_lt (α := Op3) (n := len) (p := fun i f => f.wf ∧ W.cell? (y.add (i * 3)) = some (.int .i64 f.k) ∧ W.cell? (y.add (i * 3 + 1)) = some (.int .u64 f.l) ∧ W.cell? (y.add (i * 3 + 2)) = some (.int .i64 f.n)) (fun i hi => by
      obtain ⟨cs', h1, h2⟩ := hx i (by omega)
      rw [hct] at h1
      obtain ⟨_, _, h3⟩ := World.cells?_some h1
      obtain ⟨f, rfl, w⟩ := trod_op ht hfs he hu hce hcu hct h2
      have a0 := h3 0 (by omega)
      have a1 := h3 1 (by omega)
      have a2 := h3 2 (by omega)
      rw [addO_add] at a0 a1 a2
      exact ⟨f, w, a0, a1, a2⟩)
    have g : ∀ i, i < len → ((List.range len).map F).getD i default = F i := fun i hi => by simp [hi]
    refine ⟨(List.range len).map F, .inr ⟨y, rfl, hl, hm, by simp, ?_, fun i hi => by rw [g i hi]; exact (hF i hi).2⟩, .inr ⟨_, _, by rw [xe], by simp⟩⟩
    intro f hf
    simp at hf
    obtain ⟨i, hi, rfl⟩ := hf
    exact (hF i hi).1

structure It4 where
  k : Int
  x : Int
  y : Int
  s : ByteArray
  deriving Inhabited
def It4.wf (f : It4) : Prop := (Lit.int .i64 f.k).wf = true ∧ (Lit.int .u64 f.x).wf = true ∧ (Lit.int .i64 f.y).wf = true ∧ f.s.size ≤ maxLen
def It4.cells (f : It4) : List Value := [.int .i64 f.k, .int .u64 f.x, .int .i64 f.y, .string f.s]

theorem trod_it {H : Type} {enc : TypeId × Value → H} {P : Program} {W : World} {base : Nat} {sp : Nat → Bool} {held : Bool} {t e u s : TypeId} {fs : Array Field} {fuel : Nat} {cs : List Value} {x : DataW H × List MemPlace}
    (ht : P.underlying t = some (.struct fs)) (hfs : fs.toList.map (fun f => (f.type, f.offset)) = [(e, 0), (u, 1), (e, 2), (s, 3)]) (he : P.underlying e = some (.int .i64)) (hu : P.underlying u = some (.int .u64)) (hs : P.underlying s = some .string) (hce : P.cellsOf e = 1) (hcu : P.cellsOf u = 1) (hcs : P.cellsOf s = 1) (hct : P.cellsOf t = 4)
    (h : DataW.trod enc P W base sp held fuel t cs = some x) : ∃ f : It4, cs = f.cells ∧ f.wf := by
  obtain ⟨xs, n, _, _, hl, hlen, hfld⟩ := DataW.trod_struct ht h
  rw [hct] at hl
  obtain ⟨c0, c1, c2, c3, rfl⟩ : ∃ a0 a1 a2 a3, cs = [a0, a1, a2, a3] := by
    match cs, hl with
    | [a0, a1, a2, a3], _ => exact ⟨a0, a1, a2, a3, rfl⟩
  have h3 : fs.size = 4 := by have := congrArg List.length hfs; simpa using this
  have fat : ∀ i (hi : i < 4), ∃ f, fs[i]? = some f ∧ (f.type, f.offset) = [(e, 0), (u, 1), (e, 2), (s, 3)][i] := fun i hi => by
    refine ⟨fs[i]'(by omega), by simp [show i < fs.size by omega], ?_⟩
    have : (fs.toList.map (fun f => (f.type, f.offset)))[i]? = [(e, 0), (u, 1), (e, 2), (s, 3)][i]? := by rw [hfs]
    simpa [show i < fs.size by omega, hi] using this
  have ex : ∀ i, i < 4 → ∃ y, xs[i]? = some y := fun i hi => ⟨xs[i]'(by omega), by simp [show i < xs.length by omega]⟩
  obtain ⟨f0, g0, e0⟩ := fat 0 (by omega)
  obtain ⟨y0, q0⟩ := ex 0 (by omega)
  have k0 := hfld 0 f0 g0
  obtain ⟨f1, g1, e1⟩ := fat 1 (by omega)
  obtain ⟨y1, q1⟩ := ex 1 (by omega)
  have k1 := hfld 1 f1 g1
  obtain ⟨f2, g2, e2⟩ := fat 2 (by omega)
  obtain ⟨y2, q2⟩ := ex 2 (by omega)
  have k2 := hfld 2 f2 g2
  obtain ⟨f3, g3, e3⟩ := fat 3 (by omega)
  obtain ⟨y3, q3⟩ := ex 3 (by omega)
  have k3 := hfld 3 f3 g3
  simp at e0 e1 e2 e3
  rw [q0, e0.1, e0.2, hce] at k0
  rw [q1, e1.1, e1.2, hcu] at k1
  rw [q2, e2.1, e2.2, hce] at k2
  rw [q3, e3.1, e3.2, hcs] at k3
  obtain ⟨z0, r0, _, w0⟩ := DataW.trod_int he k0
  obtain ⟨z1, r1, _, w1⟩ := DataW.trod_int hu k1
  obtain ⟨z2, r2, _, w2⟩ := DataW.trod_int he k2
  obtain ⟨z3, r3, _, w3⟩ := DataW.trod_string hs k3
  simp at r0 r1 r2 r3
  subst r0 r1 r2 r3
  exact ⟨⟨z0, z1, z2, z3⟩, rfl, w0, w1, w2, w3⟩

def IsIts (w : World) (a : Option Addr) (len cap : Nat) (fs : List It4) : Prop :=
  (a = none ∧ len = 0 ∧ cap = 0 ∧ fs = []) ∨
  ∃ x, a = some x ∧ len ≤ cap ∧ cap ≤ maxLen ∧ fs.length = len ∧ (∀ f ∈ fs, f.wf) ∧ ∀ i, i < len → w.cell? (x.add (i * 4)) = some (.int .i64 (fs.getD i default).k) ∧ w.cell? (x.add (i * 4 + 1)) = some (.int .u64 (fs.getD i default).x) ∧ w.cell? (x.add (i * 4 + 2)) = some (.int .i64 (fs.getD i default).y) ∧ w.cell? (x.add (i * 4 + 3)) = some (.string (fs.getD i default).s)

theorem open_its {H : Type} {enc : TypeId × Value → H} {P : Program} {W : World} {base : Nat} {sp : Nat → Bool} {held : Bool} {T t e u s : TypeId} {fs : Array Field} {fuel : Nat} {a : Option Addr} {len cap : Nat} {x : DataW H × List MemPlace}
    (hT : P.underlying T = some (.slice t)) (ht : P.underlying t = some (.struct fs)) (hfs : fs.toList.map (fun f => (f.type, f.offset)) = [(e, 0), (u, 1), (e, 2), (s, 3)]) (he : P.underlying e = some (.int .i64)) (hu : P.underlying u = some (.int .u64)) (hs : P.underlying s = some .string) (hce : P.cellsOf e = 1) (hcu : P.cellsOf u = 1) (hcs : P.cellsOf s = 1) (hct : P.cellsOf t = 4)
    (h : DataW.trod enc P W base sp held fuel T [.slice a len cap] = some x) : ∃ fl, IsIts W a len cap fl ∧ (len = 0 ∨ ∃ l r, x.1 = .slice l r ∧ l.length = len) := by
  rcases open_slice hT h with ⟨h0, _⟩ | ⟨y, l, c, m, n, D, Pl, h0, hb, hl, hm, hmm, xe, hx⟩
  · simp at h0
    exact ⟨[], .inl ⟨h0.1, h0.2.1, h0.2.2, rfl⟩, .inl h0.2.1⟩
  · simp at h0
    obtain ⟨rfl, rfl, rfl⟩ := h0
    have hlm : len ≤ m := by rw [hmm]; split <;> omega
    obtain ⟨F, hF⟩ := choose_lt (α := It4) (n := len) (p := fun i f => f.wf ∧ W.cell? (y.add (i * 4)) = some (.int .i64 f.k) ∧ W.cell? (y.add (i * 4 + 1)) = some (.int .u64 f.x) ∧ W.cell? (y.add (i * 4 + 2)) = some (.int .i64 f.y) ∧ W.cell? (y.add (i * 4 + 3)) = some (.string f.s)) (fun i hi => by
      obtain ⟨cs', h1, h2⟩ := hx i (by omega)
      rw [hct] at h1
      obtain ⟨_, _, h3⟩ := World.cells?_some h1
      obtain ⟨f, rfl, w⟩ := trod_it ht hfs he hu hs hce hcu hcs hct h2
      have a0 := h3 0 (by omega)
      have a1 := h3 1 (by omega)
      have a2 := h3 2 (by omega)
      have a3 := h3 3 (by omega)
      rw [addO_add] at a0 a1 a2 a3
      exact ⟨f, w, a0, a1, a2, a3⟩)
    have g : ∀ i, i < len → ((List.range len).map F).getD i default = F i := fun i hi => by simp [hi]
    refine ⟨(List.range len).map F, .inr ⟨y, rfl, hl, hm, by simp, ?_, fun i hi => by rw [g i hi]; exact (hF i hi).2⟩, .inr ⟨_, _, by rw [xe], by simp⟩⟩
    intro f hf
    simp at hf
    obtain ⟨i, hi, rfl⟩ := hf
    exact (hF i hi).1

end Go.Proofs.YteedkcmjhdabeaaDoor

namespace Go.Proofs.YteedkcmjhdabeaaDoor
open Go.ChangeShapes Go.WideShapes Go.ChangeAt Go.RowKit Go.Deep

def IsBools (w : World) (a : Option Addr) (len cap : Nat) (fs : List Bool) : Prop :=
  (a = none ∧ len = 0 ∧ cap = 0 ∧ fs = []) ∨
  ∃ x, a = some x ∧ len ≤ cap ∧ cap ≤ maxLen ∧ fs.length = len ∧ ∀ i, i < len → w.cell? (x.add (i * 1)) = some (.bool (fs.getD i default))

theorem open_bools {H : Type} {enc : TypeId × Value → H} {P : Program} {W : World} {base : Nat} {sp : Nat → Bool} {held : Bool} {T t : TypeId} {fuel : Nat} {a : Option Addr} {len cap : Nat} {x : DataW H × List MemPlace}
    (hT : P.underlying T = some (.slice t)) (ht : P.underlying t = some .bool) (hct : P.cellsOf t = 1)
    (h : DataW.trod enc P W base sp held fuel T [.slice a len cap] = some x) : ∃ fl, IsBools W a len cap fl ∧ (len = 0 ∨ ∃ l r, x.1 = .slice l r ∧ l.length = len) := by
  rcases open_slice hT h with ⟨h0, _⟩ | ⟨y, l, c, m, n, D, Pl, h0, hb, hl, hm, hmm, xe, hx⟩
  · simp at h0
    exact ⟨[], .inl ⟨h0.1, h0.2.1, h0.2.2, rfl⟩, .inl h0.2.1⟩
  · simp at h0
    obtain ⟨rfl, rfl, rfl⟩ := h0
    have hlm : len ≤ m := by rw [hmm]; split <;> omega
    obtain ⟨F, hF⟩ := choose_lt (α := Bool) (n := len) (p := fun i f => W.cell? (y.add (i * 1)) = some (.bool f)) (fun i hi => by
      obtain ⟨cs', h1, h2⟩ := hx i (by omega)
      rw [hct] at h1
      obtain ⟨_, _, h3⟩ := World.cells?_some h1
      obtain ⟨f, rfl, _⟩ := DataW.trod_bool ht h2
      have a0 := h3 0 (by omega)
      rw [addO_add] at a0
      exact ⟨f, by simpa using a0⟩)
    have g : ∀ i, i < len → ((List.range len).map F).getD i default = F i := fun i hi => by simp [hi]
    exact ⟨(List.range len).map F, .inr ⟨y, rfl, hl, hm, by simp, fun i hi => by rw [g i hi]; exact hF i hi⟩, .inr ⟨_, _, by rw [xe], by simp⟩⟩
end Go.Proofs.YteedkcmjhdabeaaDoor
