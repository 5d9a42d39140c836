/-
  OPENING A SLICE OF BOOLS THAT CAME IN (own work).
-/
import Derived.Test.YtfgmgcllplgpnaaOpenOp
namespace Go.Proofs.Ytfgmgcllplgpnaa
open Go.ChangeShapes Go.WideShapes Go.ChangeAt Go.RowKit Go.Deep

def IsBools (w : World) (a : Option Addr) (len cap : Nat) (fs : List Bool) : Prop :=
  (a = none ∧ len = 0 ∧ cap = 0 ∧ fs = []) ∨
  ∃ x, a = some x ∧ len ≤ cap ∧ cap ≤ maxLen ∧ fs.length = len ∧ ∀ i, i < len → w.cell? (x.add (i * 1)) = some (.bool (fs.getD i default))

theorem open_bools {H : Type} {enc : TypeId × Value → H} {P : Program} {W : World} {base : Nat} {sp : Nat → Bool} {held : Bool} {T t : TypeId} {fuel : Nat} {a : Option Addr} {len cap : Nat} {x : DataW H × List MemPlace}
    (hT : P.underlying T = some (.slice t)) (ht : P.underlying t = some .bool) (hct : P.cellsOf t = 1)
    (h : DataW.trod enc P W base sp held fuel T [.slice a len cap] = some x) : ∃ fl, IsBools W a len cap fl ∧ (len = 0 ∨ ∃ l r, x.1 = .slice l r ∧ l.length = len) := by
  rcases open_slice hT h with ⟨h0, _⟩ | ⟨y, l, c, m, n, D, Pl, h0, hb, hl, hm, hmm, xe, hx⟩
  · simp at h0
    exact ⟨[], .inl ⟨h0.1, h0.2.1, h0.2.2, rfl⟩, .inl h0.2.1⟩
  · simp at h0
    obtain ⟨rfl, rfl, rfl⟩ := h0
    have hlm : len ≤ m := by rw [hmm]; split <;> omega
    obtain ⟨F, hF⟩ := choose_lt (α := Bool) (n := len) (p := fun i f => W.cell? (y.add (i * 1)) = some (.bool f)) (fun i hi => by
      obtain ⟨cs', h1, h2⟩ := hx i (by omega)
      rw [hct] at h1
      obtain ⟨_, _, h3⟩ := World.cells?_some h1
      obtain ⟨f, rfl, _⟩ := DataW.trod_bool ht h2
      have a0 := h3 0 (by omega)
      rw [addO_add] at a0
      exact ⟨f, by simpa using a0⟩)
    have g : ∀ i, i < len → ((List.range len).map F).getD i default = F i := fun i hi => by simp [hi]
    exact ⟨(List.range len).map F, .inr ⟨y, rfl, hl, hm, by simp, fun i hi => by rw [g i hi]; exact hF i hi⟩, .inr ⟨_, _, by rw [xe], by simp⟩⟩
end Go.Proofs.Ytfgmgcllplgpnaa
