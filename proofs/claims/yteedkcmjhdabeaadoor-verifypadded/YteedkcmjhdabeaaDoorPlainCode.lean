/-
  INSTRUCTIONS, PLAINLY: the table, which are valid, their bytes, and how bytes are read.
-/
import Derived.Test.YteedkcmjhdabeaaDoorPlainOct
namespace Go.Proofs.YteedkcmjhdabeaaDoor
set_option linter.unusedVariables false
set_option linter.unusedSimpArgs false

def nmL : List ByteArray := [⟨#[101, 110, 100]⟩, ⟨#[99, 111, 110, 115, 116]⟩, ⟨#[98, 111, 111, 108]⟩, ⟨#[111, 98, 115]⟩, ⟨#[108, 111, 97, 100]⟩, ⟨#[115, 116, 111, 114, 101]⟩, ⟨#[107, 101, 101, 112]⟩, ⟨#[103, 101, 116]⟩, ⟨#[100, 114, 111, 112]⟩, ⟨#[97, 100, 100]⟩, ⟨#[115, 117, 98]⟩, ⟨#[109, 117, 108]⟩, ⟨#[110, 101, 103]⟩, ⟨#[100, 105, 118]⟩, ⟨#[109, 111, 100]⟩, ⟨#[97, 98, 115]⟩, ⟨#[109, 105, 110]⟩, ⟨#[109, 97, 120]⟩, ⟨#[114, 97, 116, 105, 111]⟩, ⟨#[108, 116]⟩, ⟨#[108, 101]⟩, ⟨#[103, 116]⟩, ⟨#[103, 101]⟩, ⟨#[101, 113]⟩, ⟨#[110, 101]⟩, ⟨#[110, 111, 116]⟩, ⟨#[106, 117, 109, 112]⟩, ⟨#[122, 101, 114, 111]⟩, ⟨#[102, 108, 111, 119]⟩]
def onL : List Nat := [0, 1, 1, 2, 1, 1, 1, 1, 0, 0, 0, 0, 0, 0, 0, 0, 0, 0, 1, 0, 0, 0, 0, 0, 0, 0, 1, 1, 1]
def tkL : List Nat := [0, 0, 0, 0, 0, 1, 1, 0, 1, 2, 2, 2, 1, 2, 2, 1, 2, 2, 3, 2, 2, 2, 2, 2, 2, 1, 0, 1, 1]
def ptL : List Nat := [0, 1, 1, 1, 1, 0, 1, 1, 0, 1, 1, 1, 1, 1, 1, 1, 1, 1, 1, 1, 1, 1, 1, 1, 1, 1, 0, 0, 0]
def baL : List Nat := [0, 16383, 1, 63, 32767, 32767, 16383, 16383, 0, 0, 0, 0, 0, 0, 0, 0, 0, 0, 4, 0, 0, 0, 0, 0, 0, 0, 262143, 262143, 4095]
def bbL : List Nat := [0, 0, 0, 3660, 0, 0, 0, 0, 0, 0, 0, 0, 0, 0, 0, 0, 0, 0, 0, 0, 0, 0, 0, 0, 0, 0, 0, 0, 0]
def nmA (k : Nat) : ByteArray := nmL.getD k ⟨#[]⟩
def onA (k : Nat) : Nat := onL.getD k 0
def tkA (k : Nat) : Nat := tkL.getD k 0
def ptA (k : Nat) : Nat := ptL.getD k 0
def baA (k : Nat) : Nat := baL.getD k 0
def bbA (k : Nat) : Nat := bbL.getD k 0
theorem all29 {p : Nat → Prop} [DecidablePred p] (h : (List.range 29).all (fun k => decide (p k)) = true) : ∀ k, k < 29 → p k := by
  intro k hk
  have := List.all_eq_true.1 h k (List.mem_range.2 hk)
  exact of_decide_eq_true this
theorem tab_facts : ∀ k, k < 29 → onA k ≤ 2 ∧ baA k ≤ 262143 ∧ bbA k ≤ 3660 ∧ tkA k ≤ 3 ∧ ptA k ≤ 1 ∧ (onA k = 0 → baA k = 0) ∧ (onA k ≤ 1 → bbA k = 0) := all29 (by decide)
theorem nm_ne : ∀ k, k < 29 → ∀ j, j < 29 → k ≠ j → (nmA k).data.toList ≠ (nmA j).data.toList := fun k hk => all29 (p := fun j => k ≠ j → (nmA k).data.toList ≠ (nmA j).data.toList) (all29 (p := fun k => (List.range 29).all (fun j => decide (k ≠ j → (nmA k).data.toList ≠ (nmA j).data.toList)) = true) (by decide) k hk)
theorem nm_some : ∀ k, k < 29 → (nmA k).data.toList ≠ [] := all29 (by decide)

/-- An instruction. -/
structure In where
  o : Int
  a : Int
  b : Int
  deriving Inhabited, DecidableEq
def In.okP (i : In) : Prop := 0 ≤ i.o ∧ i.o < 29 ∧ 0 ≤ i.a ∧ i.a ≤ baA i.o.toNat ∧ 0 ≤ i.b ∧ i.b ≤ bbA i.o.toNat
instance (i : In) : Decidable i.okP := by unfold In.okP; exact inferInstance
/-- Its bytes. -/
def In.enc (i : In) : List Int := i.o :: ((if 1 ≤ onA i.o.toNat then vl i.a.toNat else []) ++ (if 2 ≤ onA i.o.toNat then vl i.b.toNat else []))
def encs (l : List In) : List Int := l.flatMap In.enc
theorem encs_snoc (l : List In) (i : In) : encs (l ++ [i]) = encs l ++ i.enc := by simp [encs]
theorem encs_app (l m : List In) : encs (l ++ m) = encs l ++ encs m := by simp [encs]
theorem encs_cons (i : In) (m : List In) : encs (i :: m) = i.enc ++ encs m := by simp [encs]
end Go.Proofs.YteedkcmjhdabeaaDoor
