/-
  PLAIN: numbers in a text, as far as they go.
-/
import Derived.Test.YtmdgfcldohmjdaaDoorWFlow1
namespace Go.Proofs.YtmdgfcldohmjdaaDoor
set_option linter.unusedVariables false

theorem at8_end {s : ByteArray} {i : Nat} (h : ¬ i < s.size) : at8 s i = 0 := by unfold at8; rw [dif_neg h]
theorem at8_bd (s : ByteArray) (i : Nat) : 0 ≤ at8 s i ∧ at8 s i ≤ 255 := by
  unfold at8
  split
  · rename_i h
    have := s[i].toNat_lt
    omega
  · omega
def isD (c : Int) : Prop := 48 ≤ c ∧ c ≤ 57
instance (c : Int) : Decidable (isD c) := by unfold isD; infer_instance
def dg (c : Int) : Nat := (c - 48).toNat
theorem dg_bd {c : Int} (h : isD c) : dg c ≤ 9 ∧ (dg c : Int) = c - 48 := by unfold isD at h; unfold dg; omega
/-- One digit more, where the limit bears it. -/
def stepD (lim n : Nat) (c : Int) : Option Nat := if isD c ∧ n ≤ (lim - dg c) / 10 then some (10 * n + dg c) else none
/-- The number that j bytes from a place on tell. -/
def preD (s : ByteArray) (fr lim : Nat) : Nat → Option Nat
  | 0 => some 0
  | j + 1 => (preD s fr lim j).bind fun n => stepD lim n (at8 s (fr + j))
theorem preD_succ {s : ByteArray} {fr lim j n : Nat} (h : preD s fr lim j = some n) : preD s fr lim (j + 1) = stepD lim n (at8 s (fr + j)) := by simp [preD, h]
theorem preD_down {s : ByteArray} {fr lim : Nat} : ∀ (d j : Nat), preD s fr lim j = none → preD s fr lim (j + d) = none
  | 0, j, h => h
  | d + 1, j, h => by
    have := preD_down d j h
    rw [← Nat.add_assoc]
    simp [preD, this]
theorem step_le {lim n m : Nat} {c : Int} (hl : 9 ≤ lim) (h : stepD lim n c = some m) : m ≤ lim ∧ isD c ∧ m = 10 * n + dg c := by
  unfold stepD at h
  split at h
  · rename_i k
    obtain ⟨k1, k2⟩ := k
    have := (dg_bd k1).1
    simp at h
    exact ⟨by omega, k1, by omega⟩
  · cases h
theorem preD_le {s : ByteArray} {fr lim : Nat} (hl : 9 ≤ lim) : ∀ {j n : Nat}, preD s fr lim j = some n → n ≤ lim
  | 0, n, h => by simp [preD] at h; omega
  | j + 1, n, h => by
    cases hp : preD s fr lim j with
    | none => rw [preD, hp] at h; cases h
    | some m => rw [preD_succ hp] at h; exact (step_le hl h).1
/-- How far the digits from a place on go, and what they tell. -/
def DS (s : ByteArray) (fr lim j n : Nat) : Prop := preD s fr lim j = some n ∧ preD s fr lim (j + 1) = none
theorem ds_one {s : ByteArray} {fr lim j n j' n' : Nat} (h : DS s fr lim j n) (h' : DS s fr lim j' n') : j = j' ∧ n = n' := by
  have key : ∀ {a b x y : Nat}, DS s fr lim a x → DS s fr lim b y → a ≤ b := fun {a b x y} p q => by
    refine Nat.le_of_not_lt fun hlt => ?_
    have := preD_down (a - (b + 1)) (b + 1) q.2
    rw [show b + 1 + (a - (b + 1)) = a by omega, p.1] at this
    cases this
  have e : j = j' := Nat.le_antisymm (key h h') (key h' h)
  subst e
  refine ⟨rfl, ?_⟩
  have := h.1.symm.trans h'.1
  simpa using this
/-- An unsigned number from a place on: where it ends, what it tells, whether it is one. -/
def ND (s : ByteArray) (at_ lim k n : Nat) (wh : Bool) : Prop :=
  (at8 s at_ = 48 ∧ k = at_ + 1 ∧ n = 0 ∧ wh = true) ∨ (at8 s at_ ≠ 48 ∧ ∃ j, DS s at_ lim j n ∧ k = at_ + j ∧ wh = decide (0 < j))
theorem nd_one {s : ByteArray} {at_ lim k n k' n' : Nat} {wh wh' : Bool} (h : ND s at_ lim k n wh) (h' : ND s at_ lim k' n' wh') : k = k' ∧ n = n' ∧ wh = wh' := by
  rcases h with ⟨a, b, c, d⟩ | ⟨a, j, b, c, d⟩ <;> rcases h' with ⟨a', b', c', d'⟩ | ⟨a', j', b', c', d'⟩
  · exact ⟨by omega, by omega, by rw [d, d']⟩
  · exact absurd a a'
  · exact absurd a' a
  · obtain ⟨rfl, rfl⟩ := ds_one b b'
    exact ⟨by omega, rfl, by rw [d, d']⟩
end Go.Proofs.YtmdgfcldohmjdaaDoor
