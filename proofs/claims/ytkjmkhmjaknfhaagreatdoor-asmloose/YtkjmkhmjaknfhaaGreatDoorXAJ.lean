import Derived.Test.YtkjmkhmjaknfhaaGreatDoorXAD
import Derived.Lib.AtoiAll
namespace Go.Proofs.YtkjmkhmjaknfhaaGreatDoor
open Go.RowKit
set_option linter.unusedVariables false

theorem dec_len (k : Nat) : ∀ u, u < 10 ^ (k + 1) → (Lib.decDigits u).length ≤ k + 1 := by
  induction k with
  | zero => intro u h; rw [Lib.decDigits, dif_pos (by simpa using h)]; simp
  | succ k ih =>
    intro u h
    rw [Lib.decDigits]
    split
    · simp
    · have := ih (u / 10) (by rw [Nat.pow_succ] at h; omega)
      simp; omega
/-- Without the byte ahead of the decimals. -/
def wst (p : Nat) (l : List UInt8) : List UInt8 := if p = 0 ∨ l.length < p + 1 then l else l.take (l.length - p - 1) ++ l.drop (l.length - p)
/-- A number's text. -/
def dtx (v : Int) (p : Nat) : List UInt8 := decS (decide (v < 0)) p (Lib.decDigits (absI v).toNat)
def sg (v : Int) : List UInt8 := if v < 0 then [45] else []
theorem dtx_eq (v : Int) (p : Nat) : dtx v p = sg v ++ pointed p (padTo p (Lib.decDigits (absI v).toNat)) := by
  unfold dtx decS sg
  by_cases h : v < 0
  · rw [if_pos (decide_eq_true h), if_pos h]; rfl
  · rw [if_neg (by simp [h]), if_neg h]; rfl
theorem dtx_len (v : Int) (hv : inR v) (p : Nat) (hp : p ≤ 18) : (dtx v p).length ≤ 21 := by
  obtain ⟨b1, b2⟩ := absI_bd v hv
  have dl := dec_len 18 (absI v).toNat (by have : (10 : Nat) ^ 19 = 10000000000000000000 := by decide
                                           omega)
  rw [dtx_eq]
  have pl : (padTo p (Lib.decDigits (absI v).toNat)).length ≤ 19 := by unfold padTo; simp; omega
  have ql : (pointed p (padTo p (Lib.decDigits (absI v).toNat))).length ≤ 20 := by
    unfold pointed; split
    · omega
    · simp; omega
  have sl : (sg v).length ≤ 1 := by unfold sg; split <;> simp
  simp; omega
theorem wst_len (p : Nat) (l : List UInt8) : (wst p l).length ≤ l.length := by
  unfold wst; split
  · omega
  · simp; omega
/-- What Parse reads. -/
def prs (p : Nat) (l : List UInt8) : Option Int := match Lib.atoiAll (wst p l) with | .ok v => if dtx v p = l then some v else none | _ => none
theorem prs_some {p : Nat} {l : List UInt8} {v : Int} (h : prs p l = some v) : dtx v p = l ∧ Lib.atoiAll (wst p l) = .ok v := by
  unfold prs at h
  split at h
  · rename_i v' hv'
    split at h
    · rename_i e; cases h; exact ⟨e, hv'⟩
    · cases h
  · cases h
end Go.Proofs.YtkjmkhmjaknfhaaGreatDoor
