/-
  PLAIN: the digits that the document gathers out of a text.
-/
import Derived.Test.YtaeppjnnddakfaaDoorPlainBack
import Derived.Test.YtaeppjnnddakfaaDoorPlainText
namespace Go.Proofs.YtaeppjnnddakfaaDoor
open Go.RowKit
set_option linter.unusedVariables false

/-- The digits (the last first, at most 40) and the sign of a row of bytes, from its end on. -/
def col : List UInt8 → List Int × Bool
  | [] => ([], false)
  | c :: r => (if 0 ≤ (c.toNat : Int) - 48 ∧ (c.toNat : Int) - 48 ≤ 9 ∧ (col r).1.length < 40 then (col r).1 ++ [(c.toNat : Int) - 48] else (col r).1, (col r).2 || decide (c.toNat = 45))
theorem col_digs : ∀ l, Digs (col l).1 ∧ (col l).1.length ≤ 40
  | [] => ⟨digs_nil, by simp [col]⟩
  | c :: r => by
    have i := col_digs r
    simp only [col]
    split
    · rename_i h
      exact ⟨digs_snoc i.1 (by omega) (by omega), by simp; omega⟩
    · exact i
theorem col_non {c : UInt8} {r : List UInt8} (h : ¬ (0 ≤ (c.toNat : Int) - 48 ∧ (c.toNat : Int) - 48 ≤ 9)) : (col (c :: r)).1 = (col r).1 := by
  simp only [col]; rw [if_neg (fun q => h ⟨q.1, q.2.1⟩)]
theorem col_46 {r : List UInt8} : (col (46 :: r)).2 = (col r).2 := by simp [col]
theorem col_45 {r : List UInt8} : (col (45 :: r)).2 = true := by simp [col]
def zOf (l : List UInt8) : Int := if (col l).2 = true then -(dval (col l).1) else dval (col l).1
theorem col_refS (p : Nat) {ds : List Int} (h : Digs ds) : ∀ k, k ≤ 40 → (col (refS p ds k)).1.length = k ∧ dval (col (refS p ds k)).1 = dval (ds.take k) ∧ (col (refS p ds k)).2 = false
  | 0, _ => by simp [refS, col, dval]
  | k + 1, hk => by
    have i := col_refS p h k (by omega)
    have d := h k
    have db : (UInt8.ofNat (48 + (ds.getD k 0).toNat)).toNat = 48 + (ds.getD k 0).toNat := ofNat_d (by omega)
    have key : ∀ r : List UInt8, (col r).1.length = k ∧ dval (col r).1 = dval (ds.take k) ∧ (col r).2 = false →
        (col (UInt8.ofNat (48 + (ds.getD k 0).toNat) :: r)).1.length = k + 1 ∧ dval (col (UInt8.ofNat (48 + (ds.getD k 0).toNat) :: r)).1 = dval (ds.take (k + 1)) ∧ (col (UInt8.ofNat (48 + (ds.getD k 0).toNat) :: r)).2 = false := by
      intro r ⟨a, b, c⟩
      simp only [col]
      rw [db, if_pos (by omega), c]
      refine ⟨by simp [a], ?_, by simp; omega⟩
      rw [dval_snoc, a, b, dval_take_succ]
      congr 2
      omega
    rw [refS]
    split
    · refine key _ ?_
      show (col (46 :: refS p ds k)).1.length = k ∧ dval (col (46 :: refS p ds k)).1 = dval (ds.take k) ∧ (col (46 :: refS p ds k)).2 = false
      rw [col_non (c := 46) (fun q => by have e : (((46 : UInt8).toNat : Nat) : Int) = 46 := rfl
                                         omega), col_46]
      exact i
    · exact key _ i
/-- A text's digits are its number. -/
theorem zOf_dtx (x : Int) (hx : inR x) (p : Nat) (hp : p ≤ 18) {ds : List Int} (h : Digs ds) (hn : Norm ds) (hv : dval ds = absI x) : zOf (dtx x p) = x := by
  have b := absI_bd x hx
  have e : dtx x p = if decide (x < 0) then 45 :: refS p ds (max ds.length (p + 1)) else refS p ds (max ds.length (p + 1)) := texts_one h hn (by omega) _ p
  have hl : ds.length ≤ 19 := norm_len h hn (by rw [hv, ten19]; omega)
  have c := col_refS p h (max ds.length (p + 1)) (by omega)
  have t : dval (ds.take (max ds.length (p + 1))) = dval ds := dval_take_all ds _ (by omega)
  rw [e]
  by_cases g : x < 0
  · rw [if_pos (decide_eq_true g)]
    unfold zOf
    rw [col_45, if_pos rfl, col_non (c := 45) (fun q => by have e : (((45 : UInt8).toNat : Nat) : Int) = 45 := rfl
                                                           omega), c.2.1, t, hv, absI_neg g]
    omega
  · rw [if_neg (by simp [g])]
    unfold zOf
    rw [if_neg (by rw [c.2.2]; simp), c.2.1, t, hv, absI_pos g]
end Go.Proofs.YtaeppjnnddakfaaDoor
