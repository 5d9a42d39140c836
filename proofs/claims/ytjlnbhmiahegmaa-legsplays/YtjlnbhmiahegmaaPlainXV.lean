/-
  PLAIN: what an expression of a leg comes to.
-/
import Derived.Test.YtjlnbhmiahegmaaWX8
import Derived.Test.YtjlnbhmiahegmaaOpenTab
import Derived.Test.YtjlnbhmiahegmaaWRatio
import Derived.Test.YtjlnbhmiahegmaaWDiv
import Derived.Test.YtjlnbhmiahegmaaPlainMul
namespace Go.Proofs.Ytjlnbhmiahegmaa
open Go.RowKit
set_option linter.unusedVariables false
set_option linter.unusedSimpArgs false

def tr (p : Prop) [Decidable p] : Int := if p then 1 else 0
/-- An operator that asks about numbers. -/
def cmpR (op a b : Int) : Int :=
  if op = 10 then tr (a = 0) else if op = 16 then tr (a < b) else if op = 17 then tr (a ≤ b) else if op = 18 then tr (b < a) else if op = 19 then tr (b ≤ a) else if op = 20 then tr (a = b) else if op = 21 then tr (¬ a = b)
  else if op = 25 then (if b < a then b else a) else if op = 26 then (if a < b then b else a) else a
/-- An operator on its kids' values: the value and the fault. -/
def opR (op mode a b c : Int) : Int × Int :=
  if op = 9 then (fitV (-a), fitF (-a)) else if op = 27 then (fitV (absI a), fitF (absI a)) else if op = 11 then (fitV (a + b), fitF (a + b)) else if op = 12 then (fitV (a - b), fitF (a - b))
  else if op = 13 then (fitV (a * b), fitF (a * b)) else if op = 14 then (divV a b, divF a b) else if op = 15 then (modV a b, modF b)
  else if op = 28 then (if c = 0 then (0, 2) else (fitV (ratN a b c mode), fitF (ratN a b c mode))) else (cmpR op a b, 0)
/-- The first fault of a list. -/
def flt : List (Int × Int) → Int
  | [] => 0
  | p :: r => if p.2 = 0 then flt r else p.2
/-- What an operator makes of what its kids come to. -/
def comb (op mode : Int) (vs : List (Int × Int)) : Int × Int :=
  if ¬ (vs.getD 0 (0, 0)).2 = 0 then (0, (vs.getD 0 (0, 0)).2)
  else if op = 22 then (if (vs.getD 0 (0, 0)).1 = 0 then (0, 0) else if (vs.getD 1 (0, 0)).2 = 0 then (tr (¬ (vs.getD 1 (0, 0)).1 = 0), 0) else (0, (vs.getD 1 (0, 0)).2))
  else if op = 23 then (if ¬ (vs.getD 0 (0, 0)).1 = 0 then (1, 0) else if (vs.getD 1 (0, 0)).2 = 0 then (tr (¬ (vs.getD 1 (0, 0)).1 = 0), 0) else (0, (vs.getD 1 (0, 0)).2))
  else if op = 24 then (if ¬ (vs.getD 0 (0, 0)).1 = 0 then vs.getD 1 (0, 0) else vs.getD 2 (0, 0))
  else if flt vs = 0 then opR op mode (vs.getD 0 (0, 0)).1 (vs.getD 1 (0, 0)).1 (vs.getD 2 (0, 0)).1 else (0, flt vs)
/-- An observation. -/
def seenR (R : List (List Cl)) (name day : Int) : Int × Int :=
  if 0 ≤ day ∧ day < R.length ∧ 0 ≤ name ∧ name < (R.getD day.toNat []).length ∧ ((R.getD day.toNat []).getD name.toNat default).h = true then (((R.getD day.toNat []).getD name.toNat default).v, 0) else (0, 3)
def cellR (C : List Int) (i : Int) : Int := if 0 ≤ i ∧ i < C.length then C.getD i.toNat 0 else 0
mutual
/-- What an expression comes to: the value, the fault. -/
def Xt.val (R : List (List Cl)) (C : List Int) : Xt → Int × Int
  | .mk op num day ks => if shp op = (ks.length : Int) then (if op = 1 then (num, 0) else if op = 2 then (1, 0) else if op = 3 then (0, 0) else if op = 30 then (cellR C num, 0) else if op = 5 then seenR R num day else comb op num (Xt.vals R C ks)) else (0, 0)
def Xt.vals (R : List (List Cl)) (C : List Int) : List Xt → List (Int × Int)
  | [] => []
  | e :: r => e.val R C :: Xt.vals R C r
end
theorem Xt.vals_len (R : List (List Cl)) (C : List Int) : ∀ l : List Xt, (Xt.vals R C l).length = l.length
  | [] => rfl
  | e :: r => by simp only [Xt.vals, List.length_cons, Xt.vals_len R C r]
theorem Xt.vals_at (R : List (List Cl)) (C : List Int) : ∀ (l : List Xt) (i : Nat), i < l.length → (Xt.vals R C l).getD i (0, 0) = (l.getD i default).val R C
  | e :: r, 0, _ => by simp [Xt.vals]
  | e :: r, i + 1, h => by
    have := Xt.vals_at R C r i (by simpa using h)
    simpa [Xt.vals] using this
/-- A list of numbers, where it lies. -/
def IL (w : World) (a : Option Addr) (n : Nat) (C : List Int) : Prop := C.length = n ∧ n ≤ 17592186043904 ∧ (∀ x ∈ C, inR x) ∧ (n = 0 ∨ ∃ g o, a = some ⟨g, o, none⟩ ∧ g < w.heap.size ∧ ∀ i, i < n → w.cell? ⟨g, o + i, none⟩ = some (.int .i64 (C.getD i 0)))
theorem IL.later {w w' : World} {a n C} (h : IL w a n C) (b : Below w.heap.size w w') : IL w' a n C := by
  obtain ⟨h1, h2, h3, h4⟩ := h
  refine ⟨h1, h2, h3, ?_⟩
  rcases h4 with h4 | ⟨g, o, rfl, hg, hc⟩
  · exact .inl h4
  · exact .inr ⟨g, o, rfl, Nat.lt_of_lt_of_le hg b.size, fun i hi => (b.cell (p := ⟨g, o + i, none⟩) hg).trans (hc i hi)⟩
theorem i64_inR {n : Int} (h : i64 n) : inR n := wf_inR h
theorem zero_inR : inR 0 := by unfold inR; omega
theorem one_inR : inR 1 := by unfold inR; omega
theorem tr_in (p : Prop) [Decidable p] : inR (tr p) := by unfold tr; split <;> (unfold inR; omega)
theorem cmpR_in (op a b : Int) (ha : inR a) (hb : inR b) : inR (cmpR op a b) := by
  unfold cmpR
  repeat (first | exact tr_in _ | exact ha | exact hb | split)
theorem divV_in (a b : Int) : inR (divV a b) := by unfold divV; split; exact zero_inR; exact fitV_bd _
theorem modV_in (a b : Int) (ha : inR a) : inR (modV a b) := by
  unfold modV
  split
  · exact zero_inR
  · have h1 := Int.natAbs_tmod a b
    have h2 : a.natAbs % b.natAbs ≤ a.natAbs := Nat.mod_le _ _
    have h3 : (a.tmod b).natAbs ≤ a.natAbs := by omega
    have h4 : 0 ≤ a → 0 ≤ a.tmod b := fun h => Int.tmod_nonneg b h
    have h5 : a ≤ 0 → a.tmod b ≤ 0 := fun h => by have := Int.tmod_nonneg b (a := -a) (by omega); rw [Int.neg_tmod] at this; omega
    unfold inR at *
    omega
theorem opR_in (op mode a b c : Int) (ha : inR a) (hb : inR b) : inR (opR op mode a b c).1 := by
  unfold opR
  repeat (first | exact fitV_bd _ | exact divV_in _ _ | exact modV_in _ _ ha | exact zero_inR | exact cmpR_in _ _ _ ha hb | split)
theorem seenR_in (R : List (List Cl)) (hR : ∀ r ∈ R, ∀ c ∈ r, inR c.v) (name day : Int) : inR (seenR R name day).1 := by
  unfold seenR
  split
  · rename_i h
    obtain ⟨h1, h2, h3, h4, _⟩ := h
    have e1 : R.getD day.toNat [] ∈ R := by rw [List.getD_eq_getElem?_getD, List.getElem?_eq_getElem (by omega)]; exact List.getElem_mem _
    have e2 : (R.getD day.toNat []).getD name.toNat default ∈ R.getD day.toNat [] := by rw [List.getD_eq_getElem?_getD (l := R.getD day.toNat []), List.getElem?_eq_getElem (by omega)]; exact List.getElem_mem _
    exact hR _ e1 _ e2
  · exact zero_inR
theorem cellR_in (C : List Int) (hC : ∀ x ∈ C, inR x) (i : Int) : inR (cellR C i) := by
  unfold cellR
  split
  · rename_i h
    refine hC _ ?_
    rw [List.getD_eq_getElem?_getD, List.getElem?_eq_getElem (by omega)]
    exact List.getElem_mem _
  · exact zero_inR
theorem comb_in (op mode : Int) (vs : List (Int × Int)) (h : ∀ i, inR (vs.getD i (0, 0)).1) : inR (comb op mode vs).1 := by
  unfold comb
  repeat (first | exact zero_inR | exact one_inR | exact tr_in _ | exact h _ | exact opR_in _ _ _ _ _ (h _) (h _) | split)
theorem val_in {w : World} {e : Xt} {vs : List Value} (hE : XV w e vs) (R : List (List Cl)) (C : List Int) (hR : ∀ r ∈ R, ∀ c ∈ r, inR c.v) (hC : ∀ x ∈ C, inR x) : inR (e.val R C).1 := by
  induction hE with
  | @mk op num day kids ka kc V wop wnum wday hk hn hr hkids ih =>
    have hv : ∀ i, inR ((Xt.vals R C kids).getD i (0, 0)).1 := fun i => by
      by_cases hi : i < kids.length
      · rw [Xt.vals_at R C kids i hi]; exact ih i hi
      · rw [List.getD_eq_getElem?_getD, List.getElem?_eq_none (by rw [Xt.vals_len]; omega)]; exact zero_inR
    simp only [Xt.val]
    repeat (first | exact i64_inR wnum | exact zero_inR | exact one_inR | exact cellR_in C hC _ | exact seenR_in R hR _ _ | exact comb_in _ _ _ hv | split)
theorem fitVF (n : Int) : ¬ fitF n = 0 → fitV n = 0 := by
  unfold fitF fitV
  split <;> simp
theorem divVF (a b : Int) : ¬ divF a b = 0 → divV a b = 0 := by
  unfold divF divV
  split
  · simp
  · exact fitVF _
theorem modVF (a b : Int) : ¬ modF b = 0 → modV a b = 0 := by
  unfold modF modV
  split <;> simp
/-- A fault has no value. -/
theorem opR_f (op mode a b c : Int) : ¬ (opR op mode a b c).2 = 0 → (opR op mode a b c).1 = 0 := by
  unfold opR
  repeat (first | exact fitVF _ | exact divVF _ _ | exact modVF _ _ | (intro h; exact absurd rfl h) | (intro _; rfl) | split)
end Go.Proofs.Ytjlnbhmiahegmaa
