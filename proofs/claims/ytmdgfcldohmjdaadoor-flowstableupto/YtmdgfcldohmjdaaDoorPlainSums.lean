/-
  SUMS BY KIND AS A MAP HOLDS THEM (Totals: the keys are texts).
-/
import Derived.Test.YtmdgfcldohmjdaaDoorPlainNet
import Derived.Test.YtmdgfcldohmjdaaDoorPlainMul
import Derived.Test.YtmdgfcldohmjdaaDoorWFlows
import Derived.Maps.Own
import Derived.Maps.OwnOps
import Derived.Maps.Views
namespace Go.Proofs.YtmdgfcldohmjdaaDoor
open Go.RowKit Go.Maps
set_option linter.unusedVariables false
set_option linter.unusedSimpArgs false

section
variable {κ : Type} [DecidableEq κ]
theorem sumAt_set {k : κ} {v : Int} : ∀ {l : List (κ × Int)}, sumAt k (setAt k v l) = some v
  | [] => by simp [setAt, sumAt]
  | e :: l => by
    unfold setAt; split
    · simp [sumAt]
    · rename_i h; unfold sumAt; rw [if_neg h, sumAt_set]
theorem sumAt_set_other {k k' : κ} {v : Int} (h : k' ≠ k) : ∀ {l : List (κ × Int)}, sumAt k' (setAt k v l) = sumAt k' l
  | [] => by simp [setAt, sumAt, h.symm]
  | e :: l => by
    unfold setAt; split
    · rename_i g; unfold sumAt; rw [if_neg h.symm, if_neg (by rw [g]; exact h.symm)]
    · unfold sumAt; split
      · rfl
      · exact sumAt_set_other h
end

def fitB (s : Int) : Bool := decide (-9223372036854775808 ≤ s ∧ s ≤ 9223372036854775807)
theorem fitB_in {s : Int} (h : inR s) : fitB s = true := decide_eq_true (by unfold inR at h; omega)
theorem fitB_out {s : Int} (h : ¬ inR s) : fitB s = false := decide_eq_false (by unfold inR at h; omega)
def lit (c : ByteArray) : Lit := .string c.data.toList
theorem lit_ne {c c' : ByteArray} (h : c' ≠ c) : lit c' ≠ lit c := fun e => h (by
  unfold lit at e
  injection e with e
  obtain ⟨⟨x⟩⟩ := c; obtain ⟨⟨y⟩⟩ := c'
  simp at e; rw [e])
/-- A map that holds just these sums. -/
def Sums (D : DataW Unit) (acc : List (ByteArray × Int)) : Prop :=
  IsMap D ∧ (∀ c, D.atKey (lit c) (.lit (.int .i64 0)) = .lit (.int .i64 ((sumAt c acc).getD 0))) ∧ ∀ c, Maps.has D (lit c) = (sumAt c acc).isSome
theorem sums_none : Sums (.map []) [] := ⟨isMap_empty, fun _ => rfl, fun _ => rfl⟩
theorem Sums.set {D : DataW Unit} {acc : List (ByteArray × Int)} (h : Sums D acc) (c : ByteArray) (v : Int) : Sums (D.put (lit c) (.lit (.int .i64 v))) (setAt c v acc) := by
  obtain ⟨h1, h2, h3⟩ := h
  refine ⟨h1.put _ _, fun c' => ?_, fun c' => ?_⟩
  · by_cases e : c' = c
    · subst e; rw [atKey_put_same h1 (k := lit c') trivial, sumAt_set]; rfl
    · rw [atKey_put_other (lit_ne e), h2, sumAt_set_other e]
  · by_cases e : c' = c
    · subst e; rw [has_put_same h1 (k := lit c') trivial, sumAt_set]; rfl
    · rw [has_put_other (lit_ne e), h3, sumAt_set_other e]

/-- The sums by currency. -/
def tots (fs : List Fl) : Option (List (ByteArray × Int)) := tally fitB [] (fs.map fun f => (f.c, f.a))
theorem tots_step {fs : List Fl} {k : Nat} {f : Fl} (hk : k < fs.length) (hf : fs.getD k default = f) : tots (fs.take (k + 1)) = (tots (fs.take k)).bind fun s => if fitB ((sumAt f.c s).getD 0 + f.a) then some (setAt f.c ((sumAt f.c s).getD 0 + f.a) s) else none := by
  have e : fs[k]? = some f := by rw [List.getElem?_eq_getElem hk, ← hf]; simp [List.getD, hk]
  unfold tots
  rw [List.take_add_one, e]
  simp only [Option.toList_some, List.map_append, List.map_cons, List.map_nil]
  rw [tally_snoc]
theorem tally_no {κ : Type} [DecidableEq κ] {fits : Int → Bool} : ∀ {l r acc : List (κ × Int)}, tally fits acc l = none → tally fits acc (l ++ r) = none
  | [], r, acc, h => by cases h
  | x :: l, r, acc, h => by
    rw [List.cons_append]; unfold tally at h ⊢
    split at h
    · rename_i g; rw [if_pos g]; exact tally_no h
    · rename_i g; rw [if_neg g]
theorem tots_no {fs : List Fl} {k : Nat} (h : tots (fs.take k) = none) : tots fs = none := by
  unfold tots at *
  rw [← List.take_append_drop k fs, List.map_append]
  exact tally_no h
end Go.Proofs.YtmdgfcldohmjdaaDoor
