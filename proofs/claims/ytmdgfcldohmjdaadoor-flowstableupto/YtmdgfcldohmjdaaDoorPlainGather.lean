/-
  WHAT A RANGE OVER THE MAP OF SUMS GATHERS (Totals).
-/
import Derived.Test.YtmdgfcldohmjdaaDoorPlainSums
namespace Go.Proofs.YtmdgfcldohmjdaaDoor
open Go.RowKit Go.Maps
set_option linter.unusedVariables false
set_option linter.unusedSimpArgs false

section
variable {κ : Type} [DecidableEq κ]
theorem sumAt_mem {l : List (κ × Int)} (h : (l.map (·.1)).Nodup) {k : κ} {v : Int} : sumAt k l = some v ↔ (k, v) ∈ l := by
  induction l with
  | nil => simp [sumAt]
  | cons e l ih =>
    rw [List.map_cons, List.nodup_cons] at h
    unfold sumAt
    by_cases hk : e.1 = k
    · rw [if_pos hk, List.mem_cons]
      constructor
      · intro hv; left; injection hv with hv; rw [← hk, ← hv]
      · rintro (hv | hv)
        · rw [← hv]
        · exact absurd (List.mem_map.2 ⟨_, hv, hk.symm⟩) h.1
    · rw [if_neg hk, ih h.2, List.mem_cons]
      constructor
      · exact .inr
      · rintro (hv | hv)
        · exact absurd (by rw [← hv]) hk
        · exact hv
theorem sumAt_snoc {l : List (κ × Int)} {k k' : κ} {v : Int} : sumAt k' (l ++ [(k, v)]) = if (sumAt k' l).isSome then sumAt k' l else if k = k' then some v else none := by
  induction l with
  | nil => simp [sumAt]
  | cons e l ih =>
    rw [List.cons_append]; unfold sumAt
    by_cases hk : e.1 = k'
    · simp [hk]
    · rw [if_neg hk, if_neg hk, ih]
omit [DecidableEq κ] in
theorem nodup_of_keys {l : List (κ × Int)} (h : (l.map (·.1)).Nodup) : l.Nodup := by
  induction l with
  | nil => exact List.nodup_nil
  | cons e l ih =>
    rw [List.map_cons, List.nodup_cons] at h
    exact List.nodup_cons.2 ⟨fun c => h.1 (List.mem_map.2 ⟨e, c, rfl⟩), ih h.2⟩
/-- Two lists of sums that say the same of every key have the same members. -/
theorem perm_of_sums {l l' : List (κ × Int)} (h : (l.map (·.1)).Nodup) (h' : (l'.map (·.1)).Nodup) (e : ∀ k, sumAt k l = sumAt k l') : l.Perm l' :=
  (List.perm_ext_iff_of_nodup (nodup_of_keys h) (nodup_of_keys h')).2 fun p => by
    obtain ⟨k, v⟩ := p
    rw [← sumAt_mem h, ← sumAt_mem h', e]
end

/-- What has been gathered: the sums that are no longer to come. -/
def Gath (acc : List (ByteArray × Int)) (left : Lit → Bool) (out : List (ByteArray × Int)) : Prop :=
  (out.map (·.1)).Nodup ∧ ∀ c, sumAt c out = if left (lit c) then none else sumAt c acc
theorem gath_start {D : DataW Unit} {acc : List (ByteArray × Int)} (h : Sums D acc) : Gath acc (Maps.has D) [] :=
  ⟨List.nodup_nil, fun c => by
    rw [h.2.2 c]
    cases e : sumAt c acc <;> simp [sumAt]⟩
theorem gath_step {D : DataW Unit} {acc : List (ByteArray × Int)} {left : Lit → Bool} {out : List (ByteArray × Int)} (h : Sums D acc) (g : Gath acc left out) {c : ByteArray} {v : Int} (hl : left (lit c) = true) (hh : Maps.has D (lit c) = true)
    (hat : D.atKey (lit c) (.lit (.int .i64 0)) = .lit (.int .i64 v)) : Gath acc (fun z => left z && !z.sameKey (lit c)) (out ++ [(c, v)]) := by
  have hv : sumAt c acc = some v := by
    have h3 := h.2.2 c
    rw [hh] at h3
    have h2 := h.2.1 c
    rw [hat] at h2
    cases e : sumAt c acc with
    | none => rw [e] at h3; cases h3
    | some x => rw [e] at h2; injection h2 with h2; injection h2 with _ h2; rw [h2]; rfl
  have hn : sumAt c out = none := by rw [g.2 c, if_pos hl]
  refine ⟨?_, fun c' => ?_⟩
  · rw [List.map_append, List.nodup_append]
    refine ⟨g.1, by simp, fun a ha b hb => ?_⟩
    simp at hb; subst hb
    obtain ⟨e, he, rfl⟩ := List.mem_map.1 ha
    exact sumAt_none.1 hn e he
  · rw [sumAt_snoc]
    by_cases e : c' = c
    · subst e
      have hs : (lit c').sameKey (lit c') = true := by simp [lit, Lit.sameKey]
      simp [hn, hs, hv]
    · have hs : (lit c').sameKey (lit c) = false := Maps.sameKey_ne (lit_ne e)
      have e' : ¬ c = c' := fun q => e q.symm
      simp only [hs, Bool.not_false, Bool.and_true, if_neg e', ← g.2 c']
      cases sumAt c' out <;> rfl
theorem gath_end {acc : List (ByteArray × Int)} {left : Lit → Bool} {out : List (ByteArray × Int)} (ha : (acc.map (·.1)).Nodup) (g : Gath acc left out) (hl : ∀ kl, left kl = false) : out.Perm acc :=
  perm_of_sums g.1 ha fun k => by rw [g.2 k, hl]; rfl
end Go.Proofs.YtmdgfcldohmjdaaDoor
