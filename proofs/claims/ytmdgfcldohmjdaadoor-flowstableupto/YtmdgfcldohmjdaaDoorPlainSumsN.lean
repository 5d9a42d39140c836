/-
  SUMS BY DAY AND CURRENCY AS A MAP HOLDS THEM, AND WHAT A RANGE GATHERS (Net).
-/
import Derived.Test.YtmdgfcldohmjdaaDoorWPairKey
import Derived.Test.YtmdgfcldohmjdaaDoorPlainGather
namespace Go.Proofs.YtmdgfcldohmjdaaDoor
open Go.RowKit Go.Maps
set_option linter.unusedVariables false
set_option linter.unusedSimpArgs false

abbrev DC := Int × ByteArray
def wfK (k : DC) : Prop := (Lit.int .i64 k.1).wf = true ∧ k.2.size ≤ maxLen
def litK (k : DC) : Lit := litP k.1 k.2
theorem litK_ne {k k' : DC} (h : wfK k) (h' : wfK k') (e : k' ≠ k) : litK k' ≠ litK k := litP_ne h.1 h.2 h'.1 h'.2 e
theorem arr_two {cs : Array Value} (h : cs.size = 2) : ∃ x y, cs = #[x, y] := by
  obtain ⟨l⟩ := cs
  match l, h with
  | [x, y], _ => exact ⟨x, y, rfl⟩
theorem keyP_eq (v : Value) : keyOf Tryd.prog 58 v = if v.formed Tryd.prog 58 = true then (Tryd.prog.keyLits (Tryd.prog.types.size + 1) 58 v.cells.toList).map fun ls => .string (keyBytes ls) else none := by
  unfold keyOf
  rw [Tryd.underlying58]
  simp only [pairKey, Bool.true_and]
theorem litsP_eq (m : Nat) (x y : Value) : Tryd.prog.keyLits (m + 2) 58 [x, y] = (match x with | .int q n => if q = IntKind.i64 ∧ (Lit.int .i64 n).wf = true then some [Lit.int .i64 n] else none | _ => none).bind fun a => (match y with | .string s => if s.size ≤ maxLen then some [Lit.string s.data.toList] else none | _ => none).map fun b => a ++ b := by
  simp only [Program.keyLits, Tryd.underlying58, pairCells]
  simp [Program.keyLits, Tryd.underlying3, Tryd.underlying9, pairInt, pairStr]
  cases x <;> cases y <;> simp <;> (try split) <;> (try split) <;> simp_all
theorem keyP_inv {key : Value} {kl : Lit} (h : keyOf Tryd.prog 58 key = some kl) : ∃ x : DC, key = .agg #[.int .i64 x.1, .string x.2] ∧ kl = litK x ∧ wfK x := by
  obtain ⟨m, hm⟩ := pairTypes
  rw [keyP_eq] at h
  split at h
  · rename_i hf
    cases key with
    | agg cs =>
      have hs : cs.size = 2 := by simpa [Value.formed, Tryd.underlying58, pairCells] using hf
      obtain ⟨x, y, rfl⟩ := arr_two hs
      · have e : (Value.agg #[x, y]).cells.toList = [x, y] := rfl
        rw [hm, e, litsP_eq] at h
        cases x with
        | int q n =>
          cases y with
          | string s =>
            simp only at h
            by_cases c1 : q = .i64 ∧ (Lit.int .i64 n).wf = true
            · by_cases c2 : s.size ≤ maxLen
              · rw [if_pos c1, if_pos c2] at h
                simp at h
                obtain ⟨rfl, c1⟩ := c1
                exact ⟨(n, s), rfl, h.symm, c1, c2⟩
              · rw [if_pos c1, if_neg c2] at h; simp at h
            · rw [if_neg c1] at h; simp at h
          | _ => simp at h
        | _ => simp at h
    | _ => simp [Value.formed, Tryd.underlying58] at hf
  · cases h

theorem setAt_mem {k : DC} {v : Int} {e : DC × Int} : ∀ {l : List (DC × Int)}, e ∈ setAt k v l → e = (k, v) ∨ e ∈ l
  | [], h => by simp [setAt] at h; exact .inl h
  | x :: l, h => by
    unfold setAt at h
    split at h
    · rcases List.mem_cons.1 h with h | h
      · exact .inl h
      · exact .inr (List.mem_cons_of_mem _ h)
    · rcases List.mem_cons.1 h with h | h
      · exact .inr (h ▸ List.mem_cons_self)
      · rcases setAt_mem h with q | q
        · exact .inl q
        · exact .inr (List.mem_cons_of_mem _ q)
/-- A map that holds just these sums. -/
def SumsN (D : DataW Unit) (acc : List (DC × Int)) : Prop :=
  IsMap D ∧ (∀ k, wfK k → D.atKey (litK k) (.lit (.int .i64 0)) = .lit (.int .i64 ((sumAt k acc).getD 0))) ∧ (∀ k, wfK k → Maps.has D (litK k) = (sumAt k acc).isSome) ∧ ∀ e ∈ acc, wfK e.1
theorem sumsN_none : SumsN (.map []) [] := ⟨isMap_empty, fun _ _ => rfl, fun _ _ => rfl, by simp⟩
theorem SumsN.set {D : DataW Unit} {acc : List (DC × Int)} (h : SumsN D acc) (k : DC) (hk : wfK k) (v : Int) : SumsN (D.put (litK k) (.lit (.int .i64 v))) (setAt k v acc) := by
  obtain ⟨h1, h2, h3, h4⟩ := h
  refine ⟨h1.put _ _, fun k' hk' => ?_, fun k' hk' => ?_, fun e he => ?_⟩
  · by_cases e : k' = k
    · subst e; rw [atKey_put_same h1 (k := litK k') trivial, sumAt_set]; rfl
    · rw [atKey_put_other (litK_ne hk hk' e), h2 k' hk', sumAt_set_other e]
  · by_cases e : k' = k
    · subst e; rw [has_put_same h1 (k := litK k') trivial, sumAt_set]; rfl
    · rw [has_put_other (litK_ne hk hk' e), h3 k' hk', sumAt_set_other e]
  · rcases setAt_mem he with q | q
    · rw [q]; exact hk
    · exact h4 e q
/-- The sums by day and currency. -/
def nets (fs : List Fl) : Option (List (DC × Int)) := tally fitB [] (fs.map fun f => ((f.d, f.c), f.a))
theorem nets_step {fs : List Fl} {k : Nat} {f : Fl} (hk : k < fs.length) (hf : fs.getD k default = f) : nets (fs.take (k + 1)) = (nets (fs.take k)).bind fun s => if fitB ((sumAt (f.d, f.c) s).getD 0 + f.a) then some (setAt (f.d, f.c) ((sumAt (f.d, f.c) s).getD 0 + f.a) s) else none := by
  have e : fs[k]? = some f := by rw [List.getElem?_eq_getElem hk, ← hf]; simp [List.getD, hk]
  unfold nets
  rw [List.take_add_one, e]
  simp only [Option.toList_some, List.map_append, List.map_cons, List.map_nil]
  rw [tally_snoc]
theorem nets_no {fs : List Fl} {k : Nat} (h : nets (fs.take k) = none) : nets fs = none := by
  unfold nets at *
  rw [← List.take_append_drop k fs, List.map_append]
  exact tally_no h
/-- What has been gathered: the sums that are no longer to come. -/
def GathN (acc : List (DC × Int)) (left : Lit → Bool) (out : List (DC × Int)) : Prop :=
  (out.map (·.1)).Nodup ∧ (∀ k, wfK k → sumAt k out = if left (litK k) then none else sumAt k acc) ∧ ∀ e ∈ out, wfK e.1
theorem gathN_start {D : DataW Unit} {acc : List (DC × Int)} (h : SumsN D acc) : GathN acc (Maps.has D) [] :=
  ⟨List.nodup_nil, fun k hk => by
    rw [h.2.2.1 k hk]
    cases e : sumAt k acc <;> simp [sumAt], by simp⟩
theorem gathN_step {D : DataW Unit} {acc : List (DC × Int)} {left : Lit → Bool} {out : List (DC × Int)} (h : SumsN D acc) (g : GathN acc left out) {k : DC} (hk : wfK k) {v : Int} (hl : left (litK k) = true) (hh : Maps.has D (litK k) = true)
    (hat : D.atKey (litK k) (.lit (.int .i64 0)) = .lit (.int .i64 v)) : GathN acc (fun z => left z && !z.sameKey (litK k)) (out ++ [(k, v)]) := by
  have hv : sumAt k acc = some v := by
    have h3 := h.2.2.1 k hk
    rw [hh] at h3
    have h2 := h.2.1 k hk
    rw [hat] at h2
    cases e : sumAt k acc with
    | none => rw [e] at h3; cases h3
    | some x => rw [e] at h2; injection h2 with h2; injection h2 with _ h2; rw [h2]; rfl
  have hn : sumAt k out = none := by rw [g.2.1 k hk, if_pos hl]
  refine ⟨?_, fun k' hk' => ?_, fun e he => ?_⟩
  · rw [List.map_append, List.nodup_append]
    refine ⟨g.1, by simp, fun a ha b hb => ?_⟩
    simp at hb; subst hb
    obtain ⟨e, he, rfl⟩ := List.mem_map.1 ha
    exact sumAt_none.1 hn e he
  · rw [sumAt_snoc]
    by_cases e : k' = k
    · subst e
      have hs : (litK k').sameKey (litK k') = true := by simp [litK, litP, Lit.sameKey]
      simp [hn, hs, hv]
    · have hs : (litK k').sameKey (litK k) = false := Maps.sameKey_ne (litK_ne hk hk' e)
      have e' : ¬ k = k' := fun q => e q.symm
      simp only [hs, Bool.not_false, Bool.and_true, if_neg e', ← g.2.1 k' hk']
      cases sumAt k' out <;> rfl
  · rcases List.mem_append.1 he with q | q
    · exact g.2.2 e q
    · simp at q; rw [q]; exact hk
theorem gathN_end {acc : List (DC × Int)} {left : Lit → Bool} {out : List (DC × Int)} (ha : (acc.map (·.1)).Nodup) (hw : ∀ e ∈ acc, wfK e.1) (g : GathN acc left out) (hl : ∀ kl, left kl = false) : out.Perm acc :=
  perm_of_sums g.1 ha fun k => by
    by_cases hk : wfK k
    · rw [g.2.1 k hk, hl]; rfl
    · rw [sumAt_none.2 (fun e he (q : e.1 = k) => hk (by rw [← q]; exact g.2.2 e he)), sumAt_none.2 (fun e he (q : e.1 = k) => hk (by rw [← q]; exact hw e he))]
/-- A sum as a flow. -/
def fzN (e : DC × Int) : Fl := ⟨e.1.1, e.1.2, e.2⟩
end Go.Proofs.YtmdgfcldohmjdaaDoor
