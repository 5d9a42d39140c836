/-
  PLAIN: sums by kind where nothing overflows.
-/
import Derived.Test.YtmdgfcldohmjdaaDoorPlainSumsN
import Derived.Test.YtmdgfcldohmjdaaDoorPlainOrd
namespace Go.Proofs.YtmdgfcldohmjdaaDoor
open Go.RowKit
set_option linter.unusedVariables false
set_option linter.unusedSimpArgs false

section
variable {κ : Type} [DecidableEq κ]
/-- The amounts of a kind, added up. -/
def ksum (k : κ) : List (κ × Int) → Int
  | [] => 0
  | e :: l => (if e.1 = k then e.2 else 0) + ksum k l
def khas (k : κ) (l : List (κ × Int)) : Prop := ∃ e ∈ l, e.1 = k
/-- The sizes of all amounts, added up. -/
def asum : List (κ × Int) → Nat
  | [] => 0
  | e :: l => e.2.natAbs + asum l
theorem ksum_app (k : κ) (l r : List (κ × Int)) : ksum k (l ++ r) = ksum k l + ksum k r := by
  induction l with
  | nil => simp [ksum]
  | cons e l ih => simp only [List.cons_append, ksum, ih]; omega
omit [DecidableEq κ] in
theorem asum_app (l r : List (κ × Int)) : asum (l ++ r) = asum l + asum r := by
  induction l with
  | nil => simp [asum]
  | cons e l ih => simp only [List.cons_append, asum, ih]; omega
theorem ksum_perm {k : κ} {l r : List (κ × Int)} (h : l.Perm r) : ksum k l = ksum k r := by
  induction h with
  | nil => rfl
  | cons x _ ih => simp only [ksum, ih]
  | swap x y l => simp only [ksum]; omega
  | trans _ _ i1 i2 => rw [i1, i2]
omit [DecidableEq κ] in
theorem asum_perm {l r : List (κ × Int)} (h : l.Perm r) : asum l = asum r := by
  induction h with
  | nil => rfl
  | cons x _ ih => simp only [asum, ih]
  | swap x y l => simp only [asum]; omega
  | trans _ _ i1 i2 => rw [i1, i2]
omit [DecidableEq κ] in
theorem khas_perm {k : κ} {l r : List (κ × Int)} (h : l.Perm r) : khas k l ↔ khas k r :=
  ⟨fun ⟨e, he, q⟩ => ⟨e, h.mem_iff.1 he, q⟩, fun ⟨e, he, q⟩ => ⟨e, h.mem_iff.2 he, q⟩⟩
theorem ksum_abs (k : κ) (l : List (κ × Int)) : (ksum k l).natAbs ≤ asum l := by
  induction l with
  | nil => simp [ksum, asum]
  | cons e l ih =>
    simp only [ksum, asum]
    split <;> omega
theorem sumAt_abs (k : κ) (l : List (κ × Int)) : ((sumAt k l).getD 0).natAbs ≤ asum l := by
  induction l with
  | nil => simp [sumAt, asum]
  | cons e l ih =>
    unfold sumAt
    simp only [asum]
    split
    · simp only [Option.getD_some]; omega
    · omega
theorem asum_set (k : κ) (v : Int) (l : List (κ × Int)) : asum (setAt k v l) ≤ asum l + (v - (sumAt k l).getD 0).natAbs := by
  induction l with
  | nil => simp [setAt, asum, sumAt]
  | cons e l ih =>
    unfold setAt sumAt
    split
    · simp only [asum, Option.getD_some]; omega
    · simp only [asum]; omega
theorem fitB_abs {x : Int} (h : x.natAbs ≤ 4611686018427387904) : fitB x = true := decide_eq_true (by omega)
theorem tally_ok : ∀ (l acc : List (κ × Int)), asum acc + asum l ≤ 4611686018427387904 → ∃ out, tally fitB acc l = some out ∧ (∀ k, ((sumAt k acc).isSome = true ∨ khas k l → sumAt k out = some ((sumAt k acc).getD 0 + ksum k l)) ∧ (¬ ((sumAt k acc).isSome = true ∨ khas k l) → sumAt k out = none)) ∧ asum out ≤ asum acc + asum l
  | [], acc, h => by
    refine ⟨acc, rfl, fun k => ?_, by simp [asum]⟩
    have nk : ¬ khas k ([] : List (κ × Int)) := by rintro ⟨e, he, _⟩; cases he
    cases hs : sumAt k acc with
    | none => exact ⟨fun q => by rcases q with q | q; (cases q); exact absurd q nk, fun _ => rfl⟩
    | some v => exact ⟨fun _ => by simp [ksum], fun q => absurd (.inl rfl) q⟩
  | e :: l, acc, h => by
    have a1 := sumAt_abs e.1 acc
    simp only [asum] at h
    have fit : fitB ((sumAt e.1 acc).getD 0 + e.2) = true := fitB_abs (by omega)
    have a2 := asum_set e.1 ((sumAt e.1 acc).getD 0 + e.2) acc
    have a3 : ((sumAt e.1 acc).getD 0 + e.2 - (sumAt e.1 acc).getD 0).natAbs = e.2.natAbs := by omega
    rw [a3] at a2
    obtain ⟨out, h1, h2, h3⟩ := tally_ok l (setAt e.1 ((sumAt e.1 acc).getD 0 + e.2) acc) (by omega)
    refine ⟨out, by unfold tally; rw [if_pos fit]; exact h1, fun k => ?_, by simp only [asum]; omega⟩
    have hk : khas k (e :: l) ↔ e.1 = k ∨ khas k l := by
      constructor
      · rintro ⟨x, hx, q⟩
        rcases List.mem_cons.1 hx with rfl | hx
        · exact .inl q
        · exact .inr ⟨x, hx, q⟩
      · rintro (q | ⟨x, hx, q⟩)
        · exact ⟨e, List.mem_cons_self, q⟩
        · exact ⟨x, List.mem_cons_of_mem _ hx, q⟩
    obtain ⟨i1, i2⟩ := h2 k
    by_cases q : e.1 = k
    · subst q
      rw [sumAt_set] at i1 i2
      refine ⟨fun _ => ?_, fun r => absurd (.inr (hk.2 (.inl rfl))) r⟩
      rw [i1 (.inl rfl)]
      simp only [Option.getD_some, ksum, if_pos]
      congr 1
      omega
    · have q' : k ≠ e.1 := fun x => q x.symm
      rw [sumAt_set_other q'] at i1 i2
      have e1 : ksum k (e :: l) = ksum k l := by simp only [ksum, if_neg q]; omega
      rw [e1, hk]
      refine ⟨fun r => i1 ?_, fun r => i2 ?_⟩
      · rcases r with r | r | r
        · exact .inl r
        · exact absurd r q
        · exact .inr r
      · rintro (x | x)
        · exact r (.inl x)
        · exact r (.inr (.inr x))
/-- The sums of a list of which nothing overflows, key by key. -/
theorem tally_all (l : List (κ × Int)) (h : asum l ≤ 4611686018427387904) : ∃ out, tally fitB [] l = some out ∧ (∀ k, (khas k l → sumAt k out = some (ksum k l)) ∧ (¬ khas k l → sumAt k out = none)) ∧ asum out ≤ asum l := by
  obtain ⟨out, h1, h2, h3⟩ := tally_ok l [] (by simpa [asum] using h)
  refine ⟨out, h1, fun k => ⟨fun q => ?_, fun q => ?_⟩, by simpa [asum] using h3⟩
  · rw [(h2 k).1 (.inr q)]; simp [sumAt]
  · exact (h2 k).2 (by rintro (r | r); (simp [sumAt] at r); exact q r)
/-- Two lists with the same members have the same sums. -/
theorem tally_perm {l r : List (κ × Int)} (hp : l.Perm r) (h : asum l ≤ 4611686018427387904) {A B : List (κ × Int)} (hA : tally fitB [] l = some A) (hB : tally fitB [] r = some B) : A.Perm B := by
  obtain ⟨A', h1, h2, _⟩ := tally_all l h
  obtain ⟨B', h3, h4, _⟩ := tally_all r (by rw [← asum_perm hp]; exact h)
  rw [hA] at h1; injection h1 with h1; subst h1
  rw [hB] at h3; injection h3 with h3; subst h3
  refine perm_of_sums (tally_apart (acc := []) (by simp) hA) (tally_apart (acc := []) (by simp) hB) (fun k => ?_)
  by_cases q : khas k l
  · rw [(h2 k).1 q, (h4 k).1 ((khas_perm hp).1 q), ksum_perm hp]
  · rw [(h2 k).2 q, (h4 k).2 (fun x => q ((khas_perm hp).2 x))]
end

/-- Sums by day and currency, by currency alone. -/
def prj (l : List (DC × Int)) : List (ByteArray × Int) := l.map fun e => (e.1.2, e.2)
theorem prj_set (c : ByteArray) (k : DC) (v : Int) (l : List (DC × Int)) : ksum c (prj (setAt k v l)) = ksum c (prj l) + (if k.2 = c then v - (sumAt k l).getD 0 else 0) := by
  induction l with
  | nil => simp [setAt, prj, ksum, sumAt]
  | cons e l ih =>
    unfold setAt sumAt
    by_cases q : e.1 = k
    · rw [if_pos q, if_pos q]
      simp only [prj, List.map_cons, ksum, Option.getD_some, q]
      split <;> omega
    · rw [if_neg q, if_neg q]
      simp only [prj, List.map_cons, ksum] at ih ⊢
      rw [ih]; omega
theorem prj_sum (c : ByteArray) : ∀ (l acc out : List (DC × Int)), tally fitB acc l = some out → ksum c (prj out) = ksum c (prj acc) + ksum c (prj l)
  | [], acc, out, h => by cases h; simp [prj, ksum]
  | e :: l, acc, out, h => by
    unfold tally at h
    split at h
    · have := prj_sum c l _ out h
      rw [this, prj_set]
      simp only [prj, List.map_cons, ksum]
      split <;> omega
    · cases h
theorem prj_has (c : ByteArray) : ∀ (l acc out : List (DC × Int)), tally fitB acc l = some out → (khas c (prj out) ↔ khas c (prj acc) ∨ khas c (prj l))
  | [], acc, out, h => by
    cases h
    constructor
    · exact .inl
    · rintro (q | ⟨e, he, _⟩)
      · exact q
      · cases he
  | e :: l, acc, out, h => by
    unfold tally at h
    split at h
    · have := prj_has c l _ out h
      rw [this]
      have key : ∀ (k : DC) (v : Int) (r : List (DC × Int)), khas c (prj (setAt k v r)) ↔ khas c (prj r) ∨ k.2 = c := fun k v r => by
        have m : ∀ s : List (DC × Int), khas c (prj s) ↔ c ∈ (s.map (·.1)).map (·.2) := fun s => by
          unfold khas prj
          simp only [List.mem_map]
          constructor
          · rintro ⟨x, ⟨y, hy, rfl⟩, q⟩; exact ⟨y.1, ⟨y, hy, rfl⟩, q⟩
          · rintro ⟨z, ⟨y, hy, rfl⟩, q⟩; exact ⟨_, ⟨y, hy, rfl⟩, q⟩
        rw [m, m, setAt_keys]
        split
        · simp [eq_comm]
        · rename_i hs
          constructor
          · exact .inl
          · rintro (q | q)
            · exact q
            · obtain ⟨x, hx⟩ : ∃ x, x ∈ r ∧ x.1 = k := Classical.byContradiction fun n => hs (sumAt_none.2 (fun e he q => n ⟨e, he, q⟩))
              exact List.mem_map.2 ⟨k, List.mem_map.2 ⟨x, hx.1, hx.2⟩, q⟩
      rw [key]
      have hh : khas c (prj (e :: l)) ↔ e.1.2 = c ∨ khas c (prj l) := by
        unfold khas prj
        simp only [List.map_cons, List.mem_cons]
        constructor
        · rintro ⟨x, rfl | hx, q⟩
          · exact .inl q
          · exact .inr ⟨x, hx, q⟩
        · rintro (q | ⟨x, hx, q⟩)
          · exact ⟨_, .inl rfl, q⟩
          · exact ⟨x, .inr hx, q⟩
      rw [hh, or_assoc]
    · cases h
end Go.Proofs.YtmdgfcldohmjdaaDoor
