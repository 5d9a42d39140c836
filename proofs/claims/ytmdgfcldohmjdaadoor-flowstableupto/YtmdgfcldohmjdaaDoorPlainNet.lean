/-
  SUMS BY KIND, AND THE EXCHANGE SORT: plain facts on lists (for Net and Totals).
-/
namespace Go.Proofs.YtmdgfcldohmjdaaDoor
set_option linter.unusedVariables false
set_option linter.unusedSimpArgs false

/-! ### The exchange sort: 'for i, for k > i: if l[k] < l[i], exchange them' -/
section
variable {α : Type}

/-- The inner loop: what stands at i at its end, and what stands behind. -/
def sel (lt : α → α → Bool) : α → List α → α × List α
  | x, [] => (x, [])
  | x, y :: r => if lt y x then ((sel lt y r).1, x :: (sel lt y r).2) else ((sel lt x r).1, y :: (sel lt x r).2)

theorem sel_len (lt : α → α → Bool) : ∀ (r : List α) (x : α), (sel lt x r).2.length = r.length
  | [], x => rfl
  | y :: r, x => by
    unfold sel; split
    · simp [sel_len lt r y]
    · simp [sel_len lt r x]

theorem sel_perm (lt : α → α → Bool) : ∀ (r : List α) (x : α), ((sel lt x r).1 :: (sel lt x r).2).Perm (x :: r)
  | [], x => List.Perm.refl _
  | y :: r, x => by
    unfold sel; split
    · exact (List.Perm.swap _ _ _).trans ((sel_perm lt r y).cons x)
    · exact ((List.Perm.swap _ _ _).trans ((sel_perm lt r x).cons y)).trans (List.Perm.swap _ _ _)

/-- What the inner loop leaves at i is not greater than anything it has seen. -/
theorem sel_least (lt : α → α → Bool) (tr : ∀ a b c, lt b a = false → lt c b = false → lt c a = false) (as : ∀ a b, lt a b = true → lt b a = false) :
    ∀ (r : List α) (x : α), lt x (sel lt x r).1 = false ∧ ∀ z, z ∈ r → lt z (sel lt x r).1 = false
  | [], x => ⟨by cases h : lt x x with
      | false => simp [sel, h]
      | true => exact absurd (as x x h) (by simp [h]), by simp⟩
  | y :: r, x => by
    unfold sel; split
    · rename_i h
      obtain ⟨i1, i2⟩ := sel_least lt tr as r y
      refine ⟨tr _ _ _ i1 (as y x h), fun z hz => ?_⟩
      rcases List.mem_cons.1 hz with rfl | hz
      · exact i1
      · exact i2 z hz
    · rename_i h
      obtain ⟨i1, i2⟩ := sel_least lt tr as r x
      refine ⟨i1, fun z hz => ?_⟩
      rcases List.mem_cons.1 hz with rfl | hz
      · exact tr _ _ _ i1 (by simpa using h)
      · exact i2 z hz

/-- Both loops. -/
def exsort (lt : α → α → Bool) : List α → List α
  | [] => []
  | x :: r => (sel lt x r).1 :: exsort lt (sel lt x r).2
termination_by l => l.length
decreasing_by simp [sel_len]

theorem exsort_nil (lt : α → α → Bool) : exsort lt [] = [] := by unfold exsort; rfl
theorem exsort_cons (lt : α → α → Bool) (x : α) (r : List α) : exsort lt (x :: r) = (sel lt x r).1 :: exsort lt (sel lt x r).2 := by
  conv => lhs; unfold exsort

theorem exsort_perm (lt : α → α → Bool) : ∀ (n : Nat) (l : List α), l.length = n → (exsort lt l).Perm l
  | 0, l, h => by
    have : l = [] := List.eq_nil_of_length_eq_zero h
    subst this; rw [exsort_nil]
  | n + 1, [], h => by simp at h
  | n + 1, x :: r, h => by
    rw [exsort_cons]
    exact ((exsort_perm lt n _ (by simp [sel_len] at h ⊢; omega)).cons _).trans (sel_perm lt r x)

theorem exsort_sorted (lt : α → α → Bool) (tr : ∀ a b c, lt b a = false → lt c b = false → lt c a = false) (as : ∀ a b, lt a b = true → lt b a = false) :
    ∀ (n : Nat) (l : List α), l.length = n → (exsort lt l).Pairwise (fun a b => lt b a = false)
  | 0, l, h => by
    have : l = [] := List.eq_nil_of_length_eq_zero h
    subst this; rw [exsort_nil]; exact List.Pairwise.nil
  | n + 1, [], h => by simp at h
  | n + 1, x :: r, h => by
    rw [exsort_cons]
    have hl : (sel lt x r).2.length = n := by simp [sel_len] at h ⊢; omega
    refine List.Pairwise.cons (fun z hz => ?_) (exsort_sorted lt tr as n _ hl)
    have hz' : z ∈ (sel lt x r).2 := (exsort_perm lt n _ hl).mem_iff.1 hz
    have hz2 : z ∈ x :: r := (sel_perm lt r x).mem_iff.1 (List.mem_cons_of_mem _ hz')
    obtain ⟨i1, i2⟩ := sel_least lt tr as r x
    rcases List.mem_cons.1 hz2 with rfl | hz2
    · exact i1
    · exact i2 z hz2

/-- Whatever is ordered and has the same members is the exchange sort's list, if only the same compare as the same. -/
theorem exsort_only (lt : α → α → Bool) (tr : ∀ a b c, lt b a = false → lt c b = false → lt c a = false) (as : ∀ a b, lt a b = true → lt b a = false)
    {l s : List α} (hp : s.Perm l) (hs : s.Pairwise (fun a b => lt b a = false)) (an : ∀ a b, a ∈ l → b ∈ l → lt a b = false → lt b a = false → a = b) :
    s = exsort lt l :=
  List.Perm.eq_of_pairwise (le := fun a b => lt b a = false)
    (fun a b ha hb h1 h2 => an a b (hp.mem_iff.1 ha) ((exsort_perm lt _ l rfl).mem_iff.1 hb) h2 h1) hs (exsort_sorted lt tr as _ l rfl) (hp.trans (exsort_perm lt _ l rfl).symm)
end

/-! ### Sums by kind -/
section
variable {κ : Type} [DecidableEq κ]

/-- The sum that stands under a key. -/
def sumAt (k : κ) : List (κ × Int) → Option Int
  | [] => none
  | e :: l => if e.1 = k then some e.2 else sumAt k l
/-- A sum set under a key: in its place, or at the end. -/
def setAt (k : κ) (v : Int) : List (κ × Int) → List (κ × Int)
  | [] => [(k, v)]
  | e :: l => if e.1 = k then (k, v) :: l else e :: setAt k v l
/-- The sums of a list, first to last; none: one of them does not fit. -/
def tally (fits : Int → Bool) : List (κ × Int) → List (κ × Int) → Option (List (κ × Int))
  | acc, [] => some acc
  | acc, e :: l => if fits ((sumAt e.1 acc).getD 0 + e.2) then tally fits (setAt e.1 ((sumAt e.1 acc).getD 0 + e.2) acc) l else none

theorem sumAt_none {k : κ} : ∀ {l : List (κ × Int)}, sumAt k l = none ↔ ∀ e, e ∈ l → e.1 ≠ k
  | [] => by simp [sumAt]
  | e :: l => by
    unfold sumAt; split
    · rename_i h; simp [h]
    · rename_i h; rw [sumAt_none]; simp [h]
theorem setAt_new {k : κ} {v : Int} : ∀ {l : List (κ × Int)}, sumAt k l = none → setAt k v l = l ++ [(k, v)]
  | [], _ => rfl
  | e :: l, h => by
    unfold sumAt at h; unfold setAt
    split at h
    · cases h
    · rename_i hk; rw [if_neg hk, setAt_new h]; rfl
theorem setAt_keys {k : κ} {v : Int} : ∀ {l : List (κ × Int)}, (setAt k v l).map (·.1) = if sumAt k l = none then l.map (·.1) ++ [k] else l.map (·.1)
  | [] => by simp [setAt, sumAt]
  | e :: l => by
    unfold sumAt setAt
    by_cases hk : e.1 = k
    · simp [hk]
    · simp only [hk, if_false, List.map_cons]
      rw [setAt_keys]; split <;> simp
theorem setAt_apart {k : κ} {v : Int} {l : List (κ × Int)} (h : (l.map (·.1)).Nodup) : ((setAt k v l).map (·.1)).Nodup := by
  rw [setAt_keys]
  split
  · rename_i hk
    rw [List.nodup_append]
    refine ⟨h, by simp, fun a ha b hb => ?_⟩
    simp at hb; subst hb
    obtain ⟨e, he, rfl⟩ := List.mem_map.1 ha
    exact sumAt_none.1 hk e he
  · exact h
theorem tally_apart {fits : Int → Bool} : ∀ {l acc out : List (κ × Int)}, (acc.map (·.1)).Nodup → tally fits acc l = some out → (out.map (·.1)).Nodup
  | [], acc, out, h, ht => by cases ht; exact h
  | e :: l, acc, out, h, ht => by
    unfold tally at ht
    split at ht
    · exact tally_apart (setAt_apart h) ht
    · cases ht
theorem tally_snoc {fits : Int → Bool} : ∀ {l acc : List (κ × Int)} {e : κ × Int}, tally fits acc (l ++ [e]) = (tally fits acc l).bind fun s => if fits ((sumAt e.1 s).getD 0 + e.2) then some (setAt e.1 ((sumAt e.1 s).getD 0 + e.2) s) else none
  | [], acc, e => by simp [tally]
  | x :: l, acc, e => by
    rw [List.cons_append]; unfold tally
    split
    · exact tally_snoc
    · rfl
omit [DecidableEq κ] in
/-- Of one key there is one sum. -/
theorem apart_one {l : List (κ × Int)} (h : (l.map (·.1)).Nodup) {a b : κ × Int} (ha : a ∈ l) (hb : b ∈ l) (e : a.1 = b.1) : a = b := by
  induction l with
  | nil => cases ha
  | cons x l ih =>
    rw [List.map_cons, List.nodup_cons] at h
    rcases List.mem_cons.1 ha with rfl | ha
    · rcases List.mem_cons.1 hb with rfl | hb
      · rfl
      · exact absurd (List.mem_map.2 ⟨b, hb, e.symm⟩) h.1
    · rcases List.mem_cons.1 hb with hb | hb
      · exact absurd (List.mem_map.2 ⟨a, ha, e.trans (by rw [hb])⟩) h.1
      · exact ih h.2 ha hb
end
end Go.Proofs.YtmdgfcldohmjdaaDoor
