/-
  PLAIN: lists laid together by day; pairs of neighbours.
-/
import Derived.Test.YtegoeadmddliiaaOpenFlow
namespace Go.Proofs.Ytegoeadmddliiaa
set_option linter.unusedVariables false

/-- Two lists laid together by day; on one day the first list's come first. -/
def mrg : List Fl → List Fl → List Fl
  | xs, [] => xs
  | [], y :: ys => y :: ys
  | x :: xs, y :: ys => if x.d ≤ y.d then x :: mrg xs (y :: ys) else y :: mrg (x :: xs) ys
termination_by xs ys => xs.length + ys.length
def mpairs : List (List Fl) → List (List Fl)
  | [] => []
  | [x] => [mrg x []]
  | x :: y :: l => mrg x y :: mpairs l
def Srt (l : List Fl) : Prop := l.Pairwise (fun a b => a.d ≤ b.d)
def onDay (D : Int) (l : List Fl) : List Fl := l.filter (fun f => decide (f.d = D))
def ltot (Ls : List (List Fl)) : Nat := (Ls.map List.length).sum

theorem mrg_r (xs : List Fl) : mrg xs [] = xs := by unfold mrg; rfl
theorem mrg_l (ys : List Fl) : mrg [] ys = ys := by cases ys <;> simp [mrg]
theorem mrg_le {x y : Fl} {xs ys : List Fl} (h : x.d ≤ y.d) : mrg (x :: xs) (y :: ys) = x :: mrg xs (y :: ys) := by rw [mrg, if_pos h]
theorem mrg_gt {x y : Fl} {xs ys : List Fl} (h : ¬ x.d ≤ y.d) : mrg (x :: xs) (y :: ys) = y :: mrg (x :: xs) ys := by rw [mrg, if_neg h]
theorem mrg_len : ∀ xs ys : List Fl, (mrg xs ys).length = xs.length + ys.length
  | xs, [] => by rw [mrg_r]; simp
  | [], y :: ys => by rw [mrg_l]; simp
  | x :: xs, y :: ys => by
    by_cases h : x.d ≤ y.d
    · rw [mrg_le h, List.length_cons, mrg_len xs (y :: ys)]; simp; omega
    · rw [mrg_gt h, List.length_cons, mrg_len (x :: xs) ys]; simp; omega
termination_by xs ys => xs.length + ys.length
theorem mrg_mem : ∀ (xs ys : List Fl) (f : Fl), f ∈ mrg xs ys → f ∈ xs ∨ f ∈ ys
  | xs, [], f, h => by rw [mrg_r] at h; exact .inl h
  | [], y :: ys, f, h => by rw [mrg_l] at h; exact .inr h
  | x :: xs, y :: ys, f, h => by
    by_cases hc : x.d ≤ y.d
    · rw [mrg_le hc] at h
      rcases List.mem_cons.1 h with rfl | h
      · exact .inl (List.mem_cons_self ..)
      · rcases mrg_mem xs (y :: ys) f h with h | h
        · exact .inl (List.mem_cons_of_mem _ h)
        · exact .inr h
    · rw [mrg_gt hc] at h
      rcases List.mem_cons.1 h with rfl | h
      · exact .inr (List.mem_cons_self ..)
      · rcases mrg_mem (x :: xs) ys f h with h | h
        · exact .inl h
        · exact .inr (List.mem_cons_of_mem _ h)
termination_by xs ys => xs.length + ys.length
theorem mrg_srt : ∀ (xs ys : List Fl), Srt xs → Srt ys → Srt (mrg xs ys)
  | xs, [], h1, h2 => by rw [mrg_r]; exact h1
  | [], y :: ys, h1, h2 => by rw [mrg_l]; exact h2
  | x :: xs, y :: ys, h1, h2 => by
    have a1 := List.pairwise_cons.1 h1
    have a2 := List.pairwise_cons.1 h2
    by_cases hc : x.d ≤ y.d
    · rw [mrg_le hc]
      refine List.pairwise_cons.2 ⟨fun f hf => ?_, mrg_srt xs (y :: ys) a1.2 h2⟩
      rcases mrg_mem xs (y :: ys) f hf with h | h
      · exact a1.1 f h
      · rcases List.mem_cons.1 h with rfl | h
        · exact hc
        · have := a2.1 f h; omega
    · rw [mrg_gt hc]
      refine List.pairwise_cons.2 ⟨fun f hf => ?_, mrg_srt (x :: xs) ys h1 a2.2⟩
      rcases mrg_mem (x :: xs) ys f hf with h | h
      · rcases List.mem_cons.1 h with rfl | h
        · omega
        · have := a1.1 f h; omega
      · exact a2.1 f h
termination_by xs ys => xs.length + ys.length
theorem onDay_none {D : Int} {l : List Fl} (h : ∀ f ∈ l, f.d ≠ D) : onDay D l = [] := by
  unfold onDay
  rw [List.filter_eq_nil_iff]
  intro f hf
  simpa using h f hf
theorem mrg_day (D : Int) : ∀ (xs ys : List Fl), Srt xs → onDay D (mrg xs ys) = onDay D xs ++ onDay D ys
  | xs, [], h1 => by rw [mrg_r]; simp [onDay]
  | [], y :: ys, h1 => by rw [mrg_l]; simp [onDay]
  | x :: xs, y :: ys, h1 => by
    have a1 := List.pairwise_cons.1 h1
    by_cases hc : x.d ≤ y.d
    · rw [mrg_le hc]
      have ih := mrg_day D xs (y :: ys) a1.2
      by_cases hd : x.d = D
      · have e1 : onDay D (x :: mrg xs (y :: ys)) = x :: onDay D (mrg xs (y :: ys)) := by simp [onDay, hd]
        have e2 : onDay D (x :: xs) = x :: onDay D xs := by simp [onDay, hd]
        rw [e1, e2, ih]; rfl
      · have e1 : onDay D (x :: mrg xs (y :: ys)) = onDay D (mrg xs (y :: ys)) := by simp [onDay, hd]
        have e2 : onDay D (x :: xs) = onDay D xs := by simp [onDay, hd]
        rw [e1, e2, ih]
    · rw [mrg_gt hc]
      have ih := mrg_day D (x :: xs) ys h1
      by_cases hd : y.d = D
      · have e1 : onDay D (y :: mrg (x :: xs) ys) = y :: onDay D (mrg (x :: xs) ys) := by simp [onDay, hd]
        have e2 : onDay D (y :: ys) = y :: onDay D ys := by simp [onDay, hd]
        have e3 : onDay D (x :: xs) = [] := onDay_none fun f hf => by
          rcases List.mem_cons.1 hf with rfl | hf
          · omega
          · have := a1.1 f hf; omega
        rw [e1, e2, ih, e3]; rfl
      · have e1 : onDay D (y :: mrg (x :: xs) ys) = onDay D (mrg (x :: xs) ys) := by simp [onDay, hd]
        have e2 : onDay D (y :: ys) = onDay D ys := by simp [onDay, hd]
        rw [e1, e2, ih]
termination_by xs ys => xs.length + ys.length
theorem mpairs_len : ∀ Ls : List (List Fl), (mpairs Ls).length = (Ls.length + 1) / 2
  | [] => rfl
  | [x] => by simp [mpairs]
  | x :: y :: l => by
    have := mpairs_len l
    simp only [mpairs, List.length_cons, this]
    omega
theorem mpairs_srt : ∀ Ls : List (List Fl), (∀ l ∈ Ls, Srt l) → ∀ l ∈ mpairs Ls, Srt l
  | [], h, l, hl => by cases hl
  | [x], h, l, hl => by
    simp only [mpairs, mrg_r, List.mem_singleton] at hl
    subst hl
    exact h _ (List.mem_singleton.2 rfl)
  | x :: y :: r, h, l, hl => by
    simp only [mpairs, List.mem_cons] at hl
    rcases hl with rfl | hl
    · exact mrg_srt x y (h x (by simp)) (h y (by simp))
    · exact mpairs_srt r (fun l hl => h l (by simp [hl])) l hl
theorem mpairs_day (D : Int) : ∀ Ls : List (List Fl), (∀ l ∈ Ls, Srt l) → (mpairs Ls).flatMap (onDay D) = Ls.flatMap (onDay D)
  | [], h => rfl
  | [x], h => by simp [mpairs, mrg_r]
  | x :: y :: r, h => by
    have ih := mpairs_day D r (fun l hl => h l (by simp [hl]))
    simp only [mpairs, List.flatMap_cons, ih, mrg_day D x y (h x (by simp)), List.append_assoc]
theorem mpairs_tot : ∀ Ls : List (List Fl), ltot (mpairs Ls) = ltot Ls
  | [] => rfl
  | [x] => by simp [mpairs, mrg_r]
  | x :: y :: r => by
    have ih := mpairs_tot r
    unfold ltot at ih ⊢
    simp only [mpairs, List.map_cons, List.sum_cons, ih, mrg_len]
    omega
theorem mpairs_at : ∀ (Ls : List (List Fl)) (i : Nat), i < (Ls.length + 1) / 2 → (mpairs Ls).getD i [] = mrg (Ls.getD (2 * i) []) (Ls.getD (2 * i + 1) [])
  | [], i, h => by simp at h
  | [x], 0, h => by simp [mpairs]
  | [x], i + 1, h => by simp at h
  | x :: y :: l, 0, h => by simp [mpairs]
  | x :: y :: l, i + 1, h => by
    have := mpairs_at l i (by simp only [List.length_cons] at h; omega)
    simp only [mpairs, List.getD_cons_succ, this]
    rw [show 2 * (i + 1) = 2 * i + 1 + 1 by omega]
    rfl
theorem ltot_two : ∀ (Ls : List (List Fl)) (i : Nat), (Ls.getD i []).length ≤ ltot Ls
  | [], i => by simp
  | x :: l, 0 => by simp [ltot]
  | x :: l, i + 1 => by
    have := ltot_two l i
    unfold ltot at this ⊢
    simp only [List.getD_cons_succ, List.map_cons, List.sum_cons]
    omega
theorem ltot_pair : ∀ (Ls : List (List Fl)) (i : Nat), (Ls.getD (2 * i) []).length + (Ls.getD (2 * i + 1) []).length ≤ ltot Ls := fun Ls i => by
  by_cases h : i < (Ls.length + 1) / 2
  · have h1 := mpairs_at Ls i h
    have h2 := ltot_two (mpairs Ls) i
    rw [mpairs_tot, h1, mrg_len] at h2
    exact h2
  · have e1 : Ls.getD (2 * i) [] = [] := by rw [List.getD_eq_getElem?_getD, List.getElem?_eq_none (by omega)]; rfl
    have e2 : Ls.getD (2 * i + 1) [] = [] := by rw [List.getD_eq_getElem?_getD, List.getElem?_eq_none (by omega)]; rfl
    rw [e1, e2]; simp
/-- A list is ordered, if each stands behind its neighbour. -/
theorem srt_of {l : List Fl} (h : ∀ i, i + 1 < l.length → (l.getD i default).d ≤ (l.getD (i + 1) default).d) : Srt l := by
  refine List.pairwise_iff_getElem.2 ?_
  have g : ∀ i (hi : i < l.length), l.getD i default = l[i] := fun i hi => by simp [List.getD, hi]
  intro i j hi hj hij
  induction j with
  | zero => omega
  | succ j ih =>
    have h1 := h j hj
    rw [g j (by omega), g (j + 1) hj] at h1
    by_cases e : i = j
    · subst e; exact h1
    · have := ih (by omega) (by omega); omega
theorem srt_at {l : List Fl} (h : Srt l) {i j : Nat} (hij : i ≤ j) (hj : j < l.length) : (l.getD i default).d ≤ (l.getD j default).d := by
  have g : ∀ i (hi : i < l.length), l.getD i default = l[i] := fun i hi => by simp [List.getD, hi]
  rw [g i (by omega), g j hj]
  by_cases e : i = j
  · subst e; exact Int.le_refl _
  · exact (List.pairwise_iff_getElem.1 h) i j (by omega) hj (by omega)
end Go.Proofs.Ytegoeadmddliiaa
