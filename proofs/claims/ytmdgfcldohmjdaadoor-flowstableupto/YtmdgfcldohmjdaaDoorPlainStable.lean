/-
  PLAIN: what FlowStable counts.
-/
import Derived.Test.YtmdgfcldohmjdaaDoorPlainMerge
namespace Go.Proofs.YtmdgfcldohmjdaaDoor
set_option linter.unusedVariables false

theorem ltot_take {Ls : List (List Fl)} {i : Nat} (hi : i < Ls.length) : ltot (Ls.take (i + 1)) = ltot (Ls.take i) + (Ls.getD i []).length := by
  have e : Ls[i]? = some (Ls.getD i []) := by simp [List.getD, hi]
  unfold ltot
  rw [List.take_add_one, e]
  simp
theorem ltot_le {Ls : List (List Fl)} (i : Nat) : ltot (Ls.take i) ≤ ltot Ls := by
  have h : ltot (Ls.take i ++ Ls.drop i) = ltot (Ls.take i) + ltot (Ls.drop i) := by unfold ltot; rw [List.map_append, List.sum_append]
  rw [List.take_append_drop] at h
  omega
/-- At a place a new day begins. -/
def Blk (T : List Fl) (at_ : Nat) : Prop := ∀ i j, i < at_ → at_ ≤ j → j < T.length → (T.getD i default).d < (T.getD j default).d
theorem day_split {D : Int} : ∀ {L : List Fl}, Srt L → (∀ f ∈ L, D ≤ f.d) → ∃ rest, L = onDay D L ++ rest ∧ ∀ f ∈ rest, D < f.d
  | [], _, _ => ⟨[], rfl, fun f hf => by cases hf⟩
  | x :: xs, h, hD => by
    have a := List.pairwise_cons.1 h
    by_cases hd : x.d = D
    · obtain ⟨rest, h1, h2⟩ := day_split (D := D) a.2 (fun f hf => hD f (List.mem_cons_of_mem _ hf))
      refine ⟨rest, ?_, h2⟩
      have e : onDay D (x :: xs) = x :: onDay D xs := by simp [onDay, hd]
      rw [e, List.cons_append, ← h1]
    · have hx := hD x (List.mem_cons_self ..)
      have gt : ∀ f ∈ x :: xs, D < f.d := fun f hf => by
        rcases List.mem_cons.1 hf with rfl | hf
        · omega
        · have := a.1 f hf; omega
      refine ⟨x :: xs, ?_, gt⟩
      rw [onDay_none (fun f hf => by have := gt f hf; omega)]
      rfl
theorem gD {l : List Fl} {i : Nat} (hi : i < l.length) : l.getD i default = l[i] := by simp [List.getD, hi]
theorem gD_mem {l : List Fl} {i : Nat} (hi : i < l.length) : l.getD i default ∈ l := by rw [gD hi]; exact List.getElem_mem hi
theorem onDay_mem {D : Int} {l : List Fl} {f : Fl} (h : f ∈ onDay D l) : f.d = D := by
  have := (List.mem_filter.1 h).2
  exact of_decide_eq_true this
theorem onDay_app (D : Int) (a b : List Fl) : onDay D (a ++ b) = onDay D a ++ onDay D b := by simp [onDay]
theorem blk_split {T : List Fl} (hs : Srt T) {was : Nat} (hb : Blk T was) (hw : was < T.length) {D : Int} (hD : (T.getD was default).d = D) : ∃ rest, T.drop was = onDay D T ++ rest ∧ ∀ f ∈ rest, D < f.d := by
  have e1 : onDay D T = onDay D (T.drop was) := by
    have h0 : onDay D (T.take was ++ T.drop was) = onDay D (T.take was) ++ onDay D (T.drop was) := onDay_app D _ _
    rw [List.take_append_drop] at h0
    rw [h0, onDay_none (l := T.take was) ?_]
    · rfl
    · intro f hf
      obtain ⟨i, hi, rfl⟩ := List.getElem_of_mem hf
      have hi' : i < was := by rw [List.length_take] at hi; omega
      have := hb i was hi' (Nat.le_refl _) hw
      rw [gD (by omega : i < T.length)] at this
      rw [List.getElem_take]
      omega
  rw [e1]
  refine day_split ?_ ?_
  · exact List.Pairwise.sublist (List.drop_sublist _ _) hs
  · intro f hf
    obtain ⟨i, hi, rfl⟩ := List.getElem_of_mem hf
    rw [List.length_drop] at hi
    have := srt_at hs (i := was) (j := was + i) (by omega) (by omega)
    rw [hD, gD (by omega : was + i < T.length)] at this
    rw [List.getElem_drop]
    exact this
/-- The counts of the inner loops. -/
structure Cnt (Ls : List (List Fl)) (T : List Fl) (n was : Nat) (D : Int) (cf : Nat → Nat → Nat) : Prop where
  c0 : cf 0 0 = 0
  yes : ∀ i k, i < n → k < (Ls.getD i []).length → ((Ls.getD i []).getD k default).d = D → cf i (k + 1) = cf i k + 1 ∧ was + cf i k < T.length ∧ T.getD (was + cf i k) default = (Ls.getD i []).getD k default
  no : ∀ i k, i < n → k < (Ls.getD i []).length → ¬ ((Ls.getD i []).getD k default).d = D → cf i (k + 1) = cf i k
  nx : ∀ i, i < n → cf (i + 1) 0 = cf i (Ls.getD i []).length
  fin : was + cf n 0 ≤ T.length ∧ 0 < cf n 0 ∧ Blk T (was + cf n 0)
theorem flat_at {D : Int} {Ls : List (List Fl)} {i k : Nat} (hi : i < Ls.length) (hk : k < (Ls.getD i []).length) (hd : ((Ls.getD i []).getD k default).d = D) :
    (Ls.flatMap (onDay D))[((Ls.take i).flatMap (onDay D)).length + (onDay D ((Ls.getD i []).take k)).length]? = some ((Ls.getD i []).getD k default) := by
  have e1 : Ls = Ls.take i ++ Ls.getD i [] :: Ls.drop (i + 1) := by
    have : Ls.getD i [] = Ls[i] := by simp [List.getD, hi]
    rw [this, List.getElem_cons_drop]
    exact (List.take_append_drop i Ls).symm
  generalize hl : Ls.getD i [] = l at *
  have e2 : l = l.take k ++ l.getD k default :: l.drop (k + 1) := by
    rw [gD hk, List.getElem_cons_drop]
    exact (List.take_append_drop k l).symm
  have e3 : onDay D l = onDay D (l.take k) ++ l.getD k default :: onDay D (l.drop (k + 1)) := by
    conv => lhs; rw [e2]
    rw [onDay_app]
    congr 1
    simp only [onDay, List.filter_cons, hd, decide_true, if_true]
  have e4 : Ls.flatMap (onDay D) = (Ls.take i).flatMap (onDay D) ++ (onDay D l ++ (Ls.drop (i + 1)).flatMap (onDay D)) := by
    conv => lhs; rw [e1]
    rw [List.flatMap_append, List.flatMap_cons]
  rw [e4, e3, List.getElem?_append_right (by omega), show ∀ x y : Nat, x + y - x = y from fun x y => by omega, List.append_assoc, List.getElem?_append_right (by omega), Nat.sub_self]
  rfl
theorem cnt_of {Ls : List (List Fl)} {T : List Fl} {n was : Nat} {D : Int} (hn : Ls.length = n) (hs : Srt T) (hd : ∀ D, onDay D T = Ls.flatMap (onDay D)) (hb : Blk T was) (hw : was < T.length) (hD : (T.getD was default).d = D) : ∃ cf, Cnt Ls T n was D cf := by
  obtain ⟨rest, h1, h2⟩ := blk_split hs hb hw hD
  have len : was + (onDay D T).length + rest.length = T.length := by
    have := congrArg List.length h1
    rw [List.length_drop, List.length_append] at this
    omega
  have at_ : ∀ j, j < (onDay D T).length → T[was + j]? = (onDay D T)[j]? := fun j hj => by
    rw [← List.getElem?_drop, h1, List.getElem?_append_left hj]
  refine ⟨fun i k => ((Ls.take i).flatMap (onDay D)).length + (onDay D ((Ls.getD i []).take k)).length, ?_, ?_, ?_, ?_, ?_⟩
  · simp [onDay]
  · intro i k hi hk hx
    have fa := flat_at (D := D) (Ls := Ls) (by omega) hk hx
    have lt : ((Ls.take i).flatMap (onDay D)).length + (onDay D ((Ls.getD i []).take k)).length < (onDay D T).length := by
      rw [hd D]
      refine Nat.lt_of_not_le fun hc => ?_
      rw [List.getElem?_eq_none hc] at fa
      cases fa
    refine ⟨?_, by omega, ?_⟩
    · have e : (Ls.getD i []).take (k + 1) = (Ls.getD i []).take k ++ [(Ls.getD i []).getD k default] := by
        rw [List.take_add_one, List.getElem?_eq_getElem hk, gD hk]; rfl
      rw [e, onDay_app]
      have : onDay D [(Ls.getD i []).getD k default] = [(Ls.getD i []).getD k default] := by simp only [onDay, List.filter_cons, hx, decide_true, if_true, List.filter_nil]
      rw [this, List.length_append]
      simp; omega
    · have := at_ _ lt
      rw [hd D, fa] at this
      rw [List.getD_eq_getElem?_getD, this]
      rfl
  · intro i k hi hk hx
    have e : (Ls.getD i []).take (k + 1) = (Ls.getD i []).take k ++ [(Ls.getD i []).getD k default] := by
      rw [List.take_add_one, List.getElem?_eq_getElem hk, gD hk]; rfl
    have : onDay D [(Ls.getD i []).getD k default] = [] := by simp only [onDay, List.filter_cons, hx, decide_false, List.filter_nil]; rfl
    show _ + (onDay D ((Ls.getD i []).take (k + 1))).length = _
    rw [e, onDay_app, this, List.append_nil]
  · intro i hi
    have e : Ls[i]? = some (Ls.getD i []) := by simp [List.getD, show i < Ls.length by omega]
    show ((Ls.take (i + 1)).flatMap (onDay D)).length + (onDay D ((Ls.getD (i + 1) []).take 0)).length = ((Ls.take i).flatMap (onDay D)).length + (onDay D ((Ls.getD i []).take (Ls.getD i []).length)).length
    rw [List.take_add_one, e, List.take_length]
    simp [onDay]
  · have e : ((Ls.take n).flatMap (onDay D)).length + (onDay D ((Ls.getD n []).take 0)).length = (onDay D T).length := by
      rw [List.take_of_length_le (by omega), hd D]
      simp [onDay]
    show was + (((Ls.take n).flatMap (onDay D)).length + (onDay D ((Ls.getD n []).take 0)).length) ≤ T.length ∧ 0 < ((Ls.take n).flatMap (onDay D)).length + (onDay D ((Ls.getD n []).take 0)).length ∧ Blk T (was + (((Ls.take n).flatMap (onDay D)).length + (onDay D ((Ls.getD n []).take 0)).length))
    rw [e]
    refine ⟨by omega, ?_, ?_⟩
    · refine Nat.pos_of_ne_zero fun h0 => ?_
      have hmem : T.getD was default ∈ onDay D T := List.mem_filter.2 ⟨gD_mem hw, decide_eq_true hD⟩
      rw [List.length_eq_zero_iff.1 h0] at hmem
      cases hmem
    · intro i j hi hj hjl
      by_cases hiw : i < was
      · exact hb i j hiw (by omega) hjl
      · have a1 := at_ (i - was) (by omega)
        rw [show was + (i - was) = i by omega] at a1
        have d1 : (T.getD i default).d = D := by
          have hm : (onDay D T)[i - was]'(by omega) ∈ onDay D T := List.getElem_mem _
          rw [List.getD_eq_getElem?_getD, a1, List.getElem?_eq_getElem (by omega)]
          exact onDay_mem hm
        have a2 : T[j]? = rest[j - was - (onDay D T).length]? := by
          have := congrArg (fun l => l[j - was]?) h1
          simp only [List.getElem?_drop] at this
          rw [show was + (j - was) = j by omega, List.getElem?_append_right (by omega)] at this
          exact this
        have hr : j - was - (onDay D T).length < rest.length := by omega
        have d2 : D < (T.getD j default).d := by
          rw [List.getD_eq_getElem?_getD, a2, List.getElem?_eq_getElem hr]
          exact h2 _ (List.getElem_mem _)
        omega
end Go.Proofs.YtmdgfcldohmjdaaDoor
