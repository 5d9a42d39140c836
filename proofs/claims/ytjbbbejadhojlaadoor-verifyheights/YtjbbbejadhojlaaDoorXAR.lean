import Derived.Test.YtjbbbejadhojlaaDoorXAA
namespace Go.Proofs.YtjbbbejadhojlaaDoor
set_option linter.unusedVariables false
set_option linter.unusedSimpArgs false
/-- A state of the document: the sorts on the stack, the topmost last; the slots that are surely kept, each with its sort. -/
structure Ds where
  st : List Nat
  sl : List (Nat × Nat)
/-- The sorts that an instruction takes, the topmost last (0: any). -/
def dTk (k : Nat) : List Nat := if k = 5 ∨ k = 28 then [1] else if k = 6 ∨ k = 8 then [0] else if k = 25 ∨ k = 27 then [2] else List.replicate (tkA k) 1
def dSlot (l : List (Nat × Nat)) (n : Nat) : Nat := match l.find? (fun e => decide (e.1 = n)) with | some e => e.2 | none => 0
def dOut (l : List (Nat × Nat)) (n : Nat) : List (Nat × Nat) := l.filter (fun e => decide (e.1 ≠ n))
def dMeet (there s : List (Nat × Nat)) : List (Nat × Nat) := s.filter (fun e => decide (dSlot there e.1 = e.2))
/-- The state behind an instruction that goes well. -/
def dBe (s : Ds) (i : In) : Ds :=
  let k := i.o.toNat
  let h := s.st.length - (dTk k).length
  if k = 6 then ⟨s.st.take h ++ [s.st.getD h 0], dOut s.sl i.a.toNat ++ [(i.a.toNat, s.st.getD h 0)]⟩
  else if k = 7 then ⟨s.st.take h ++ [dSlot s.sl i.a.toNat], s.sl⟩
  else if psA k = 0 then ⟨s.st.take h, s.sl⟩ else ⟨s.st.take h ++ [psA k], s.sl⟩
/-- What is asked of the sorts. -/
def dSo (k : Nat) (st : List Nat) : Prop := ∃ j, j < (dTk k).length ∧ (dTk k).getD j 0 ≠ 0 ∧ st.getD (st.length - (dTk k).length + j) 0 ≠ (dTk k).getD j 0
noncomputable instance (k : Nat) (st : List Nat) : Decidable (dSo k st) := Classical.propDecidable _
noncomputable def dDo (day : Int) (s : Ds) (i : In) : Int × Ds :=
  let k := i.o.toNat
  if s.st.length < (dTk k).length ∨ (k = 0 ∧ 0 < s.st.length) then (142, s)
  else if dSo k s.st then (143, s)
  else if k = 7 ∧ dSlot s.sl i.a.toNat = 0 then (144, s)
  else if k = 3 ∧ day < i.b then (145, s)
  else (0, dBe s i)
def dHand (t : Option Ds) (s : Ds) : Int × Option Ds :=
  match t with
  | none => (0, some s)
  | some t => if t.st.length ≠ s.st.length then (142, some t) else if t.st ≠ s.st then (143, some t) else (0, some ⟨s.st, dMeet t.sl s.sl⟩)
/-- A state of the document and one of the program. -/
structure Rl (d : Ds) (v : Vs) : Prop where
  st : d.st = v.st.reverse
  sl : ∀ n, dSlot d.sl n = v.sl n
  nd : (d.sl.map Prod.fst).Nodup
theorem tk_all : ∀ k, k < 29 → (dTk k).length = tkA k ∧ tkA k ≤ 3 ∧ (wtA k = [3, 0, 0] → dTk k = [0]) ∧ (wtA k ≠ [3, 0, 0] → wtA k = dTk k ++ List.replicate (3 - tkA k) 0 ∧ ∀ x ∈ dTk k, x ≠ 0) := all29 (by decide)
theorem rev_at {l : List Nat} {m : Nat} (h : m < l.length) : l.reverse.getD (l.length - 1 - m) 0 = l.getD m 0 := by
  simp only [List.getD]
  rw [List.getElem?_reverse (by omega)]
  congr 2
  omega
theorem so_same {k : Nat} (hk : k < 29) {st : List Nat} (hl : ¬ st.length < tkA k) : dSo k st.reverse ↔ ¬ (wtA k = vTak (tkA k) st ∨ wtA k = [3, 0, 0]) := by
  obtain ⟨t1, t2, t3, t4⟩ := tk_all k hk
  unfold dSo
  rw [t1, List.length_reverse]
  by_cases w3 : wtA k = [3, 0, 0]
  · have e := t3 w3
    constructor
    · rintro ⟨j, hj, h1, _⟩
      rw [e] at t1 h1
      simp at t1
      rw [← t1] at hj
      have : j = 0 := by omega
      subst this
      simp at h1
    · intro h
      exact absurd (.inr w3) h
  · obtain ⟨e, nz⟩ := t4 w3
    have key : ∀ j, j < tkA k → st.reverse.getD (st.length - tkA k + j) 0 = st.getD (tkA k - 1 - j) 0 := by
      intro j hj
      have := rev_at (l := st) (m := tkA k - 1 - j) (by omega)
      rw [← this]
      congr 1
      omega
    have nz2 : ∀ j, j < tkA k → (dTk k).getD j 0 ≠ 0 := fun j hj => nz _ (by
      have : j < (dTk k).length := by omega
      simp [List.getD, this])
    have same : (wtA k = vTak (tkA k) st) ↔ ∀ j, j < tkA k → st.getD (tkA k - 1 - j) 0 = (dTk k).getD j 0 := by
      rw [e]
      generalize dTk k = t at *
      generalize tkA k = n at *
      match n, t, t1 with
      | 0, [], _ => simp [vTak]
      | 1, [a], _ =>
        simp only [vTak, List.cons_append, List.nil_append]
        constructor
        · intro h j hj
          have : j = 0 := by omega
          subst this
          simp at h
          simp [h]
        · intro h
          have := h 0 (by omega)
          simp at this
          simp [this]
      | 2, [a, b], _ =>
        simp only [vTak, List.cons_append, List.nil_append]
        constructor
        · intro h j hj
          simp at h
          rcases (show j = 0 ∨ j = 1 by omega) with rfl | rfl
          · simp [h.1]
          · simp [h.2]
        · intro h
          have h0 := h 0 (by omega)
          have h1 := h 1 (by omega)
          simp at h0 h1
          simp [h0, h1]
      | 3, [a, b, c], _ =>
        simp only [vTak, List.cons_append, List.nil_append]
        constructor
        · intro h j hj
          simp at h
          rcases (show j = 0 ∨ j = 1 ∨ j = 2 by omega) with rfl | rfl | rfl
          · simp [h.1]
          · simp [h.2.1]
          · simp [h.2.2]
        · intro h
          have h0 := h 0 (by omega)
          have h1 := h 1 (by omega)
          have h2 := h 2 (by omega)
          simp at h0 h1 h2
          simp [h0, h1, h2]
      | n + 4, t, _ => omega
    constructor
    · rintro ⟨j, hj, _, h2⟩ (h | h)
      · exact h2 (by rw [key j hj]; exact (same.1 h) j hj)
      · exact w3 h
    · intro h
      apply Classical.byContradiction
      intro n
      apply h
      left
      rw [same]
      intro j hj
      apply Classical.byContradiction
      intro z
      exact n ⟨j, hj, nz2 j hj, by rw [key j hj]; exact z⟩
theorem slot_put (l : List (Nat × Nat)) (n x y : Nat) : dSlot (dOut l n ++ [(n, x)]) y = if y = n then x else dSlot l y := by
  unfold dSlot dOut
  rw [List.find?_append]
  by_cases z : y = n
  · subst z
    rw [if_pos rfl]
    have : (l.filter (fun e => decide (e.1 ≠ y))).find? (fun e => decide (e.1 = y)) = none := by
      rw [List.find?_eq_none]
      intro e he
      have := (List.mem_filter.1 he).2
      simpa using this
    rw [this]
    simp
  · rw [if_neg z]
    have e1 : (l.filter (fun e => decide (e.1 ≠ n))).find? (fun e => decide (e.1 = y)) = l.find? (fun e => decide (e.1 = y)) := by
      induction l with
      | nil => rfl
      | cons a l ih =>
        by_cases q : a.1 = n
        · rw [List.filter_cons_of_neg (by simpa using q), ih, List.find?_cons_of_neg (by simp; omega)]
        · rw [List.filter_cons_of_pos (by simpa using q)]
          by_cases r : a.1 = y
          · rw [List.find?_cons_of_pos (by simpa using r), List.find?_cons_of_pos (by simpa using r)]
          · rw [List.find?_cons_of_neg (by simpa using r), List.find?_cons_of_neg (by simpa using r), ih]
    rw [e1]
    cases l.find? (fun e => decide (e.1 = y)) with
    | some e => rfl
    | none =>
      have : ¬ n = y := fun q => z q.symm
      simp [this]
theorem nodup_put {l : List (Nat × Nat)} (h : (l.map Prod.fst).Nodup) (n x : Nat) : ((dOut l n ++ [(n, x)]).map Prod.fst).Nodup := by
  rw [List.map_append, List.nodup_append]
  refine ⟨?_, by simp, ?_⟩
  · unfold dOut
    exact List.Nodup.sublist (List.Sublist.map _ (List.filter_sublist)) h
  · intro a ha b hb
    simp at hb
    subst hb
    obtain ⟨e, he, rfl⟩ := List.mem_map.1 ha
    have := (List.mem_filter.1 he).2
    simpa using this
theorem slot_meet {there s : List (Nat × Nat)} (h : (s.map Prod.fst).Nodup) (y : Nat) : dSlot (dMeet there s) y = if dSlot there y = dSlot s y then dSlot there y else 0 := by
  induction s with
  | nil =>
    show (0 : Nat) = if dSlot there y = 0 then dSlot there y else 0
    split
    · rename_i z; exact z.symm
    · rfl
  | cons a s ih =>
    simp only [List.map_cons, List.nodup_cons] at h
    obtain ⟨h1, h2⟩ := h
    have ih := ih h2
    by_cases q : a.1 = y
    · have e1 : dSlot (a :: s) y = a.2 := by unfold dSlot; rw [List.find?_cons_of_pos (by simpa using q)]
      rw [e1]
      have none : ∀ t : List (Nat × Nat), t.Sublist s → dSlot t y = 0 := by
        intro t ht
        unfold dSlot
        have : t.find? (fun e => decide (e.1 = y)) = none := by
          rw [List.find?_eq_none]
          intro e he
          have m := ht.mem he
          simp only [decide_eq_true_eq]
          intro z
          exact h1 (List.mem_map.2 ⟨e, m, by rw [z, q]⟩)
        rw [this]
      by_cases r : dSlot there a.1 = a.2
      · have e2 : dMeet there (a :: s) = a :: dMeet there s := by unfold dMeet; rw [List.filter_cons_of_pos (by simpa using r)]
        rw [e2]
        have e3 : dSlot (a :: dMeet there s) y = a.2 := by unfold dSlot; rw [List.find?_cons_of_pos (by simpa using q)]
        rw [e3]
        rw [q] at r
        rw [if_pos r, r]
      · have e2 : dMeet there (a :: s) = dMeet there s := by unfold dMeet; rw [List.filter_cons_of_neg (by simpa using r)]
        rw [e2, none _ (by unfold dMeet; exact List.filter_sublist)]
        rw [q] at r
        rw [if_neg r]
    · have e1 : dSlot (a :: s) y = dSlot s y := by unfold dSlot; rw [List.find?_cons_of_neg (by simpa using q)]
      rw [e1, ← ih]
      by_cases r : dSlot there a.1 = a.2
      · have e2 : dMeet there (a :: s) = a :: dMeet there s := by unfold dMeet; rw [List.filter_cons_of_pos (by simpa using r)]
        rw [e2]
        unfold dSlot
        rw [List.find?_cons_of_neg (by simpa using q)]
      · have e2 : dMeet there (a :: s) = dMeet there s := by unfold dMeet; rw [List.filter_cons_of_neg (by simpa using r)]
        rw [e2]
theorem take_rev (l : List Nat) {n : Nat} (h : n ≤ l.length) : l.reverse.take (l.length - n) = (l.drop n).reverse := by
  rw [List.take_reverse, show l.length - (l.length - n) = n by omega]
theorem dDo_v {day : Int} {s : Ds} {v : Vs} {i : In} (r : Rl s v) (hk : i.o.toNat < 29) : (dDo day s i).1 = (vDo day v i).1 ∧ ((vDo day v i).1 = 0 → Rl (dDo day s i).2 (vDo day v i).2) := by
  obtain ⟨t1, t2, t3, t4⟩ := tk_all _ hk
  have len : s.st.length = v.st.length := by rw [r.st, List.length_reverse]
  unfold dDo vDo
  simp only
  rw [len, t1]
  by_cases c1 : v.st.length < tkA i.o.toNat ∨ (i.o.toNat = 0 ∧ 0 < v.st.length)
  · rw [if_pos c1, if_pos c1]
    exact ⟨rfl, fun z => by simp at z⟩
  rw [if_neg c1, if_neg c1]
  have hl : ¬ v.st.length < tkA i.o.toNat := fun z => c1 (.inl z)
  have so := so_same hk hl
  rw [← r.st] at so
  by_cases c2 : dSo i.o.toNat s.st
  · rw [if_pos c2, if_pos (so.1 c2)]
    exact ⟨rfl, fun z => by simp at z⟩
  rw [if_neg c2, if_neg (fun z => c2 (so.2 z))]
  have le : tkA i.o.toNat ≤ v.st.length := by omega
  have tk : s.st.take (s.st.length - tkA i.o.toNat) = (v.st.drop (tkA i.o.toNat)).reverse := by rw [len, r.st]; exact take_rev _ le
  by_cases k6 : i.o.toNat = 6
  · have e1 : tkA i.o.toNat = 1 := by rw [k6]; rfl
    rw [if_neg (by omega), if_neg (by omega), if_pos k6]
    refine ⟨rfl, fun _ => ?_⟩
    unfold dBe
    simp only
    rw [if_pos k6, t1, tk, e1]
    have g : s.st.getD (s.st.length - 1) 0 = v.st.getD 0 0 := by
      rw [len, r.st]
      exact rev_at (m := 0) (by omega)
    rw [g]
    refine ⟨?_, fun n => ?_, nodup_put r.nd _ _⟩
    · simp only [List.reverse_cons]
    · rw [slot_put, r.sl]
      rfl
  rw [if_neg k6]
  by_cases k7 : i.o.toNat = 7
  · have e0 : tkA i.o.toNat = 0 := by rw [k7]; rfl
    rw [if_pos k7, r.sl]
    by_cases z : v.sl i.a.toNat = 0
    · rw [if_pos ⟨k7, z⟩, if_pos z]
      exact ⟨rfl, fun z => by simp at z⟩
    · rw [if_neg (fun q => z q.2), if_neg (by omega), if_neg z]
      refine ⟨rfl, fun _ => ?_⟩
      unfold dBe
      simp only
      rw [if_neg k6, if_pos k7, t1, tk, e0, r.sl]
      exact ⟨by simp, r.sl, r.nd⟩
  rw [if_neg (fun q => k7 q.1), if_neg k7]
  by_cases k3 : i.o.toNat = 3 ∧ day < i.b
  · rw [if_pos k3, if_pos k3]
    exact ⟨rfl, fun z => by simp at z⟩
  rw [if_neg k3, if_neg k3]
  unfold dBe
  simp only
  rw [if_neg k6, if_neg k7, t1, tk]
  by_cases ps : psA i.o.toNat = 0
  · rw [if_pos ps, if_pos ps]
    exact ⟨rfl, fun _ => ⟨rfl, r.sl, r.nd⟩⟩
  · rw [if_neg ps, if_neg ps]
    exact ⟨rfl, fun _ => ⟨by simp, r.sl, r.nd⟩⟩
def RlO : Option Ds → Option Vs → Prop
  | none, none => True
  | some d, some v => Rl d v
  | _, _ => False
theorem dHand_v {t : Option Ds} {t' : Option Vs} {s : Ds} {v : Vs} (ht : RlO t t') (r : Rl s v) : (dHand t s).1 = (vHand t' v).1 ∧ RlO (dHand t s).2 (vHand t' v).2 := by
  match t, t', ht with
  | none, none, _ => exact ⟨rfl, r⟩
  | some t, some t', ht =>
    have ht : Rl t t' := ht
    have l1 : t.st.length = t'.st.length := by rw [ht.st, List.length_reverse]
    have l2 : s.st.length = v.st.length := by rw [r.st, List.length_reverse]
    have eq : t.st = s.st ↔ t'.st = v.st := by
      rw [ht.st, r.st]
      exact ⟨fun h => List.reverse_inj.1 h, fun h => by rw [h]⟩
    unfold dHand vHand
    simp only
    rw [l1, l2]
    by_cases c1 : t'.st.length ≠ v.st.length
    · rw [if_pos c1, if_pos c1]
      exact ⟨rfl, ht⟩
    rw [if_neg c1, if_neg c1]
    by_cases c2 : t'.st = v.st
    · rw [if_neg (by simp [eq.2 c2]), if_neg (by simp [c2])]
      refine ⟨rfl, ⟨by rw [r.st, c2], fun n => ?_, ?_⟩⟩
      · rw [slot_meet r.nd, ht.sl, r.sl]
        rfl
      · unfold dMeet
        exact List.Nodup.sublist (List.Sublist.map _ (List.filter_sublist)) r.nd
    · rw [if_pos (fun z => c2 (eq.1 z)), if_pos c2]
      exact ⟨rfl, ht⟩
def dSet (l : Nat → Option Ds) (k : Nat) (v : Option Ds) : Nat → Option Ds := fun j => if j = k then v else l j
def dNx (i : In) (t : Option Ds) (s : Ds) : Int × Option Ds := if i.o = 26 ∨ i.o = 0 then (0, t) else dHand t s
def dOn (n : Nat) (i : In) (k : Nat) (s : Ds) (l : Nat → Option Ds) : Int × (Nat → Option Ds) :=
  if isJ i ∧ n ≤ k + 1 + i.a.toNat then (141, l)
  else
    if (dNx i (l (k + 1)) s).1 ≠ 0 then ((dNx i (l (k + 1)) s).1, l)
    else if isJ i then
      ((dHand (dSet l (k + 1) (dNx i (l (k + 1)) s).2 (k + 1 + i.a.toNat)) s).1, dSet (dSet l (k + 1) (dNx i (l (k + 1)) s).2) (k + 1 + i.a.toNat) (dHand (dSet l (k + 1) (dNx i (l (k + 1)) s).2 (k + 1 + i.a.toNat)) s).2)
    else (0, dSet l (k + 1) (dNx i (l (k + 1)) s).2)
noncomputable def dPass (day : Int) (n : Nat) (i : In) (k : Nat) (l : Nat → Option Ds) : Int × (Nat → Option Ds) :=
  match l k with
  | none => (146, l)
  | some s => if (dDo day s i).1 ≠ 0 then ((dDo day s i).1, l) else dOn n i k (dDo day s i).2 l
def dStart : Nat → Option Ds := fun j => if j = 0 then some ⟨[], []⟩ else none
noncomputable def dRun (day : Int) (code : List In) : Nat → Int × Nat × (Nat → Option Ds)
  | 0 => (0, 0, dStart)
  | k + 1 =>
    let r := dRun day code k
    if r.1 ≠ 0 then r else
      let q := dPass day code.length (code.getD k default) k r.2.2
      (q.1, k, q.2)
theorem set_v {l : Nat → Option Ds} {m : Nat → Option Vs} (h : ∀ j, RlO (l j) (m j)) {k : Nat} {d : Option Ds} {v : Option Vs} (r : RlO d v) : ∀ j, RlO (dSet l k d j) (vSet m k v j) := by
  intro j
  unfold dSet vSet
  by_cases z : j = k
  · rw [if_pos z, if_pos z]; exact r
  · rw [if_neg z, if_neg z]; exact h j
theorem dNx_v {i : In} {t : Option Ds} {t' : Option Vs} {s : Ds} {v : Vs} (ht : RlO t t') (r : Rl s v) : (dNx i t s).1 = (vNx i t' v).1 ∧ RlO (dNx i t s).2 (vNx i t' v).2 := by
  unfold dNx vNx
  by_cases z : i.o = 26 ∨ i.o = 0
  · rw [if_pos z, if_pos z]; exact ⟨rfl, ht⟩
  · rw [if_neg z, if_neg z]; exact dHand_v ht r
theorem dOn_v {n k : Nat} {i : In} {s : Ds} {v : Vs} {l : Nat → Option Ds} {m : Nat → Option Vs} (h : ∀ j, RlO (l j) (m j)) (r : Rl s v) : (dOn n i k s l).1 = (vOn n i k v m).1 ∧ ∀ j, RlO ((dOn n i k s l).2 j) ((vOn n i k v m).2 j) := by
  unfold dOn vOn
  obtain ⟨e1, e2⟩ := dNx_v (i := i) (h (k + 1)) r
  by_cases c1 : isJ i ∧ n ≤ k + 1 + i.a.toNat
  · rw [if_pos c1, if_pos c1]; exact ⟨rfl, h⟩
  rw [if_neg c1, if_neg c1, e1]
  by_cases c2 : (vNx i (m (k + 1)) v).1 ≠ 0
  · rw [if_pos c2, if_pos c2]; exact ⟨rfl, h⟩
  rw [if_neg c2, if_neg c2]
  have h2 := set_v h (k := k + 1) e2
  by_cases c3 : isJ i
  · rw [if_pos c3, if_pos c3]
    obtain ⟨f1, f2⟩ := dHand_v (h2 (k + 1 + i.a.toNat)) r
    exact ⟨f1, set_v h2 f2⟩
  · rw [if_neg c3, if_neg c3]
    exact ⟨rfl, h2⟩
theorem dPass_v {day : Int} {n k : Nat} {i : In} {l : Nat → Option Ds} {m : Nat → Option Vs} (h : ∀ j, RlO (l j) (m j)) (hk : i.o.toNat < 29) : (dPass day n i k l).1 = (vPass day n i k m).1 ∧ ∀ j, RlO ((dPass day n i k l).2 j) ((vPass day n i k m).2 j) := by
  unfold dPass vPass
  have hj := h k
  cases el : l k with
  | none =>
    cases em : m k with
    | none => exact ⟨rfl, h⟩
    | some v => rw [el, em] at hj; exact hj.elim
  | some s =>
    cases em : m k with
    | none => rw [el, em] at hj; exact hj.elim
    | some v =>
      rw [el, em] at hj
      have r : Rl s v := hj
      obtain ⟨e1, e2⟩ := dDo_v (day := day) r hk
      simp only
      rw [e1]
      by_cases c : (vDo day v i).1 ≠ 0
      · rw [if_pos c, if_pos c]; exact ⟨rfl, h⟩
      · rw [if_neg c, if_neg c]
        exact dOn_v h (e2 (by simpa using c))
/-- The document's states say what the program's say. -/
theorem dRun_v {day : Int} {code : List In} (hc : ∀ k, (code.getD k default).o.toNat < 29) : ∀ k, (dRun day code k).1 = (vRun day code k).1 ∧ (dRun day code k).2.1 = (vRun day code k).2.1 ∧ ∀ j, RlO ((dRun day code k).2.2 j) ((vRun day code k).2.2 j)
  | 0 => ⟨rfl, rfl, fun j => by
    show RlO (dStart j) (vStart j)
    unfold dStart vStart
    by_cases z : j = 0
    · rw [if_pos z, if_pos z]; exact ⟨rfl, fun _ => rfl, by simp⟩
    · rw [if_neg z, if_neg z]; trivial⟩
  | k + 1 => by
    obtain ⟨i1, i2, i3⟩ := dRun_v hc k
    simp only [dRun, vRun]
    rw [i1]
    by_cases c : (vRun day code k).1 ≠ 0
    · rw [if_pos c, if_pos c]; exact ⟨i1, i2, i3⟩
    · rw [if_neg c, if_neg c]
      obtain ⟨p1, p2⟩ := dPass_v (day := day) (n := code.length) (k := k) i3 (hc k)
      exact ⟨p1, rfl, p2⟩
end Go.Proofs.YtjbbbejadhojlaaDoor
