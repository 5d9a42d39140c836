/-
  VERIFY, PLAINLY: what is known ahead of an instruction holds on every way to it.
-/
import Derived.Test.YteedkcmjhdabeaaDoorMD
import Derived.Test.YteedkcmjhdabeaaDoorME
import Derived.Test.YteedkcmjhdabeaaDoorMA
import Derived.Laws.AppendOwnNone
namespace Go.Proofs.YteedkcmjhdabeaaDoor
set_option linter.unusedVariables false
set_option linter.unusedSimpArgs false
/-- What is known (t) holds of a state (s): the same stack, and the slots that it names are kept so. -/
def Cov (s t : Vs) : Prop := t.st = s.st ∧ ∀ y, t.sl y ≠ 0 → s.sl y = t.sl y
theorem Cov.refl (s : Vs) : Cov s s := ⟨rfl, fun _ _ => rfl⟩
theorem Cov.trans {s t u : Vs} (h : Cov s t) (g : Cov t u) : Cov s u := ⟨g.1.trans h.1, fun y hy => by
  have e := g.2 y hy
  rw [← e]
  exact h.2 y (by rw [e]; exact hy)⟩
theorem meet_cov {s t : Vs} (h : t.st = s.st) : Cov s ⟨t.st, vMeet t.sl s.sl⟩ ∧ Cov t ⟨t.st, vMeet t.sl s.sl⟩ := by
  refine ⟨⟨h, fun y hy => ?_⟩, ⟨rfl, fun y hy => ?_⟩⟩
  · simp only [vMeet] at hy ⊢
    by_cases e : t.sl y = s.sl y
    · rw [if_pos e, e]
    · rw [if_neg e] at hy; exact absurd rfl hy
  · simp only [vMeet] at hy ⊢
    by_cases e : t.sl y = s.sl y
    · rw [if_pos e]
    · rw [if_neg e] at hy; exact absurd rfl hy
theorem vHand_cov {t : Option Vs} {s : Vs} (h : (vHand t s).1 = 0) : ∃ u, (vHand t s).2 = some u ∧ Cov s u ∧ ∀ t0, t = some t0 → Cov t0 u := by
  unfold vHand at h ⊢
  cases t with
  | none => exact ⟨s, rfl, Cov.refl s, fun t0 e => by cases e⟩
  | some t =>
    simp only at h ⊢
    split at h
    · simp at h
    split at h
    · simp at h
    rename_i n1 n2
    rw [if_neg n1, if_neg n2]
    have e : t.st = s.st := by simpa using n2
    obtain ⟨c1, c2⟩ := meet_cov e
    exact ⟨_, rfl, c1, fun t0 q => by cases q; exact c2⟩
/-- Each state is still known, or less of it. -/
def Gro (l m : Nat → Option Vs) : Prop := ∀ j t, l j = some t → ∃ u, m j = some u ∧ Cov t u
theorem Gro.refl (l : Nat → Option Vs) : Gro l l := fun j t h => ⟨t, h, Cov.refl t⟩
theorem Gro.trans {l m n : Nat → Option Vs} (h : Gro l m) (g : Gro m n) : Gro l n := fun j t e => by
  obtain ⟨u, e1, c1⟩ := h j t e
  obtain ⟨v, e2, c2⟩ := g j u e1
  exact ⟨v, e2, c1.trans c2⟩
theorem vSet_gro {l : Nat → Option Vs} {k : Nat} {s : Vs} (h : (vHand (l k) s).1 = 0) : Gro l (vSet l k (vHand (l k) s).2) := by
  intro j t e
  obtain ⟨u, e1, c1, c2⟩ := vHand_cov h
  unfold vSet
  by_cases q : j = k
  · subst q
    rw [if_pos rfl]
    exact ⟨u, e1, c2 t e⟩
  · rw [if_neg q]
    exact ⟨t, e, Cov.refl t⟩
theorem vSet_self {l : Nat → Option Vs} {k : Nat} : vSet l k (l k) = l := by
  funext j
  unfold vSet
  split
  · rename_i e; rw [e]
  · rfl
theorem vNx_gro {i : In} {l : Nat → Option Vs} {k : Nat} {s : Vs} (h : (vNx i (l k) s).1 = 0) : Gro l (vSet l k (vNx i (l k) s).2) ∧ (¬ (i.o = 26 ∨ i.o = 0) → ∃ u, (vNx i (l k) s).2 = some u ∧ Cov s u) := by
  unfold vNx at h ⊢
  by_cases e : i.o = 26 ∨ i.o = 0
  · rw [if_pos e]
    simp only
    rw [vSet_self]
    exact ⟨Gro.refl l, fun q => absurd e q⟩
  · rw [if_neg e] at h ⊢
    obtain ⟨u, e1, c1, c2⟩ := vHand_cov h
    exact ⟨vSet_gro h, fun _ => ⟨u, e1, c1⟩⟩
theorem vOn_gro {n k : Nat} {i : In} {s : Vs} {l : Nat → Option Vs} (h : (vOn n i k s l).1 = 0) : Gro l (vOn n i k s l).2 ∧ (¬ (i.o = 26 ∨ i.o = 0) → ∃ u, (vOn n i k s l).2 (k + 1) = some u ∧ Cov s u) ∧ (isJ i → k + 1 + i.a.toNat < n ∧ ∃ u, (vOn n i k s l).2 (k + 1 + i.a.toNat) = some u ∧ Cov s u) := by
  unfold vOn at h ⊢
  by_cases a : isJ i ∧ n ≤ k + 1 + i.a.toNat
  · rw [if_pos a] at h
    simp at h
  rw [if_neg a] at h ⊢
  by_cases b : (vNx i (l (k + 1)) s).1 ≠ 0
  · rw [if_pos b] at h
    exact absurd h b
  rw [if_neg b] at h ⊢
  have b0 : (vNx i (l (k + 1)) s).1 = 0 := by simpa using b
  obtain ⟨g1, g2⟩ := vNx_gro b0
  generalize vNx i (l (k + 1)) s = x at *
  have at1 : (vSet l (k + 1) x.2) (k + 1) = x.2 := by simp [vSet]
  by_cases c : isJ i
  · rw [if_pos c] at h ⊢
    simp only at h ⊢
    generalize hm : vSet l (k + 1) x.2 = m at *
    obtain ⟨u, e1, c1, c2⟩ := vHand_cov h
    refine ⟨g1.trans (vSet_gro h), fun q => ?_, fun _ => ⟨by simp only [not_and] at a; have := a c; omega, u, ?_, c1⟩⟩
    · obtain ⟨v, e2, c3⟩ := g2 q
      obtain ⟨z, e3, c4⟩ := vSet_gro h (k + 1) v (by rw [at1, e2])
      exact ⟨z, e3, c3.trans c4⟩
    · simp only [vSet, if_true]
      exact e1
  · rw [if_neg c]
    simp only
    refine ⟨g1, fun q => ?_, fun q => absurd q c⟩
    obtain ⟨v, e2, c3⟩ := g2 q
    exact ⟨v, by rw [at1, e2], c3⟩
theorem vPass_gro {day : Int} {n k : Nat} {i : In} {l : Nat → Option Vs} (h : (vPass day n i k l).1 = 0) : Gro l (vPass day n i k l).2 ∧ ∃ s, l k = some s ∧ (vDo day s i).1 = 0 ∧ (¬ (i.o = 26 ∨ i.o = 0) → ∃ u, (vPass day n i k l).2 (k + 1) = some u ∧ Cov (vDo day s i).2 u) ∧ (isJ i → k + 1 + i.a.toNat < n ∧ ∃ u, (vPass day n i k l).2 (k + 1 + i.a.toNat) = some u ∧ Cov (vDo day s i).2 u) := by
  unfold vPass at h ⊢
  cases hk : l k with
  | none => rw [hk] at h; simp at h
  | some s =>
    rw [hk] at h
    simp only at h ⊢
    by_cases e : (vDo day s i).1 ≠ 0
    · rw [if_pos e] at h
      exact absurd h e
    · rw [if_neg e] at h ⊢
      obtain ⟨g, a, b⟩ := vOn_gro h
      exact ⟨g, s, rfl, by simpa using e, a, b⟩
theorem vRun_gro {day : Int} {code : List In} {k : Nat} : ∀ m, k ≤ m → (vRun day code m).1 = 0 → Gro (vRun day code k).2.2 (vRun day code m).2.2
  | 0, hm, _ => by rw [show k = 0 by omega]; exact Gro.refl _
  | m + 1, hm, h => by
    by_cases e : k = m + 1
    · rw [e]; exact Gro.refl _
    · have h0 := vRun_before h (Nat.le_succ m)
      have ih := vRun_gro m (by omega) h0 (day := day) (code := code) (k := k)
      have e1 := vRun_succ h0
      rw [e1] at h ⊢
      exact ih.trans (vPass_gro h).1
/-- The states that are known of code that is taken. -/
def vL (day : Int) (code : List In) : Nat → Option Vs := (vRun day code code.length).2.2
theorem vL_start {day : Int} {code : List In} (h : (vRun day code code.length).1 = 0) : ∃ t, vL day code 0 = some t ∧ Cov ⟨[], fun _ => 0⟩ t := by
  obtain ⟨u, e, c⟩ := vRun_gro (day := day) (code := code) (k := 0) code.length (by omega) h 0 ⟨[], fun _ => 0⟩ (by simp [vRun, vStart])
  exact ⟨u, e, c⟩
/-- An instruction of code that is taken, in a state that is known. -/
theorem vL_step {day : Int} {code : List In} (h : (vRun day code code.length).1 = 0) {k : Nat} (hk : k < code.length) :
    ∃ s, vL day code k = some s ∧ (vDo day s (code.getD k default)).1 = 0 ∧ (¬ ((code.getD k default).o = 26 ∨ (code.getD k default).o = 0) → ∃ u, vL day code (k + 1) = some u ∧ Cov (vDo day s (code.getD k default)).2 u) ∧
      (isJ (code.getD k default) → k + 1 + (code.getD k default).a.toNat < code.length ∧ ∃ u, vL day code (k + 1 + (code.getD k default).a.toNat) = some u ∧ Cov (vDo day s (code.getD k default)).2 u) := by
  have h1 := vRun_before h (show k + 1 ≤ code.length by omega)
  have h0 := vRun_before h (show k ≤ code.length by omega)
  have e1 := vRun_succ h0
  have g := vRun_gro (day := day) (code := code) (k := k + 1) code.length (by omega) h
  have o := vRun_old (day := day) (code := code) (k := k + 1) (j := k) (by omega) code.length (by omega)
  rw [e1] at h1 g o
  simp only at h1 g o
  obtain ⟨_, s, s1, s2, s3, s4⟩ := vPass_gro h1
  rw [vPass_old (Nat.le_refl k)] at o
  refine ⟨s, by unfold vL; rw [o]; exact s1, s2, fun q => ?_, fun q => ?_⟩
  · obtain ⟨u, u1, u2⟩ := s3 q
    obtain ⟨v, v1, v2⟩ := g _ _ u1
    exact ⟨v, v1, u2.trans v2⟩
  · obtain ⟨z, u, u1, u2⟩ := s4 q
    obtain ⟨v, v1, v2⟩ := g _ _ u1
    exact ⟨z, v, v1, u2.trans v2⟩
/-- What goes well in what is known goes well. -/
theorem vDo_cov {day : Int} {s t : Vs} {i : In} (c : Cov s t) (h : (vDo day t i).1 = 0) : (vDo day s i).1 = 0 ∧ Cov (vDo day s i).2 (vDo day t i).2 := by
  obtain ⟨c1, c2⟩ := c
  unfold vDo at h ⊢
  simp only at h ⊢
  rw [c1] at h ⊢
  split at h
  · simp at h
  rename_i n1
  rw [if_neg n1]
  split at h
  · simp at h
  rename_i n2
  rw [if_neg n2]
  rw [if_neg n1, if_neg n2]
  by_cases e6 : i.o.toNat = 6
  · rw [if_pos e6, if_pos e6]
    refine ⟨rfl, rfl, fun y hy => ?_⟩
    simp only [vKeep] at hy ⊢
    by_cases q : y = i.a.toNat
    · rw [if_pos q, if_pos q]
    · rw [if_neg q] at hy ⊢
      rw [if_neg q]
      exact c2 y hy
  rw [if_neg e6] at h ⊢
  rw [if_neg e6]
  by_cases e7 : i.o.toNat = 7
  · rw [if_pos e7] at h ⊢
    rw [if_pos e7]
    split at h
    · simp at h
    rename_i z
    have q := c2 _ z
    rw [if_neg z, q, if_neg z]
    exact ⟨rfl, rfl, c2⟩
  rw [if_neg e7] at h ⊢
  rw [if_neg e7]
  split at h
  · simp at h
  rename_i n3
  rw [if_neg n3, if_neg n3]
  split
  · exact ⟨rfl, rfl, c2⟩
  · exact ⟨rfl, rfl, c2⟩
end Go.Proofs.YteedkcmjhdabeaaDoor

namespace Go.Proofs.YteedkcmjhdabeaaDoor
set_option linter.unusedVariables false
set_option linter.unusedSimpArgs false
/-- The sort that an instruction takes (0: any), and the one that it puts. -/
def tkS (o : Int) : Int := if o = 6 ∨ o = 8 then 0 else if o = 25 ∨ o = 27 then 2 else 1
def puS (o : Int) : Int := if o = 2 ∨ o = 25 ∨ (19 ≤ o ∧ o ≤ 24) then 2 else 1
theorem way_tab : ∀ k : Nat, k < 29 → (tkS (k : Int) ≠ 0 → ∀ j, j < tkA k → (wtA k).getD (tkA k - 1 - j) 0 = (tkS (k : Int)).toNat) ∧ (wtA k = [3, 0, 0] → tkS (k : Int) = 0) ∧ (k ≠ 6 → k ≠ 7 → (psA k = 0 ↔ ptA k = 0)) ∧ (psA k ≠ 0 → (psA k : Int) = puS (k : Int)) ∧ ptA 6 = 1 ∧ ptA 7 = 1 ∧ tkA 7 = 0 ∧ tkA 6 = 1 ∧ tkA k ≤ 3 ∧ ptA k ≤ 1 := by
  intro k hk
  have : (List.range 29).all (fun k : Nat => decide ((tkS (k : Int) ≠ 0 → ∀ j, j < tkA k → (wtA k).getD (tkA k - 1 - j) 0 = (tkS (k : Int)).toNat) ∧ (wtA k = [3, 0, 0] → tkS (k : Int) = 0) ∧ (k ≠ 6 → k ≠ 7 → (psA k = 0 ↔ ptA k = 0)) ∧ (psA k ≠ 0 → (psA k : Int) = puS (k : Int)) ∧ ptA 6 = 1 ∧ ptA 7 = 1 ∧ tkA 7 = 0 ∧ tkA 6 = 1 ∧ tkA k ≤ 3 ∧ ptA k ≤ 1)) = true := by decide
  exact of_decide_eq_true (List.all_eq_true.1 this k (List.mem_range.2 hk))
theorem vTak_at (st : List Nat) : ∀ n, n ≤ 3 → ∀ j, j < n → (vTak n st).getD (n - 1 - j) 0 = st.getD j 0 := by
  intro n hn j hj
  rcases (show n = 1 ∨ n = 2 ∨ n = 3 by omega) with rfl | rfl | rfl
  · obtain rfl : j = 0 := by omega
    rfl
  · rcases (show j = 0 ∨ j = 1 by omega) with rfl | rfl <;> rfl
  · rcases (show j = 0 ∨ j = 1 ∨ j = 2 by omega) with rfl | rfl | rfl <;> rfl
theorem tkS_nn (o : Int) : 0 ≤ tkS o := by unfold tkS; split; omega; split <;> omega
/-- What goes well. -/
structure WayF (day : Int) (s : Vs) (i : In) : Prop where
  tk : tkA i.o.toNat ≤ s.st.length
  so : ∀ j, j < tkA i.o.toNat → tkS i.o ≠ 0 → (s.st.getD j 0 : Int) = tkS i.o
  gt : i.o = 7 → s.sl i.a.toNat ≠ 0
  ob : i.o = 3 → i.b ≤ day
  p0 : ptA i.o.toNat = 0 → (vDo day s i).2.st = s.st.drop (tkA i.o.toNat)
  p6 : i.o = 6 → (vDo day s i).2.st = s.st.getD 0 0 :: s.st.drop (tkA i.o.toNat)
  p7 : i.o = 7 → (vDo day s i).2.st = s.sl i.a.toNat :: s.st.drop (tkA i.o.toNat)
  p1 : i.o ≠ 6 → i.o ≠ 7 → ptA i.o.toNat ≠ 0 → ∃ x : Nat, (x : Int) = puS i.o ∧ (vDo day s i).2.st = x :: s.st.drop (tkA i.o.toNat)
  l6 : i.o = 6 → (vDo day s i).2.sl = vKeep s.sl i.a.toNat (s.st.getD 0 0)
  ln : i.o ≠ 6 → (vDo day s i).2.sl = s.sl
  z : i.o = 0 → s.st = []
theorem way_facts {day : Int} {s : Vs} {i : In} (hi : i.okP) (h : (vDo day s i).1 = 0) : WayF day s i := by
  have k29 : i.o.toNat < 29 := by have := hi.1; have := hi.2.1; omega
  have hp := hi.1
  obtain ⟨t1, t2, t3, t4, t5, t6, t7, t8, t9, t10⟩ := way_tab i.o.toNat k29
  rw [show ((i.o.toNat : Nat) : Int) = i.o by omega] at t1 t2 t4
  have tk : tkA i.o.toNat ≤ s.st.length := by
    unfold vDo at h
    simp only at h
    split at h
    · simp at h
    · rename_i n; omega
  have z : i.o = 0 → s.st = [] := by
    intro e
    unfold vDo at h
    simp only at h
    rw [e] at h
    split at h
    · simp at h
    · rename_i n
      have : ¬ (0 < s.st.length) := fun q => n (.inr ⟨rfl, q⟩)
      exact List.eq_nil_of_length_eq_zero (by omega)
  have so : ∀ j, j < tkA i.o.toNat → tkS i.o ≠ 0 → (s.st.getD j 0 : Int) = tkS i.o := by
    intro j hj hz
    unfold vDo at h
    simp only at h
    split at h
    · simp at h
    split at h
    · simp at h
    rename_i n
    simp only [Classical.not_not] at n
    have nn := tkS_nn i.o
    rcases n with n | n
    · have := t1 hz j hj
      rw [n, vTak_at _ _ t9 j hj] at this
      omega
    · exact absurd (t2 n) hz
  have all : (vDo day s i).2 = if i.o.toNat = 6 then ⟨s.st.getD 0 0 :: s.st.drop 1, vKeep s.sl i.a.toNat (s.st.getD 0 0)⟩ else if i.o.toNat = 7 then ⟨s.sl i.a.toNat :: s.st, s.sl⟩ else if psA i.o.toNat = 0 then ⟨s.st.drop (tkA i.o.toNat), s.sl⟩ else ⟨psA i.o.toNat :: s.st.drop (tkA i.o.toNat), s.sl⟩ := by
    unfold vDo at h ⊢
    simp only at h ⊢
    split at h
    · simp at h
    rename_i n1
    rw [if_neg n1]
    split at h
    · simp at h
    rename_i n2
    rw [if_neg n2]
    by_cases e6 : i.o.toNat = 6
    · rw [if_pos e6, if_pos e6]
    rw [if_neg e6] at h ⊢
    rw [if_neg e6]
    by_cases e7 : i.o.toNat = 7
    · rw [if_pos e7] at h ⊢
      rw [if_pos e7]
      split at h
      · simp at h
      rename_i z
      rw [if_neg z]
    rw [if_neg e7] at h ⊢
    rw [if_neg e7]
    split at h
    · simp at h
    rename_i z
    rw [if_neg z]
    split <;> rfl
  have gt : i.o = 7 → s.sl i.a.toNat ≠ 0 := by
    intro e q
    unfold vDo at h
    simp only at h
    rw [show i.o.toNat = 7 by omega] at h
    split at h
    · simp at h
    split at h
    · simp at h
    simp [q] at h
  have ob : i.o = 3 → i.b ≤ day := by
    intro e
    apply Classical.byContradiction
    intro q
    unfold vDo at h
    simp only at h
    rw [show i.o.toNat = 3 by omega] at h
    split at h
    · simp at h
    split at h
    · simp at h
    rw [if_neg (by omega), if_neg (by omega), if_pos ⟨rfl, by omega⟩] at h
    simp at h
  refine ⟨tk, so, gt, ob, ?_, ?_, ?_, ?_, ?_, ?_, z⟩
  · intro q
    have n6 : i.o.toNat ≠ 6 := fun e => by rw [e] at q; omega
    have n7 : i.o.toNat ≠ 7 := fun e => by rw [e] at q; omega
    rw [all, if_neg n6, if_neg n7, if_pos ((t3 n6 n7).2 q)]
  · intro e
    rw [all, if_pos (by omega), show i.o.toNat = 6 by omega, t8]
  · intro e
    rw [all, if_neg (by omega), if_pos (by omega), show i.o.toNat = 7 by omega, t7]
    rfl
  · intro e6 e7 q
    have n6 : i.o.toNat ≠ 6 := by omega
    have n7 : i.o.toNat ≠ 7 := by omega
    have np : psA i.o.toNat ≠ 0 := fun e => q ((t3 n6 n7).1 e)
    exact ⟨psA i.o.toNat, t4 np, by rw [all, if_neg n6, if_neg n7, if_neg np]⟩
  · intro e
    rw [all, if_pos (by omega)]
  · intro e
    rw [all, if_neg (by omega)]
    split
    · rfl
    split <;> rfl
/-- A list of slots that were kept: the last one that names n. -/
def sOfR : List (Int × Int) → Int → Int
  | [], _ => 0
  | (a, s) :: r, n => if a = n then s else sOfR r n
def sOf (l : List (Int × Int)) (n : Int) : Int := sOfR l.reverse n
theorem sOf_snoc (l : List (Int × Int)) (a s n : Int) : sOf (l ++ [(a, s)]) n = if a = n then s else sOf l n := by
  unfold sOf
  rw [List.reverse_append]
  rfl
/-- The needs are above each instruction's. -/
theorem need_up {nd : Nds} {sg : Sg} : ∀ m, m ≤ sg.code.length → nd.stack ≤ (vNeed nd sg.day sg.code m).stack ∧ nd.back ≤ (vNeed nd sg.day sg.code m).back ∧ ∀ k, k < m → (htF sg k : Int) ≤ (vNeed nd sg.day sg.code m).stack ∧ ((sg.code.getD k default).o = 3 → (sg.code.getD k default).b ≤ (vNeed nd sg.day sg.code m).back)
  | 0, _ => ⟨by simp [vNeed], by simp [vNeed], fun k hk => by omega⟩
  | m + 1, hm => by
    obtain ⟨i1, i2, i3⟩ := need_up (nd := nd) (sg := sg) m (by omega)
    obtain ⟨e1, e2, e3⟩ := need_next (nd := nd) (sg := sg) (k := m) (by omega)
    have b : (vNeed nd sg.day sg.code m).back ≤ (vNeed nd sg.day sg.code (m + 1)).back ∧ ((sg.code.getD m default).o = 3 → (sg.code.getD m default).b ≤ (vNeed nd sg.day sg.code (m + 1)).back) := by
      rw [e3]
      split
      · exact ⟨by omega, fun _ => by omega⟩
      · rename_i z; exact ⟨by omega, fun q => absurd q z⟩
    refine ⟨by omega, by omega, fun k hk => ?_⟩
    by_cases q : k = m
    · subst q
      exact ⟨by omega, b.2⟩
    · obtain ⟨j1, j2⟩ := i3 k (by omega)
      exact ⟨by omega, fun z => by have := j2 z; omega⟩
theorem all_up {days : List Sg} : ∀ D, D ≤ days.length → (vAll days D).1 = 0 → ∀ d, d < D → ∀ k, k < (days.getD d default).code.length → (htF (days.getD d default) k : Int) ≤ (vAll days D).2.2.2.stack ∧ (((days.getD d default).code.getD k default).o = 3 → ((days.getD d default).code.getD k default).b ≤ (vAll days D).2.2.2.back)
  | 0, _, _, d, hd, _, _ => by omega
  | D + 1, hD, h, d, hd, k, hk => by
    have h0 := vAll_before h (Nat.le_succ D)
    have e := vAll_succ h0
    rw [e]
    simp only
    obtain ⟨n1, n2, n3⟩ := need_up (nd := (vAll days D).2.2.2) (sg := days.getD D default) (days.getD D default).code.length (Nat.le_refl _)
    by_cases q : d = D
    · subst q
      exact n3 k hk
    · obtain ⟨j1, j2⟩ := all_up D (by omega) h0 d (by omega) k hk
      exact ⟨by omega, fun z => by have := j2 z; omega⟩
end Go.Proofs.YteedkcmjhdabeaaDoor

namespace Go.Proofs.YteedkcmjhdabeaaDoor
open Go.RowKit
set_option linter.unusedVariables false
set_option linter.unusedSimpArgs false
def zcs (l : List Int) : List Value := l.map (fun n => .int .i64 n)
theorem zcs_len (l : List Int) : (zcs l).length = l.length := by simp [zcs]
theorem zcs_append (a b : List Int) : zcs (a ++ b) = zcs a ++ zcs b := by simp [zcs]
theorem zcs_one (l : List Int) : ∀ u ∈ zcs l, u.oneCell' = true := by
  intro u hu
  simp only [zcs, List.mem_map] at hu
  obtain ⟨n, _, rfl⟩ := hu
  rfl
theorem infoZ : (Tryd.prog.info? 3).map (fun i => (i.zero, i.size, i.bytes)) = some (some (.int .i64 0), 1, 8) := by kernel_rfl
/-- A row of ints that lies in a block of its own. -/
def OwZ (w : World) (B : Nat) (v : Value) (l : List Int) : Prop := w.ownsRow B 3 1 v l.length (zcs l)
theorem OwZ.nil (w : World) (B : Nat) : OwZ w B (.slice none 0 0) [] := World.ownsRow_nil _ _ _ _
theorem OwZ.made (w : World) (B cap : Nat) (cur : Array Value) (hb : B ≤ w.heap.size) (hm : cap ≤ maxLen) (hs : cur.size = cap) : OwZ (w.alloc (.cells cur 3)) B (.slice (some ⟨w.heap.size, 0, none⟩) 0 cap) [] := World.ownsRow_made w cur cap hb hm (by omega)
theorem OwZ.form {w : World} {B : Nat} {v : Value} {l : List Int} (h : OwZ w B v l) : ∃ a cap, v = .slice a l.length cap ∧ l.length ≤ cap ∧ (l ≠ [] → ∃ g, a = some ⟨g, 0, none⟩ ∧ B ≤ g ∧ g < w.heap.size) := by
  rcases h.2 with ⟨rfl, h0⟩ | ⟨g, cap, cur, rfl, e2, e3, e4, _⟩
  · have : l = [] := List.length_eq_zero_iff.1 h0
    subst this
    exact ⟨none, 0, rfl, Nat.le_refl _, fun q => absurd rfl q⟩
  · exact ⟨_, cap, rfl, e4, fun _ => ⟨g, rfl, e2, (Array.getElem?_eq_some_iff.1 e3).1⟩⟩
theorem OwZ.cell {w : World} {B g cap n : Nat} {l : List Int} (h : OwZ w B (.slice (some ⟨g, 0, none⟩) n cap) l) {i : Nat} (hi : i < l.length) : w.cell? ⟨g, i, none⟩ = some (.int .i64 (l.getD i 0)) := by
  rcases h.2 with ⟨e, _⟩ | ⟨g', cap', cur, e, e2, e3, e4, e5, e6, e7⟩
  · injection e with e; cases e
  · injection e with e _ _
    injection e with e
    injection e with e
    subst e
    have q : (zcs l)[i]? = some (.int .i64 (l.getD i 0)) := by simp [zcs, List.getD, hi]
    rw [← e7, List.getElem?_take_of_lt (by omega)] at q
    simp only [World.cell?, e3]
    simpa using q
theorem OwZ.frozen {w : World} {B g cap n : Nat} {l : List Int} (h : OwZ w B (.slice (some ⟨g, 0, none⟩) n cap) l) (i : Nat) : w.frozen? ⟨g, i, none⟩ = false := by
  rcases h.2 with ⟨e, _⟩ | ⟨g', cap', cur, e, e2, e3, e4, e5, e6, e7⟩
  · injection e with e; cases e
  · injection e with e _ _
    injection e with e
    injection e with e
    subst e
    simp [World.frozen?, e3]
/-- Cut to its first k. -/
theorem OwZ.cut {w : World} {B g cap n : Nat} {l : List Int} (h : OwZ w B (.slice (some ⟨g, 0, none⟩) n cap) l) {k : Nat} (hk : k ≤ l.length) : OwZ w B (.slice (some ⟨g, 0, none⟩) k cap) (l.take k) := by
  rcases h.2 with ⟨e, _⟩ | ⟨g', cap', cur, e, e2, e3, e4, e5, e6, e7⟩
  · injection e with e; cases e
  · injection e with e en ec
    injection e with e
    injection e with e
    subst e ec
    have hl : (l.take k).length = k := by simp; omega
    refine ⟨by rw [zcs_len]; omega, .inr ⟨g, cap, cur, by rw [hl], e2, e3, by omega, e5, e6, ?_⟩⟩
    rw [hl]
    have : zcs (l.take k) = (zcs l).take k := by simp [zcs]
    rw [this, ← e7, List.take_take]
    congr 1
    omega
theorem OwZ.later {w w' : World} {B C : Nat} {v : Value} {l : List Int} (h : OwZ w B v l) (b : Below w.heap.size w w') (hC : C ≤ B) : OwZ w' C v l := by
  refine ⟨h.1, ?_⟩
  rcases h.2 with h | ⟨g, cap, cur, rfl, e2, e3, e4⟩
  · exact .inl h
  · exact .inr ⟨g, cap, cur, rfl, by omega, (b.block g (Array.getElem?_eq_some_iff.1 e3).1).trans e3, e4⟩
theorem OwZ.lat {w w' : World} {B : Nat} {v : Value} {l : List Int} (h : OwZ w B v l) (b : Below w.heap.size w w') : OwZ w' B v l := h.later b (Nat.le_refl _)
theorem OwZ.grown {w w' : World} {B : Nat} {v : Value} {l : List Int} {r : Option Nat} (h : OwZ w B v l) (g : w.grownBy w' r) (hr : v.ownBlock = none ∨ v.ownBlock ≠ r) : OwZ w' B v l := World.ownsRow.kept h g hr
theorem OwZ.blk {w w' : World} {B : Nat} {v : Value} {l : List Int} (h : OwZ w B v l) (hb : ∀ g, v.ownBlock = some g → w'.heap[g]? = w.heap[g]?) : OwZ w' B v l := by
  refine ⟨h.1, ?_⟩
  rcases h.2 with hn | ⟨g, cap, cur, rfl, hB, hg, rest⟩
  · exact .inl hn
  · exact .inr ⟨g, cap, cur, rfl, hB, by rw [hb g rfl]; exact hg, rest⟩
theorem OwZ.own {w : World} {B : Nat} {v : Value} {l : List Int} (h : OwZ w B v l) : ∀ g, v.ownBlock = some g → B ≤ g ∧ g < w.heap.size := World.ownsRow.lt h
/-- 'l = append(l, more...)'. -/
theorem wp_ints {ops : Array Oper} {rest : List Oper} {o : Oper} {a : Act} {Q : Exit → Act → World → Prop} (w : World) (hgd : o.guard = none) (s y : Operand)
    (ho : o.op = .call { callee := .builtin .append, args := #[s, y], argTypes := #[23, 23] }) (B C : Nat) (v u : Value) (l k : List Int) (hs : a.eval s = v) (hy : a.eval y = u)
    (hv : OwZ w B v l) (hu : OwZ w C u k) (hl : l.length + k.length ≤ 4398046511000) (hb : B ≤ w.heap.size)
    (h : ∀ v' w', OwZ w' B v' (l ++ k) → w.grownBy w' v.ownBlock → wpList Tryd.prog ops Q rest (a.put o.dst v') w') : wpList Tryd.prog ops Q (o :: rest) a w := by
  obtain ⟨i0, hi, hz0, hz1, hz2⟩ := info_parts infoZ
  have hlen : k.length * 1 = (zcs k).length := by rw [zcs_len]; omega
  rcases hu.2 with ⟨rfl, h0⟩ | ⟨g, cap, cur, rfl, e2, e3, e4, e5, e6, e7⟩
  · have : k = [] := List.length_eq_zero_iff.1 h0
    subst this
    exact wpList_append_own_none hgd s y 23 ho B 3 i0 1 Tryd.underlying23 hi v l.length (zcs l) hs hv hy (h v w (by rw [List.append_nil]; exact hv) ⟨rfl, rfl, rfl, Nat.le_refl _, fun _ _ _ => rfl⟩)
  · refine wpList_append_own _ hgd s y 23 ho B 3 i0 (.int .i64 0) 1 8 Tryd.underlying23 hi hz0 hz1 hz2 rfl (by decide) v _ _ hs hv ⟨g, 0, none⟩ k.length cap (zcs k) hy hlen.symm ?_ (zcs_one k) (by unfold maxLen; omega) (by omega) hb ?_
    · intro j u' hj
      have hj' : j < k.length * 1 := by rw [hlen]; exact (List.getElem?_eq_some_iff.1 hj).1
      rw [Addr.add_lit, Nat.zero_add]
      simp only [World.cell?, e3]
      rw [← e7, List.getElem?_take_of_lt hj'] at hj
      simpa using hj
    · intro v' w' h1 h2 _
      refine h v' w' ?_ h2
      unfold OwZ
      rw [zcs_append, List.length_append]
      exact h1
theorem OwZ.lit (w : World) (B : Nat) (x : Int) (hb : B ≤ w.heap.size) : OwZ (w.alloc (.cells #[.int .i64 x] 3)) B (.slice (some ⟨w.heap.size, 0, none⟩) 1 1) [x] :=
  ⟨rfl, .inr ⟨w.heap.size, 1, #[.int .i64 x], rfl, hb, heapN _ _, Nat.le_refl _, by unfold maxLen; omega, rfl, rfl⟩⟩
theorem own_blkG {w w' : World} {B : Nat} {t : TypeId} {k : Nat} {v : Value} {n : Nat} {xs : List Value} (h : w.ownsRow B t k v n xs) (hb : ∀ g, v.ownBlock = some g → w'.heap[g]? = w.heap[g]?) : w'.ownsRow B t k v n xs := by
  refine ⟨h.1, ?_⟩
  rcases h.2 with hn | ⟨g, cap, cur, rfl, hB, hg, rest⟩
  · exact .inl hn
  · exact .inr ⟨g, cap, cur, rfl, hB, by rw [hb g rfl]; exact hg, rest⟩
/-- Rows and boxes of unlike types lie in unlike blocks. -/
theorem own_neB {w : World} {B : Nat} {t u : TypeId} {k : Nat} {v : Value} {n : Nat} {xs : List Value} (h : w.ownsRow B t k v n xs) {b : Nat} {cs : Array Value} (hb : BkP w b cs u) (ne : t ≠ u) : v.ownBlock ≠ some b := by
  intro e
  rcases h.2 with ⟨rfl, _⟩ | ⟨g, cap, cur, rfl, hB, hg, rest⟩
  · cases e
  · simp only [Value.ownBlock, Option.some.injEq] at e
    subst e
    exact bk_ne (W := w) hg hb ne rfl
theorem own_neO {w : World} {B C : Nat} {t u : TypeId} {k j : Nat} {v v' : Value} {n m : Nat} {xs ys : List Value} (h : w.ownsRow B t k v n xs) (h' : w.ownsRow C u j v' m ys) (ne : t ≠ u) : v.ownBlock = none ∨ v.ownBlock ≠ v'.ownBlock := by
  rcases h'.2 with ⟨rfl, _⟩ | ⟨g, cap, cur, rfl, hB, hg, rest⟩
  · cases e : v.ownBlock with
    | none => exact .inl rfl
    | some x => exact .inr (by simp [Value.ownBlock])
  · exact .inr (own_neB h (b := g) (cs := cur) hg ne)
end Go.Proofs.YteedkcmjhdabeaaDoor

namespace Go.Proofs.YteedkcmjhdabeaaDoor
open Go.RowKit
set_option linter.unusedVariables false
set_option linter.unusedSimpArgs false
theorem takes_any (o : Int) (w : World) : Calls Tryd.prog 19 #[.int .i64 o] w fun e w' => e = .returned (.int .i64 (tkS o)) ∧ w' = w := by
  unfold tkS
  by_cases a : o = 6
  · subst a
    simp only [true_or, if_true]
    go_enter Tryd.func19, Tryd.ntmps19
    go_wp2
    go_ret
    exact ⟨rfl, rfl⟩
  by_cases b : o = 8
  · subst b
    simp only [or_true, if_true]
    go_enter Tryd.func19, Tryd.ntmps19
    go_wp2
    go_ret
    exact ⟨rfl, rfl⟩
  rw [if_neg (by omega)]
  have a1 : (o == 6) = false := by simpa using a
  have b1 : (o == 8) = false := by simpa using b
  by_cases c : o = 25
  · subst c
    simp only [true_or, if_true]
    go_enter Tryd.func19, Tryd.ntmps19
    go_wp2
    go_ret
    exact ⟨rfl, rfl⟩
  by_cases d : o = 27
  · subst d
    simp only [or_true, if_true]
    go_enter Tryd.func19, Tryd.ntmps19
    go_wp2
    go_ret
    exact ⟨rfl, rfl⟩
  rw [if_neg (by omega)]
  have c1 : (o == 25) = false := by simpa using c
  have d1 : (o == 27) = false := by simpa using d
  clear a b c d
  go_enter Tryd.func19, Tryd.ntmps19
  go_wp2
  go_ret
  exact ⟨rfl, rfl⟩
theorem puts_any (o : Int) (w : World) : Calls Tryd.prog 20 #[.int .i64 o] w fun e w' => e = .returned (.int .i64 (puS o)) ∧ w' = w := by
  unfold puS
  by_cases a : o = 2
  · subst a
    simp only [true_or, if_true]
    go_enter Tryd.func20, Tryd.ntmps20
    go_wp2
    go_ret
    exact ⟨rfl, rfl⟩
  by_cases b : o = 25
  · subst b
    simp only [true_or, or_true, if_true]
    go_enter Tryd.func20, Tryd.ntmps20
    go_wp2
    go_ret
    exact ⟨rfl, rfl⟩
  have a1 : (o == 2) = false := by simpa using a
  have b1 : (o == 25) = false := by simpa using b
  by_cases c : 19 ≤ o
  · by_cases d : o ≤ 24
    · rw [if_pos (by omega)]
      clear a b
      go_enter Tryd.func20, Tryd.ntmps20
      go_wp2
      go_ret
      exact ⟨rfl, rfl⟩
    · rw [if_neg (by omega)]
      clear a b
      go_enter Tryd.func20, Tryd.ntmps20
      go_wp2
      go_ret
      exact ⟨rfl, rfl⟩
  · rw [if_neg (by omega)]
    clear a b
    go_enter Tryd.func20, Tryd.ntmps20
    go_wp2
    go_ret
    exact ⟨rfl, rfl⟩
/-- The cells of a list of slots. -/
def slcs (l : List (Int × Int)) : List Value := l.flatMap (fun p => [.int .i64 p.1, .int .i64 p.2])
theorem slcs_len (l : List (Int × Int)) : (slcs l).length = l.length * 2 := by
  induction l with
  | nil => rfl
  | cons p r ih => simp [slcs] at ih ⊢; omega
theorem slcs_append (a b : List (Int × Int)) : slcs (a ++ b) = slcs a ++ slcs b := by simp [slcs]
theorem slcs_at : ∀ (l : List (Int × Int)) (i : Nat), i < l.length → (slcs l)[i * 2]? = some (.int .i64 (l.getD i (0, 0)).1) ∧ (slcs l)[i * 2 + 1]? = some (.int .i64 (l.getD i (0, 0)).2)
  | p :: r, 0, _ => by simp [slcs]
  | p :: r, i + 1, h => by
    obtain ⟨h1, h2⟩ := slcs_at r i (by simpa using h)
    have e : slcs (p :: r) = .int .i64 p.1 :: .int .i64 p.2 :: slcs r := rfl
    rw [e]
    refine ⟨?_, ?_⟩
    · rw [show (i + 1) * 2 = i * 2 + 1 + 1 by omega, List.getElem?_cons_succ, List.getElem?_cons_succ, h1]
      rfl
    · rw [show (i + 1) * 2 + 1 = i * 2 + 1 + 1 + 1 by omega, List.getElem?_cons_succ, List.getElem?_cons_succ, h2]
      rfl
theorem infoSl : (Tryd.prog.info? 72).map (fun i => (i.zero, i.size, i.bytes)) = some (some (.agg #[.int .i64 0, .int .i64 0]), 2, 16) := by kernel_rfl
def OwSl (w : World) (B : Nat) (v : Value) (l : List (Int × Int)) : Prop := w.ownsRow B 72 2 v l.length (slcs l)
theorem OwSl.form {w : World} {B : Nat} {v : Value} {l : List (Int × Int)} (h : OwSl w B v l) : ∃ a cap, v = .slice a l.length cap ∧ ∀ i, i < l.length → ∃ g, a = some ⟨g, 0, none⟩ ∧ w.cell? ⟨g, i * 2, none⟩ = some (.int .i64 (l.getD i (0, 0)).1) ∧ w.cell? ⟨g, i * 2 + 1, none⟩ = some (.int .i64 (l.getD i (0, 0)).2) := by
  rcases h.2 with ⟨rfl, h0⟩ | ⟨g, cap, cur, rfl, e2, e3, e4, e5, e6, e7⟩
  · have : l = [] := List.length_eq_zero_iff.1 h0
    subst this
    exact ⟨none, 0, rfl, fun i hi => by simp at hi⟩
  · refine ⟨_, cap, rfl, fun i hi => ⟨g, rfl, ?_, ?_⟩⟩
    · have q := (slcs_at l i hi).1
      rw [← e7, List.getElem?_take_of_lt (by omega)] at q
      simp only [World.cell?, e3]
      simpa using q
    · have q := (slcs_at l i hi).2
      rw [← e7, List.getElem?_take_of_lt (by omega)] at q
      simp only [World.cell?, e3]
      simpa using q
theorem OwSl.lat {w w' : World} {B : Nat} {v : Value} {l : List (Int × Int)} (h : OwSl w B v l) (b : Below w.heap.size w w') : OwSl w' B v l := by
  refine ⟨h.1, ?_⟩
  rcases h.2 with h | ⟨g, cap, cur, rfl, e2, e3, e4⟩
  · exact .inl h
  · exact .inr ⟨g, cap, cur, rfl, by omega, (b.block g (Array.getElem?_eq_some_iff.1 e3).1).trans e3, e4⟩
theorem OwSl.grown {w w' : World} {B : Nat} {v : Value} {l : List (Int × Int)} {r : Option Nat} (h : OwSl w B v l) (g : w.grownBy w' r) (hr : v.ownBlock = none ∨ v.ownBlock ≠ r) : OwSl w' B v l := World.ownsRow.kept h g hr
/-- 'slots = append(slots, Slot{n, sort})'. -/
theorem wp_slot {ops : Array Oper} {rest : List Oper} {o : Oper} {a : Act} {Q : Exit → Act → World → Prop} (w : World) (n k : Int) (hgd : o.guard = none) (s x : Operand)
    (ho : o.op = .call { callee := .builtin .append, args := #[s, x], argTypes := #[67, 67] }) (B : Nat) (v : Value) (l : List (Int × Int)) (hs : a.eval s = v)
    (hx : a.eval x = .slice (some ⟨w.heap.size, 0, none⟩) 1 1) (hown : OwSl w B v l) (hl : l.length ≤ 4398046511000) (hb : B ≤ w.heap.size)
    (h : ∀ v' w', OwSl w' B v' (l ++ [(n, k)]) → (w.alloc (.cells #[.int .i64 n, .int .i64 k] 72)).grownBy w' v.ownBlock → wpList Tryd.prog ops Q rest (a.put o.dst v') w') :
    wpList Tryd.prog ops Q (o :: rest) a (w.alloc (.cells #[.int .i64 n, .int .i64 k] 72)) := by
  obtain ⟨i0, hi, hz0, hz1, hz2⟩ := info_parts infoSl
  refine wpList_append_own _ hgd s x 67 ho B 72 i0 (.agg #[.int .i64 0, .int .i64 0]) 2 16 Tryd.underlying67 hi hz0 hz1 hz2 rfl (by decide) v _ _ hs (World.ownsRow.alloc hown _) ⟨w.heap.size, 0, none⟩ 1 1 [.int .i64 n, .int .i64 k] hx rfl ?_ ?_ (by unfold maxLen; omega) (by omega) (by simp; omega) ?_
  · intro j u hj
    match j, hj with
    | 0, hj => simp at hj; subst hj; simp [Addr.add]
    | 1, hj => simp at hj; subst hj; simp [Addr.add]
  · intro u hu
    simp at hu
    rcases hu with rfl | rfl <;> rfl
  · intro v' w' h1 h2 _
    refine h v' w' ?_ h2
    unfold OwSl
    rw [slcs_append, List.length_append]
    exact h1
set_option maxRecDepth 100000 in
set_option maxHeartbeats 800000 in
theorem sortOf_any {w : World} {B : Nat} {v : Value} {l : List (Int × Int)} (h : OwSl w B v l) (hl : l.length ≤ 4398046511000) (n : Int) : Calls Tryd.prog 21 #[v, .int .i64 n] w fun e w' => e = .returned (.int .i64 (sOf l n)) ∧ w' = w := by
  obtain ⟨a, cap, rfl, hc⟩ := h.form
  have HC := Lib.hid hc
  have HS := Lib.hid (p := ∀ k, k < l.length → sOf (l.take (k + 1)) n = if (l.getD k (0, 0)).1 = n then (l.getD k (0, 0)).2 else sOf (l.take k) n) (fun k hk => by
    rw [List.take_succ_eq_append_getElem hk]
    have e : l.getD k (0, 0) = l[k] := by simp [List.getD, hk]
    rw [e]
    exact sOf_snoc _ _ _ _)
  have HT := Lib.hid (p := sOf (l.take l.length) n = sOf l n) (by rw [List.take_length])
  have HZ := Lib.hid (p := sOf (l.take 0) n = 0) rfl
  obtain ⟨m, hm⟩ : ∃ m, l.length = m := ⟨_, rfl⟩
  obtain ⟨R, hR⟩ : ∃ R, sOf l n = R := ⟨_, rfl⟩
  rw [hm] at HC HS HT hl ⊢
  rw [hR] at HT ⊢
  clear hm hR hc h
  have wr0 : IntKind.i64.wrap ((m : Int) - 1) = (m : Int) - 1 := by simp [IntKind.wrap, IntKind.bits, IntKind.signed]; omega
  go_enter Tryd.func21, Tryd.ntmps21
  go_wp2
  go_loopw [5] (fun t wr => ∃ k : Nat, k ≤ m ∧ t = .int .i64 ((k : Int) - 1) ∧ RowKit.Hid (sOf (l.take k) n = R) ∧ wr = w) (fun t _ => (intOf t + 1).toNat)
  case atStart => exact ⟨m, by omega, rfl, HT.out, rfl⟩
  case round =>
    obtain ⟨k, hk, rfl, hS, rfl⟩ := hrel
    by_cases k0 : k = 0
    · subst k0
      have z := HZ.out
      have s := hS.out
      rw [s] at z
      subst z
      go_wp2
      go_ret
      exact ⟨rfl, rfl⟩
    · obtain ⟨j, rfl⟩ : ∃ j, k = j + 1 := ⟨k - 1, by omega⟩
      have ej : ((j + 1 : Nat) : Int) - 1 = (j : Int) := by omega
      rw [ej]
      obtain ⟨g, rfl, c0, c1⟩ := HC.out j (by omega)
      have q := HS.out j (by omega)
      have s := hS.out
      rw [s] at q
      have j0 : ¬ (j : Int) < 0 := by omega
      have jm : (j : Int) < (m : Int) := by omega
      have jw : IntKind.i64.wrap ((j : Int) - 1) = (j : Int) - 1 := by simp [IntKind.wrap, IntKind.bits, IntKind.signed]; omega
      generalize l.getD j (0, 0) = x at *
      obtain ⟨xa, xs⟩ := x
      simp only at q c0 c1
      by_cases e : xa = n
      · rw [if_pos e] at q
        subst q
        have e1 : (xa == n) = true := by simpa using e
        clear e k0 ej
        go_wp2
        go_ret
        exact ⟨rfl, rfl⟩
      · rw [if_neg e] at q
        have Q1 := Lib.hid q
        have e1 : (xa == n) = false := by simpa using e
        clear q e s k0 ej
        go_wp2
        go_roundw
        case rel => exact ⟨j, by omega, by go_num, Q1.out.symm, by trivial⟩
        case measure => simp [intOf]
end Go.Proofs.YteedkcmjhdabeaaDoor
