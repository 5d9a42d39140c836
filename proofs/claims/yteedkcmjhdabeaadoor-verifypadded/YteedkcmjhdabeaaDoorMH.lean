/-
  VERIFY, PLAINLY: what is known ahead of an instruction holds on every way to it.
-/
import Derived.Test.YteedkcmjhdabeaaDoorMD
import Derived.Test.YteedkcmjhdabeaaDoorME
import Derived.Test.YteedkcmjhdabeaaDoorMA
import Derived.Laws.AppendOwnNone
import Derived.Deep.AppendLies
import Derived.Deep.RegionLaw
namespace Go.Proofs.YteedkcmjhdabeaaDoor
set_option linter.unusedVariables false
set_option linter.unusedSimpArgs false
/-- What is known (t) holds of a state (s): the same stack, and the slots that it names are kept so. -/
def Cov (s t : Vs) : Prop := t.st = s.st ∧ ∀ y, t.sl y ≠ 0 → s.sl y = t.sl y
theorem Cov.refl (s : Vs) : Cov s s := ⟨rfl, fun _ _ => rfl⟩
theorem Cov.trans {s t u : Vs} (h : Cov s t) (g : Cov t u) : Cov s u := ⟨g.1.trans h.1, fun y hy => by
  have e := g.2 y hy
  rw [← e]
  exact h.2 y (by rw [e]; exact hy)⟩
theorem meet_cov {s t : Vs} (h : t.st = s.st) : Cov s ⟨t.st, vMeet t.sl s.sl⟩ ∧ Cov t ⟨t.st, vMeet t.sl s.sl⟩ := by
  refine ⟨⟨h, fun y hy => ?_⟩, ⟨rfl, fun y hy => ?_⟩⟩
  · simp only [vMeet] at hy ⊢
    by_cases e : t.sl y = s.sl y
    · rw [if_pos e, e]
    · rw [if_neg e] at hy; exact absurd rfl hy
  · simp only [vMeet] at hy ⊢
    by_cases e : t.sl y = s.sl y
    · rw [if_pos e]
    · rw [if_neg e] at hy; exact absurd rfl hy
theorem vHand_cov {t : Option Vs} {s : Vs} (h : (vHand t s).1 = 0) : ∃ u, (vHand t s).2 = some u ∧ Cov s u ∧ ∀ t0, t = some t0 → Cov t0 u := by
  unfold vHand at h ⊢
  cases t with
  | none => exact ⟨s, rfl, Cov.refl s, fun t0 e => by cases e⟩
  | some t =>
    simp only at h ⊢
    split at h
    · simp at h
    split at h
    · simp at h
    rename_i n1 n2
    rw [if_neg n1, if_neg n2]
    have e : t.st = s.st := by simpa using n2
    obtain ⟨c1, c2⟩ := meet_cov e
    exact ⟨_, rfl, c1, fun t0 q => by cases q; exact c2⟩
/-- Each state is still known, or less of it. -/
def Gro (l m : Nat → Option Vs) : Prop := ∀ j t, l j = some t → ∃ u, m j = some u ∧ Cov t u
theorem Gro.refl (l : Nat → Option Vs) : Gro l l := fun j t h => ⟨t, h, Cov.refl t⟩
theorem Gro.trans {l m n : Nat → Option Vs} (h : Gro l m) (g : Gro m n) : Gro l n := fun j t e => by
  obtain ⟨u, e1, c1⟩ := h j t e
  obtain ⟨v, e2, c2⟩ := g j u e1
  exact ⟨v, e2, c1.trans c2⟩
theorem vSet_gro {l : Nat → Option Vs} {k : Nat} {s : Vs} (h : (vHand (l k) s).1 = 0) : Gro l (vSet l k (vHand (l k) s).2) := by
  intro j t e
  obtain ⟨u, e1, c1, c2⟩ := vHand_cov h
  unfold vSet
  by_cases q : j = k
  · subst q
    rw [if_pos rfl]
    exact ⟨u, e1, c2 t e⟩
  · rw [if_neg q]
    exact ⟨t, e, Cov.refl t⟩
theorem vSet_self {l : Nat → Option Vs} {k : Nat} : vSet l k (l k) = l := by
  funext j
  unfold vSet
  split
  · rename_i e; rw [e]
  · rfl
theorem vNx_gro {i : In} {l : Nat → Option Vs} {k : Nat} {s : Vs} (h : (vNx i (l k) s).1 = 0) : Gro l (vSet l k (vNx i (l k) s).2) ∧ (¬ (i.o = 26 ∨ i.o = 0) → ∃ u, (vNx i (l k) s).2 = some u ∧ Cov s u) := by
  unfold vNx at h ⊢
  by_cases e : i.o = 26 ∨ i.o = 0
  · rw [if_pos e]
    simp only
    rw [vSet_self]
    exact ⟨Gro.refl l, fun q => absurd e q⟩
  · rw [if_neg e] at h ⊢
    obtain ⟨u, e1, c1, c2⟩ := vHand_cov h
    exact ⟨vSet_gro h, fun _ => ⟨u, e1, c1⟩⟩
theorem vOn_gro {n k : Nat} {i : In} {s : Vs} {l : Nat → Option Vs} (h : (vOn n i k s l).1 = 0) : Gro l (vOn n i k s l).2 ∧ (¬ (i.o = 26 ∨ i.o = 0) → ∃ u, (vOn n i k s l).2 (k + 1) = some u ∧ Cov s u) ∧ (isJ i → k + 1 + i.a.toNat < n ∧ ∃ u, (vOn n i k s l).2 (k + 1 + i.a.toNat) = some u ∧ Cov s u) := by
  unfold vOn at h ⊢
  by_cases a : isJ i ∧ n ≤ k + 1 + i.a.toNat
  · rw [if_pos a] at h
    simp at h
  rw [if_neg a] at h ⊢
  by_cases b : (vNx i (l (k + 1)) s).1 ≠ 0
  · rw [if_pos b] at h
    exact absurd h b
  rw [if_neg b] at h ⊢
  have b0 : (vNx i (l (k + 1)) s).1 = 0 := by simpa using b
  obtain ⟨g1, g2⟩ := vNx_gro b0
  generalize vNx i (l (k + 1)) s = x at *
  have at1 : (vSet l (k + 1) x.2) (k + 1) = x.2 := by simp [vSet]
  by_cases c : isJ i
  · rw [if_pos c] at h ⊢
    simp only at h ⊢
    generalize hm : vSet l (k + 1) x.2 = m at *
    obtain ⟨u, e1, c1, c2⟩ := vHand_cov h
    refine ⟨g1.trans (vSet_gro h), fun q => ?_, fun _ => ⟨by simp only [not_and] at a; have := a c; omega, u, ?_, c1⟩⟩
    · obtain ⟨v, e2, c3⟩ := g2 q
      obtain ⟨z, e3, c4⟩ := vSet_gro h (k + 1) v (by rw [at1, e2])
      exact ⟨z, e3, c3.trans c4⟩
    · simp only [vSet, if_true]
      exact e1
  · rw [if_neg c]
    simp only
    refine ⟨g1, fun q => ?_, fun q => absurd q c⟩
    obtain ⟨v, e2, c3⟩ := g2 q
    exact ⟨v, by rw [at1, e2], c3⟩
theorem vPass_gro {day : Int} {n k : Nat} {i : In} {l : Nat → Option Vs} (h : (vPass day n i k l).1 = 0) : Gro l (vPass day n i k l).2 ∧ ∃ s, l k = some s ∧ (vDo day s i).1 = 0 ∧ (¬ (i.o = 26 ∨ i.o = 0) → ∃ u, (vPass day n i k l).2 (k + 1) = some u ∧ Cov (vDo day s i).2 u) ∧ (isJ i → k + 1 + i.a.toNat < n ∧ ∃ u, (vPass day n i k l).2 (k + 1 + i.a.toNat) = some u ∧ Cov (vDo day s i).2 u) := by
  unfold vPass at h ⊢
  cases hk : l k with
  | none => rw [hk] at h; simp at h
  | some s =>
    rw [hk] at h
    simp only at h ⊢
    by_cases e : (vDo day s i).1 ≠ 0
    · rw [if_pos e] at h
      exact absurd h e
    · rw [if_neg e] at h ⊢
      obtain ⟨g, a, b⟩ := vOn_gro h
      exact ⟨g, s, rfl, by simpa using e, a, b⟩
theorem vRun_gro {day : Int} {code : List In} {k : Nat} : ∀ m, k ≤ m → (vRun day code m).1 = 0 → Gro (vRun day code k).2.2 (vRun day code m).2.2
  | 0, hm, _ => by rw [show k = 0 by omega]; exact Gro.refl _
  | m + 1, hm, h => by
    by_cases e : k = m + 1
    · rw [e]; exact Gro.refl _
    · have h0 := vRun_before h (Nat.le_succ m)
      have ih := vRun_gro m (by omega) h0 (day := day) (code := code) (k := k)
      have e1 := vRun_succ h0
      rw [e1] at h ⊢
      exact ih.trans (vPass_gro h).1
/-- The states that are known of code that is taken. -/
def vL (day : Int) (code : List In) : Nat → Option Vs := (vRun day code code.length).2.2
theorem vL_start {day : Int} {code : List In} (h : (vRun day code code.length).1 = 0) : ∃ t, vL day code 0 = some t ∧ Cov ⟨[], fun _ => 0⟩ t := by
  obtain ⟨u, e, c⟩ := vRun_gro (day := day) (code := code) (k := 0) code.length (by omega) h 0 ⟨[], fun _ => 0⟩ (by simp [vRun, vStart])
  exact ⟨u, e, c⟩
/-- An instruction of code that is taken, in a state that is known. -/
theorem vL_step {day : Int} {code : List In} (h : (vRun day code code.length).1 = 0) {k : Nat} (hk : k < code.length) :
    ∃ s, vL day code k = some s ∧ (vDo day s (code.getD k default)).1 = 0 ∧ (¬ ((code.getD k default).o = 26 ∨ (code.getD k default).o = 0) → ∃ u, vL day code (k + 1) = some u ∧ Cov (vDo day s (code.getD k default)).2 u) ∧
      (isJ (code.getD k default) → k + 1 + (code.getD k default).a.toNat < code.length ∧ ∃ u, vL day code (k + 1 + (code.getD k default).a.toNat) = some u ∧ Cov (vDo day s (code.getD k default)).2 u) := by
  have h1 := vRun_before h (show k + 1 ≤ code.length by omega)
  have h0 := vRun_before h (show k ≤ code.length by omega)
  have e1 := vRun_succ h0
  have g := vRun_gro (day := day) (code := code) (k := k + 1) code.length (by omega) h
  have o := vRun_old (day := day) (code := code) (k := k + 1) (j := k) (by omega) code.length (by omega)
  rw [e1] at h1 g o
  simp only at h1 g o
  obtain ⟨_, s, s1, s2, s3, s4⟩ := vPass_gro h1
  rw [vPass_old (Nat.le_refl k)] at o
  refine ⟨s, by unfold vL; rw [o]; exact s1, s2, fun q => ?_, fun q => ?_⟩
  · obtain ⟨u, u1, u2⟩ := s3 q
    obtain ⟨v, v1, v2⟩ := g _ _ u1
    exact ⟨v, v1, u2.trans v2⟩
  · obtain ⟨z, u, u1, u2⟩ := s4 q
    obtain ⟨v, v1, v2⟩ := g _ _ u1
    exact ⟨z, v, v1, u2.trans v2⟩
/-- What goes well in what is known goes well. -/
theorem vDo_cov {day : Int} {s t : Vs} {i : In} (c : Cov s t) (h : (vDo day t i).1 = 0) : (vDo day s i).1 = 0 ∧ Cov (vDo day s i).2 (vDo day t i).2 := by
  obtain ⟨c1, c2⟩ := c
  unfold vDo at h ⊢
  simp only at h ⊢
  rw [c1] at h ⊢
  split at h
  · simp at h
  rename_i n1
  rw [if_neg n1]
  split at h
  · simp at h
  rename_i n2
  rw [if_neg n2]
  rw [if_neg n1, if_neg n2]
  by_cases e6 : i.o.toNat = 6
  · rw [if_pos e6, if_pos e6]
    refine ⟨rfl, rfl, fun y hy => ?_⟩
    simp only [vKeep] at hy ⊢
    by_cases q : y = i.a.toNat
    · rw [if_pos q, if_pos q]
    · rw [if_neg q] at hy ⊢
      rw [if_neg q]
      exact c2 y hy
  rw [if_neg e6] at h ⊢
  rw [if_neg e6]
  by_cases e7 : i.o.toNat = 7
  · rw [if_pos e7] at h ⊢
    rw [if_pos e7]
    split at h
    · simp at h
    rename_i z
    have q := c2 _ z
    rw [if_neg z, q, if_neg z]
    exact ⟨rfl, rfl, c2⟩
  rw [if_neg e7] at h ⊢
  rw [if_neg e7]
  split at h
  · simp at h
  rename_i n3
  rw [if_neg n3, if_neg n3]
  split
  · exact ⟨rfl, rfl, c2⟩
  · exact ⟨rfl, rfl, c2⟩
end Go.Proofs.YteedkcmjhdabeaaDoor

namespace Go.Proofs.YteedkcmjhdabeaaDoor
set_option linter.unusedVariables false
set_option linter.unusedSimpArgs false
/-- The code with a truth that is put and dropped ahead of its end. -/
def padC (c : List In) : List In := c.take (c.length - 1) ++ [⟨2, 1, 0⟩, ⟨8, 0, 0⟩, ⟨0, 0, 0⟩]
theorem padC_len (c : List In) (h : 1 ≤ c.length) : (padC c).length = c.length + 2 := by
  unfold padC
  rw [List.length_append, List.length_take]
  simp
  omega
theorem padC_old (c : List In) {j : Nat} (h : j < c.length - 1) : (padC c).getD j default = c.getD j default := by
  unfold padC
  simp only [List.getD, List.getElem?_append, List.length_take]
  rw [if_pos (by omega), List.getElem?_take, if_pos h]
theorem padC_at (c : List In) (h : 1 ≤ c.length) (j : Nat) (hj : j < 3) : (padC c).getD (c.length - 1 + j) default = ([⟨2, 1, 0⟩, ⟨8, 0, 0⟩, ⟨0, 0, 0⟩] : List In).getD j default := by
  unfold padC
  simp only [List.getD, List.getElem?_append, List.length_take]
  rw [if_neg (by omega), show c.length - 1 + j - min (c.length - 1) c.length = j by omega]
theorem vRun_none {day : Int} {c : List In} : ∀ k, (vRun day c k).1 = 0 → ∀ j, k < j → c.length ≤ j → (vRun day c k).2.2 j = none
  | 0, _, j, hj, _ => by
    simp only [vRun, vStart]
    rw [if_neg (by omega)]
  | k + 1, h, j, hj, hn => by
    have h0 := vRun_before h (Nat.le_succ k)
    have ih := vRun_none k h0 j (by omega) hn
    have e1 := vRun_succ h0
    rw [e1] at h ⊢
    simp only at h ⊢
    unfold vPass at h ⊢
    generalize (vRun day c k).2.2 = l at *
    generalize c.getD k default = i at *
    cases hk : l k with
    | none => exact ih
    | some s =>
      rw [hk] at h
      simp only at h ⊢
      split
      · exact ih
      · rename_i z
        rw [if_neg z] at h
        generalize (vDo day s i).2 = s' at *
        unfold vOn at h ⊢
        by_cases a : isJ i ∧ c.length ≤ k + 1 + i.a.toNat
        · rw [if_pos a]; exact ih
        rw [if_neg a] at h ⊢
        split
        · exact ih
        split
        · rename_i y
          have : k + 1 + i.a.toNat < c.length := by simp only [not_and] at a; have := a y; omega
          simp only [vSet]
          rw [if_neg (by omega), if_neg (by omega)]
          exact ih
        · simp only [vSet]
          rw [if_neg (by omega)]
          exact ih
/-- What a padded segment needs more. -/
structure NRe (a b : Nds) : Prop where
  stack : b.stack = max a.stack 1
  fuel : b.fuel = a.fuel + 2
  back : b.back = a.back
  slots : b.slots = a.slots
  cells : b.cells = a.cells
theorem NRe.see {a b : Nds} (h : NRe a b) (i : In) (k : Nat) : NRe (vSee a i k) (vSee b i k) := by
  obtain ⟨h1, h2, h3, h4, h5⟩ := h
  unfold vSee
  simp only
  split
  · exact ⟨by simp only; omega, by simp only; omega, h3, by simp only; rw [h4], h5⟩
  split
  · exact ⟨by simp only; omega, by simp only; omega, h3, h4, by simp only; rw [h5]⟩
  split
  · exact ⟨by simp only; omega, by simp only; omega, by simp only; rw [h3], h4, h5⟩
  · exact ⟨by simp only; omega, by simp only; omega, h3, h4, h5⟩
theorem NRe.need {a b : Nds} (h : NRe a b) (day : Int) (c : List In) : ∀ k, NRe (vNeed a day c k) (vNeed b day c k)
  | 0 => h
  | k + 1 => by
    have ih := NRe.need h day c k
    simp only [vNeed]
    exact ih.see _ _
theorem need_same {nd : Nds} {day : Int} {c d : List In} (hl : c.length ≤ d.length) : ∀ k, (∀ j, j < k → c.getD j default = d.getD j default) → (vRun day c k).1 = 0 → vNeed nd day d k = vNeed nd day c k
  | 0, _, _ => rfl
  | k + 1, hs, h => by
    have h0 := vRun_before h (Nat.le_succ k)
    have ih := need_same hl k (fun j hj => hs j (by omega)) h0 (nd := nd)
    have e := vRun_same (k + 1) hl hs h
    simp only [vNeed]
    rw [ih, e, hs k (by omega)]
theorem see_plain {m : Nds} {i : In} {h : Nat} (hi : i.o = 0 ∨ i.o = 2 ∨ i.o = 8) : vSee m i h = { m with stack := max m.stack h, fuel := m.fuel + 1 } := by
  unfold vSee
  simp only
  rw [if_neg (by omega), if_neg (by omega), if_neg (by omega)]
theorem pad_run {day : Int} {c : List In} (hn : 2 ≤ c.length) (h : (vRun day c c.length).1 = 0) (he : (c.getD (c.length - 1) default).o = 0) (nd : Nds) : (vRun day (padC c) (padC c).length).1 = 0 ∧ NRe (vNeed nd day c c.length) (vNeed nd day (padC c) (padC c).length) := by
  have pl := padC_len c (by omega)
  have old : ∀ j, j < c.length - 1 → c.getD j default = (padC c).getD j default := fun j hj => (padC_old c hj).symm
  have h1 := vRun_before h (show c.length - 1 ≤ c.length by omega)
  have hh := h
  rw [show c.length = c.length - 1 + 1 by omega, vRun_succ h1] at hh
  simp only at hh
  obtain ⟨_, s, s1, s2, _, _⟩ := vPass_gro hh
  have st0 : s.st = [] := by
    unfold vDo at s2
    simp only at s2
    rw [he] at s2
    split at s2
    · simp at s2
    · rename_i z
      have : ¬ (0 < s.st.length) := fun q => z (.inr ⟨rfl, q⟩)
      exact List.eq_nil_of_length_eq_zero (by omega)
  have r := vRun_same (c.length - 1) (d := padC c) (by omega) old h1
  have n1 := vRun_none (c.length - 1) h1 c.length (by omega) (by omega)
  have n2 := vRun_none (c.length - 1) h1 (c.length + 1) (by omega) (by omega)
  have nd0 := need_same (nd := nd) (day := day) (d := padC c) (c := c) (by omega) (c.length - 1) old h1
  have nd1 : vNeed nd day c c.length = vSee (vNeed nd day c (c.length - 1)) (c.getD (c.length - 1) default) (vHt (vRun day c (c.length - 1 + 1)).2.2 (c.length - 1)) := by
    conv => lhs; rw [show c.length = c.length - 1 + 1 by omega]
    simp only [vNeed]
  have ht1 : vHt (vRun day c (c.length - 1 + 1)).2.2 (c.length - 1) = 0 := by
    rw [vRun_succ h1]
    simp only [vHt]
    rw [vPass_old (Nat.le_refl _), s1]
    simp [st0]
  rw [ht1, see_plain (.inl he)] at nd1
  have a0 := padC_at c (by omega) 0 (by omega)
  have a1 := padC_at c (by omega) 1 (by omega)
  have a2 := padC_at c (by omega) 2 (by omega)
  rw [Nat.add_zero] at a0
  rw [show c.length - 1 + 1 = c.length by omega] at a1
  rw [show c.length - 1 + 2 = c.length + 1 by omega] at a2
  simp only [List.getD_cons_zero, List.getD_cons_succ] at a0 a1 a2
  generalize vNeed nd day c (c.length - 1) = m at *
  generalize hlr : (vRun day c (c.length - 1)).2.2 = l at *
  have hr0 : (vRun day (padC c) (c.length - 1)).1 = 0 := by rw [r]; exact h1
  have e1 := vRun_succ hr0
  rw [r, a0, hlr, pl] at e1
  have p1 : vPass day (c.length + 2) ⟨2, 1, 0⟩ (c.length - 1) l = (0, vSet l c.length (some ⟨[2], s.sl⟩)) := by
    unfold vPass
    rw [s1]
    have d1 : vDo day s ⟨2, 1, 0⟩ = (0, ⟨[2], s.sl⟩) := by
      unfold vDo
      simp [st0, tkA, tkL, wtA, wtL, vTak, psA, psL]
    simp only [d1]
    unfold vOn
    rw [show c.length - 1 + 1 = c.length by omega, n1]
    simp [isJ, vNx, vHand]
  rw [p1, show c.length - 1 + 1 = c.length by omega] at e1
  have e2 := vRun_succ (day := day) (code := padC c) (k := c.length) (by rw [e1])
  rw [e1, a1, pl] at e2
  simp only at e2
  have p2 : vPass day (c.length + 2) ⟨8, 0, 0⟩ c.length (vSet l c.length (some ⟨[2], s.sl⟩)) = (0, vSet (vSet l c.length (some ⟨[2], s.sl⟩)) (c.length + 1) (some ⟨[], s.sl⟩)) := by
    unfold vPass
    rw [show vSet l c.length (some ⟨[2], s.sl⟩) c.length = some ⟨[2], s.sl⟩ by simp [vSet]]
    have d1 : vDo day ⟨[2], s.sl⟩ ⟨8, 0, 0⟩ = (0, ⟨[], s.sl⟩) := by
      unfold vDo
      simp [tkA, tkL, wtA, wtL, vTak, psA, psL]
    simp only [d1]
    unfold vOn
    rw [show vSet l c.length (some ⟨[2], s.sl⟩) (c.length + 1) = none by simp [vSet, n2]]
    simp [isJ, vNx, vHand]
  rw [p2] at e2
  have e3 := vRun_succ (day := day) (code := padC c) (k := c.length + 1) (by rw [e2])
  rw [e2, a2, pl] at e3
  simp only at e3
  generalize hl2 : vSet (vSet l c.length (some ⟨[2], s.sl⟩)) (c.length + 1) (some ⟨[], s.sl⟩) = l2 at *
  have at2 : l2 (c.length + 1) = some ⟨[], s.sl⟩ := by rw [← hl2]; simp [vSet]
  have p3 : (vPass day (c.length + 2) ⟨0, 0, 0⟩ (c.length + 1) l2).1 = 0 := by
    unfold vPass
    rw [at2]
    have d1 : vDo day ⟨[], s.sl⟩ ⟨0, 0, 0⟩ = (0, ⟨[], s.sl⟩) := by
      unfold vDo
      simp [tkA, tkL, wtA, wtL, vTak, psA, psL]
    simp only [d1]
    unfold vOn
    simp [isJ, vNx]
  refine ⟨by rw [pl, show c.length + 2 = c.length + 1 + 1 by omega, e3]; exact p3, ?_⟩
  have q3 : vNeed nd day (padC c) (padC c).length = vSee (vSee (vSee m ⟨2, 1, 0⟩ 0) ⟨8, 0, 0⟩ 1) ⟨0, 0, 0⟩ 0 := by
    rw [pl]
    have f1 : vNeed nd day (padC c) c.length = vSee m ⟨2, 1, 0⟩ 0 := by
      conv => lhs; rw [show c.length = c.length - 1 + 1 by omega]
      simp only [vNeed]
      rw [nd0, a0, show c.length - 1 + 1 = c.length by omega, e1]
      congr 1
      simp only [vHt, vSet]
      rw [if_neg (by omega), s1]
      simp [st0]
    have f2 : vNeed nd day (padC c) (c.length + 1) = vSee (vSee m ⟨2, 1, 0⟩ 0) ⟨8, 0, 0⟩ 1 := by
      simp only [vNeed]
      rw [f1, a1, e2]
      congr 1
      rw [← hl2]
      simp [vHt, vSet]
    show vNeed nd day (padC c) (c.length + 1 + 1) = _
    rw [vNeed, f2, a2, e3]
    congr 1
    simp only [vHt]
    rw [vPass_old (Nat.le_refl _), at2]
    rfl
  rw [q3, nd1, see_plain (i := ⟨2, 1, 0⟩) (.inr (.inl rfl)), see_plain (i := ⟨8, 0, 0⟩) (.inr (.inr rfl)), see_plain (i := ⟨0, 0, 0⟩) (.inl rfl)]
  exact ⟨by simp only; omega, by simp only; omega, rfl, rfl, rfl⟩
/-- Days that are those of another program, but that one segment is padded. -/
structure PadR (sg : Nat) (l m : List Sg) : Prop where
  len : m.length = l.length
  lt : sg < l.length
  day : ∀ j, (m.getD j default).day = (l.getD j default).day
  old : ∀ j, j ≠ sg → (m.getD j default).code = (l.getD j default).code
  pad : (m.getD sg default).code = padC (l.getD sg default).code
theorem pad_all {sg : Nat} {l m : List Sg} (h : PadR sg l m) (ok : ∀ d, d < l.length → SgOk (l.getD d default)) : ∀ d, d ≤ l.length → (vAll l d).1 = 0 → (vAll m d).1 = 0 ∧ (d ≤ sg → (vAll m d).2.2.2 = (vAll l d).2.2.2) ∧ (sg < d → NRe (vAll l d).2.2.2 (vAll m d).2.2.2)
  | 0, _, _ => ⟨rfl, fun _ => rfl, fun q => by omega⟩
  | d + 1, hd, h1 => by
    have h0 := vAll_before h1 (Nat.le_succ d)
    obtain ⟨i1, i2, i3⟩ := pad_all h ok d (by omega) h0
    have e1 := vAll_succ h0
    have e2 := vAll_succ i1
    rw [e1] at h1
    simp only at h1
    rw [e1, e2, h.day d]
    simp only
    by_cases q : d = sg
    · subst q
      rw [h.pad, i2 (Nat.le_refl _)]
      have o := ok d (by omega)
      obtain ⟨z1, z2⟩ := pad_run (day := (l.getD d default).day) o.two h1 ((o.ok _ (by have := o.two; omega)).2.2 (by have := o.two; omega)) (vAll l d).2.2.2
      exact ⟨z1, fun q => by omega, fun _ => z2⟩
    · rw [h.old d q]
      refine ⟨h1, fun z => ?_, fun z => ?_⟩
      · rw [i2 (by omega)]
      · exact (i3 (by omega)).need _ _ _
theorem pad_tot {sg : Nat} {l m : List Sg} (h : PadR sg l m) (ok : ∀ d, d < l.length → SgOk (l.getD d default)) : ∀ d, d ≤ l.length → totN m d = totN l d + if sg < d then 2 else 0
  | 0, _ => by simp [totN]
  | d + 1, hd => by
    have ih := pad_tot h ok d (by omega)
    rw [totN_next (l := m) (by rw [h.len]; omega), totN_next (l := l) (by omega), ih]
    by_cases q : d = sg
    · subst q
      rw [h.pad, padC_len _ (by have := (ok d (by omega)).two; omega), if_neg (by omega), if_pos (by omega)]
      omega
    · rw [h.old d q]
      by_cases z : sg < d
      · rw [if_pos z, if_pos (by omega)]; omega
      · rw [if_neg z, if_neg (by omega)]; omega
theorem pad_marks {op : Int} (ho : op ≠ 0 ∧ op ≠ 2 ∧ op ≠ 8) (c : List In) (hn : 1 ≤ c.length) (he : (c.getD (c.length - 1) default).o = 0) (bs : List Bool) : (padC c).foldl (mkB op) bs = c.foldl (mkB op) bs := by
  have e : c = c.take (c.length - 1) ++ [c.getD (c.length - 1) default] := by
    have := List.take_succ_eq_append_getElem (l := c) (i := c.length - 1) (by omega)
    rw [show c.length - 1 + 1 = c.length by omega, List.take_length] at this
    simpa [List.getD, show c.length - 1 < c.length by omega] using this
  conv => rhs; rw [e]
  unfold padC
  rw [List.foldl_append, List.foldl_append]
  simp only [List.foldl_cons, List.foldl_nil, mkB]
  rw [he, if_neg (Ne.symm ho.1), if_neg (Ne.symm ho.2.1), if_neg (Ne.symm ho.2.2)]
  rw [if_neg (Ne.symm ho.1)]
theorem pad_mkAll {op : Int} (ho : op ≠ 0 ∧ op ≠ 2 ∧ op ≠ 8) {sg : Nat} {l m : List Sg} (h : PadR sg l m) (ok : ∀ d, d < l.length → SgOk (l.getD d default)) (bs : List Bool) : mkAll op m bs = mkAll op l bs := by
  have key : ∀ d, d ≤ l.length → mkAll op (m.take d) bs = mkAll op (l.take d) bs := by
    intro d
    induction d with
    | zero => intro _; simp [mkAll]
    | succ d ih =>
      intro hd
      rw [mkAll_next _ _ _ _ (by rw [h.len]; omega), mkAll_next _ _ _ _ (by omega), ih (by omega)]
      by_cases q : d = sg
      · subst q
        have o := ok d (by omega)
        rw [h.pad]
        exact pad_marks ho _ (by have := o.two; omega) ((o.ok _ (by have := o.two; omega)).2.2 (by have := o.two; omega)) _
      · rw [h.old d q]
  have := key l.length (Nat.le_refl _)
  rw [List.take_length] at this
  rw [← this, ← h.len, List.take_length]
/-- The padded program is canonical, unless it has too many instructions. -/
theorem pad_can {p q : Pg} {sg : Nat} (h : PadR sg p.days q.days) (hc : canP p) (e1 : q.names = p.names) (e2 : q.curs = p.curs) (e3 : q.pool = p.pool) (e4 : q.hor = p.hor) (e5 : q.cells = p.cells) (e6 : q.slots = p.slots) (e7 : q.stack = max p.stack 1) (ht : totN p.days p.days.length + 2 ≤ 262144) : canP q := by
  obtain ⟨c1, c2, c3, c4⟩ := id hc
  have ok : ∀ d, d < p.days.length → SgOk (p.days.getD d default) := fun d hd => sg_ok hc hd
  refine ⟨?_, ?_, ?_, ?_⟩
  · unfold numP wB at c1 ⊢
    simp only [Bool.and_eq_true, decide_eq_true_eq] at c1 ⊢
    rw [e4, e5, e6, e7]
    omega
  · unfold lstP
    rw [e1, e2, e3]
    exact c2
  · refine ⟨fun i hi => ?_, ?_⟩
    · rw [h.len] at hi
      have := c3.1 i hi
      unfold dayI at this ⊢
      rw [h.day i, e4]
      have pe : preD q.days i = preD p.days i := by
        cases i with
        | zero => rfl
        | succ i => simp only [preD]; exact h.day i
      rw [pe]
      exact this
    · have t := pad_tot h ok p.days.length (Nat.le_refl _)
      rw [if_pos h.lt] at t
      rw [h.len, t]
      exact ht
  · have inE : ∀ i, inB p i → inB q i := fun i hi => by
      unfold inB at hi ⊢
      rw [e1, e2, e3, e5, e6]
      exact hi
    refine ⟨fun i hi => ?_, ?_⟩
    · rw [h.len] at hi
      have c := c4.1 i hi
      by_cases z : i = sg
      · subst z
        rw [h.pad]
        have o := ok i hi
        have tw := o.two
        have pl := padC_len (p.days.getD i default).code (by have := o.two; omega)
        refine ⟨by omega, fun n hn => ?_⟩
        by_cases y : n < (p.days.getD i default).code.length - 1
        · have := c.2 n (by omega)
          unfold insI at this ⊢
          rw [padC_old _ y]
          refine ⟨⟨fun q => ?_, fun q => by omega⟩, this.2.1, inE _ this.2.2⟩
          have := this.1.1 q
          omega
        · obtain ⟨j, hj, rfl⟩ : ∃ j, j < 3 ∧ n = (p.days.getD i default).code.length - 1 + j := ⟨n - ((p.days.getD i default).code.length - 1), by omega, by omega⟩
          unfold insI
          rw [padC_at _ (by omega) j hj, pl]
          rcases (show j = 0 ∨ j = 1 ∨ j = 2 by omega) with rfl | rfl | rfl
          · refine ⟨⟨fun q => by simp at q, fun q => by omega⟩, by decide, by unfold inB; simp⟩
          · refine ⟨⟨fun q => by simp at q, fun q => by omega⟩, by decide, by unfold inB; simp⟩
          · refine ⟨⟨fun q => by omega, fun q => by simp⟩, by decide, by unfold inB; simp⟩
      · rw [h.old i z]
        exact ⟨c.1, fun n hn => ⟨(c.2 n hn).1, (c.2 n hn).2.1, inE _ (c.2 n hn).2.2⟩⟩
    · rw [pad_mkAll (by decide) h ok, pad_mkAll (by decide) h ok, pad_mkAll (by decide) h ok, e1, e2, e3]
      exact c4.2
/-- P1401, P1403. -/
theorem pad_vfy {p q : Pg} {sg : Nat} (h : PadR sg p.days q.days) (hv : (vfyA p).1 = 0) (e5 : q.cells = p.cells) (e6 : q.slots = p.slots) (e7 : q.stack = max p.stack 1) (hq : canP q) : (vfyA q).1 = 0 ∧ (vfyA q).2.2.2.stack = max p.stack 1 ∧ (vfyA q).2.2.2.fuel = (vfyA p).2.2.2.fuel + 2 ∧ (vfyA q).2.2.2.back = (vfyA p).2.2.2.back := by
  obtain ⟨cp, ev⟩ := vfyA_canV hv
  obtain ⟨o1, o2, o3⟩ := vfy_ok (p := p) (by rw [← ev]; exact hv)
  obtain ⟨a1, _, a3⟩ := pad_all h (fun d hd => sg_ok cp hd) p.days.length (Nat.le_refl _) o1
  have n := a3 h.lt
  rw [ev, o3]
  rw [← h.len] at a1 n
  have e : vfyA q = vfy q := by unfold vfyA; rw [if_pos hq]
  rw [e]
  rw [h.len] at n
  have ft : vFit (vAll q.days q.days.length).2.2.2 q := by
    obtain ⟨f1, f2, f3⟩ := o2
    rw [h.len]
    exact ⟨by rw [e7, n.stack, f1], by rw [e6, n.slots, f2], by rw [e5, n.cells, f3]⟩
  have ee : vfy q = (0, 0, 0, (vAll q.days q.days.length).2.2.2) := by
    unfold vfy
    rw [if_neg (by simpa using a1), if_pos ft]
  rw [ee, h.len]
  exact ⟨rfl, by rw [n.stack, o2.1], n.fuel, n.back⟩
theorem pad_fuel {p : Pg} (hv : (vfyA p).1 = 0) : (vfyA p).2.2.2.fuel = (totN p.days p.days.length : Int) := by
  obtain ⟨cp, ev⟩ := vfyA_canV hv
  obtain ⟨o1, o2, o3⟩ := vfy_ok (p := p) (by rw [← ev]; exact hv)
  rw [ev, o3]
  exact all_fuel _ (Nat.le_refl _) o1
end Go.Proofs.YteedkcmjhdabeaaDoor

namespace Go.Proofs.YteedkcmjhdabeaaDoor
open Go.RowKit
set_option linter.unusedVariables false
set_option linter.unusedSimpArgs false
def zcs (l : List Int) : List Value := l.map (fun n => .int .i64 n)
theorem zcs_len (l : List Int) : (zcs l).length = l.length := by simp [zcs]
theorem zcs_append (a b : List Int) : zcs (a ++ b) = zcs a ++ zcs b := by simp [zcs]
theorem zcs_one (l : List Int) : ∀ u ∈ zcs l, u.oneCell' = true := by
  intro u hu
  simp only [zcs, List.mem_map] at hu
  obtain ⟨n, _, rfl⟩ := hu
  rfl
theorem infoZ : (Tryd.prog.info? 3).map (fun i => (i.zero, i.size, i.bytes)) = some (some (.int .i64 0), 1, 8) := by kernel_rfl
/-- A row of ints that lies in a block of its own. -/
def OwZ (w : World) (B : Nat) (v : Value) (l : List Int) : Prop := w.ownsRow B 3 1 v l.length (zcs l)
theorem OwZ.nil (w : World) (B : Nat) : OwZ w B (.slice none 0 0) [] := World.ownsRow_nil _ _ _ _
theorem OwZ.made (w : World) (B cap : Nat) (cur : Array Value) (hb : B ≤ w.heap.size) (hm : cap ≤ maxLen) (hs : cur.size = cap) : OwZ (w.alloc (.cells cur 3)) B (.slice (some ⟨w.heap.size, 0, none⟩) 0 cap) [] := World.ownsRow_made w cur cap hb hm (by omega)
theorem OwZ.form {w : World} {B : Nat} {v : Value} {l : List Int} (h : OwZ w B v l) : ∃ a cap, v = .slice a l.length cap ∧ l.length ≤ cap ∧ (l ≠ [] → ∃ g, a = some ⟨g, 0, none⟩ ∧ B ≤ g ∧ g < w.heap.size) := by
  rcases h.2 with ⟨rfl, h0⟩ | ⟨g, cap, cur, rfl, e2, e3, e4, _⟩
  · have : l = [] := List.length_eq_zero_iff.1 h0
    subst this
    exact ⟨none, 0, rfl, Nat.le_refl _, fun q => absurd rfl q⟩
  · exact ⟨_, cap, rfl, e4, fun _ => ⟨g, rfl, e2, (Array.getElem?_eq_some_iff.1 e3).1⟩⟩
theorem OwZ.cell {w : World} {B g cap n : Nat} {l : List Int} (h : OwZ w B (.slice (some ⟨g, 0, none⟩) n cap) l) {i : Nat} (hi : i < l.length) : w.cell? ⟨g, i, none⟩ = some (.int .i64 (l.getD i 0)) := by
  rcases h.2 with ⟨e, _⟩ | ⟨g', cap', cur, e, e2, e3, e4, e5, e6, e7⟩
  · injection e with e; cases e
  · injection e with e _ _
    injection e with e
    injection e with e
    subst e
    have q : (zcs l)[i]? = some (.int .i64 (l.getD i 0)) := by simp [zcs, List.getD, hi]
    rw [← e7, List.getElem?_take_of_lt (by omega)] at q
    simp only [World.cell?, e3]
    simpa using q
theorem OwZ.frozen {w : World} {B g cap n : Nat} {l : List Int} (h : OwZ w B (.slice (some ⟨g, 0, none⟩) n cap) l) (i : Nat) : w.frozen? ⟨g, i, none⟩ = false := by
  rcases h.2 with ⟨e, _⟩ | ⟨g', cap', cur, e, e2, e3, e4, e5, e6, e7⟩
  · injection e with e; cases e
  · injection e with e _ _
    injection e with e
    injection e with e
    subst e
    simp [World.frozen?, e3]
/-- Cut to its first k. -/
theorem OwZ.cut {w : World} {B g cap n : Nat} {l : List Int} (h : OwZ w B (.slice (some ⟨g, 0, none⟩) n cap) l) {k : Nat} (hk : k ≤ l.length) : OwZ w B (.slice (some ⟨g, 0, none⟩) k cap) (l.take k) := by
  rcases h.2 with ⟨e, _⟩ | ⟨g', cap', cur, e, e2, e3, e4, e5, e6, e7⟩
  · injection e with e; cases e
  · injection e with e en ec
    injection e with e
    injection e with e
    subst e ec
    have hl : (l.take k).length = k := by simp; omega
    refine ⟨by rw [zcs_len]; omega, .inr ⟨g, cap, cur, by rw [hl], e2, e3, by omega, e5, e6, ?_⟩⟩
    rw [hl]
    have : zcs (l.take k) = (zcs l).take k := by simp [zcs]
    rw [this, ← e7, List.take_take]
    congr 1
    omega
theorem OwZ.later {w w' : World} {B C : Nat} {v : Value} {l : List Int} (h : OwZ w B v l) (b : Below w.heap.size w w') (hC : C ≤ B) : OwZ w' C v l := by
  refine ⟨h.1, ?_⟩
  rcases h.2 with h | ⟨g, cap, cur, rfl, e2, e3, e4⟩
  · exact .inl h
  · exact .inr ⟨g, cap, cur, rfl, by omega, (b.block g (Array.getElem?_eq_some_iff.1 e3).1).trans e3, e4⟩
theorem OwZ.lat {w w' : World} {B : Nat} {v : Value} {l : List Int} (h : OwZ w B v l) (b : Below w.heap.size w w') : OwZ w' B v l := h.later b (Nat.le_refl _)
theorem OwZ.grown {w w' : World} {B : Nat} {v : Value} {l : List Int} {r : Option Nat} (h : OwZ w B v l) (g : w.grownBy w' r) (hr : v.ownBlock = none ∨ v.ownBlock ≠ r) : OwZ w' B v l := World.ownsRow.kept h g hr
theorem OwZ.blk {w w' : World} {B : Nat} {v : Value} {l : List Int} (h : OwZ w B v l) (hb : ∀ g, v.ownBlock = some g → w'.heap[g]? = w.heap[g]?) : OwZ w' B v l := by
  refine ⟨h.1, ?_⟩
  rcases h.2 with hn | ⟨g, cap, cur, rfl, hB, hg, rest⟩
  · exact .inl hn
  · exact .inr ⟨g, cap, cur, rfl, hB, by rw [hb g rfl]; exact hg, rest⟩
theorem OwZ.own {w : World} {B : Nat} {v : Value} {l : List Int} (h : OwZ w B v l) : ∀ g, v.ownBlock = some g → B ≤ g ∧ g < w.heap.size := World.ownsRow.lt h
/-- 'l = append(l, more...)'. -/
theorem wp_ints {ops : Array Oper} {rest : List Oper} {o : Oper} {a : Act} {Q : Exit → Act → World → Prop} (w : World) (hgd : o.guard = none) (s y : Operand)
    (ho : o.op = .call { callee := .builtin .append, args := #[s, y], argTypes := #[23, 23] }) (B C : Nat) (v u : Value) (l k : List Int) (hs : a.eval s = v) (hy : a.eval y = u)
    (hv : OwZ w B v l) (hu : OwZ w C u k) (hl : l.length + k.length ≤ 4398046511000) (hb : B ≤ w.heap.size)
    (h : ∀ v' w', OwZ w' B v' (l ++ k) → w.grownBy w' v.ownBlock → wpList Tryd.prog ops Q rest (a.put o.dst v') w') : wpList Tryd.prog ops Q (o :: rest) a w := by
  obtain ⟨i0, hi, hz0, hz1, hz2⟩ := info_parts infoZ
  have hlen : k.length * 1 = (zcs k).length := by rw [zcs_len]; omega
  rcases hu.2 with ⟨rfl, h0⟩ | ⟨g, cap, cur, rfl, e2, e3, e4, e5, e6, e7⟩
  · have : k = [] := List.length_eq_zero_iff.1 h0
    subst this
    exact wpList_append_own_none hgd s y 23 ho B 3 i0 1 Tryd.underlying23 hi v l.length (zcs l) hs hv hy (h v w (by rw [List.append_nil]; exact hv) ⟨rfl, rfl, rfl, Nat.le_refl _, fun _ _ _ => rfl⟩)
  · refine wpList_append_own _ hgd s y 23 ho B 3 i0 (.int .i64 0) 1 8 Tryd.underlying23 hi hz0 hz1 hz2 rfl (by decide) v _ _ hs hv ⟨g, 0, none⟩ k.length cap (zcs k) hy hlen.symm ?_ (zcs_one k) (by unfold maxLen; omega) (by omega) hb ?_
    · intro j u' hj
      have hj' : j < k.length * 1 := by rw [hlen]; exact (List.getElem?_eq_some_iff.1 hj).1
      rw [Addr.add_lit, Nat.zero_add]
      simp only [World.cell?, e3]
      rw [← e7, List.getElem?_take_of_lt hj'] at hj
      simpa using hj
    · intro v' w' h1 h2 _
      refine h v' w' ?_ h2
      unfold OwZ
      rw [zcs_append, List.length_append]
      exact h1
theorem OwZ.lit (w : World) (B : Nat) (x : Int) (hb : B ≤ w.heap.size) : OwZ (w.alloc (.cells #[.int .i64 x] 3)) B (.slice (some ⟨w.heap.size, 0, none⟩) 1 1) [x] :=
  ⟨rfl, .inr ⟨w.heap.size, 1, #[.int .i64 x], rfl, hb, heapN _ _, Nat.le_refl _, by unfold maxLen; omega, rfl, rfl⟩⟩
theorem own_blkG {w w' : World} {B : Nat} {t : TypeId} {k : Nat} {v : Value} {n : Nat} {xs : List Value} (h : w.ownsRow B t k v n xs) (hb : ∀ g, v.ownBlock = some g → w'.heap[g]? = w.heap[g]?) : w'.ownsRow B t k v n xs := by
  refine ⟨h.1, ?_⟩
  rcases h.2 with hn | ⟨g, cap, cur, rfl, hB, hg, rest⟩
  · exact .inl hn
  · exact .inr ⟨g, cap, cur, rfl, hB, by rw [hb g rfl]; exact hg, rest⟩
/-- Rows and boxes of unlike types lie in unlike blocks. -/
theorem own_neB {w : World} {B : Nat} {t u : TypeId} {k : Nat} {v : Value} {n : Nat} {xs : List Value} (h : w.ownsRow B t k v n xs) {b : Nat} {cs : Array Value} (hb : BkP w b cs u) (ne : t ≠ u) : v.ownBlock ≠ some b := by
  intro e
  rcases h.2 with ⟨rfl, _⟩ | ⟨g, cap, cur, rfl, hB, hg, rest⟩
  · cases e
  · simp only [Value.ownBlock, Option.some.injEq] at e
    subst e
    exact bk_ne (W := w) hg hb ne rfl
theorem own_neO {w : World} {B C : Nat} {t u : TypeId} {k j : Nat} {v v' : Value} {n m : Nat} {xs ys : List Value} (h : w.ownsRow B t k v n xs) (h' : w.ownsRow C u j v' m ys) (ne : t ≠ u) : v.ownBlock = none ∨ v.ownBlock ≠ v'.ownBlock := by
  rcases h'.2 with ⟨rfl, _⟩ | ⟨g, cap, cur, rfl, hB, hg, rest⟩
  · cases e : v.ownBlock with
    | none => exact .inl rfl
    | some x => exact .inr (by simp [Value.ownBlock])
  · exact .inr (own_neB h (b := g) (cs := cur) hg ne)
end Go.Proofs.YteedkcmjhdabeaaDoor

namespace Go.Proofs.YteedkcmjhdabeaaDoor
open Go.RowKit
set_option linter.unusedVariables false
set_option linter.unusedSimpArgs false
def flatV (n : Nat) (V : Nat → List Value) : List Value := (List.range n).flatMap V
theorem flatV_len {k : Nat} (V : Nat → List Value) : ∀ n, (∀ i, i < n → (V i).length = k) → (flatV n V).length = n * k
  | 0, _ => by simp [flatV]
  | n + 1, h => by
    have ih := flatV_len V n (fun i hi => h i (by omega))
    unfold flatV at ih ⊢
    rw [List.range_succ, List.flatMap_append, List.length_append, ih]
    simp [h n (by omega), Nat.add_mul]
theorem flatV_at {k : Nat} (hk : 0 < k) (V : Nat → List Value) : ∀ n, (∀ i, i < n → (V i).length = k) → ∀ i, i < n → ∀ j, j < k → (flatV n V)[i * k + j]? = (V i)[j]?
  | 0, _, i, hi, _, _ => by omega
  | n + 1, h, i, hi, j, hj => by
    have ih := flatV_at hk V n (fun i hi => h i (by omega))
    have len := flatV_len (k := k) V n (fun i hi => h i (by omega))
    unfold flatV at ih len ⊢
    rw [List.range_succ, List.flatMap_append]
    by_cases e : i = n
    · subst e
      rw [List.getElem?_append_right (by omega), len, show i * k + j - i * k = j by omega]
      simp
    · have lt : i < n := by omega
      have b : i * k + j < n * k := by
        have : (i + 1) * k ≤ n * k := Nat.mul_le_mul_right k lt
        rw [Nat.add_mul, Nat.one_mul] at this
        omega
      rw [List.getElem?_append_left (by rw [len]; exact b)]
      exact ih i lt j hj
/-- The cells of a row, for an append. -/
theorem row_news {w : World} {x o n k : Nat} {V : Nat → List Value} (hk : 0 < k) (hV : ∀ i, i < n → (V i).length = k) (h : ∀ i, i < n → ∀ j, j < k → w.cell? ⟨x, o + i * k + j, none⟩ = some ((V i).getD j default)) : ∀ j u, (flatV n V)[j]? = some u → w.cell? ((⟨x, o, none⟩ : Addr).add j) = some u := by
  intro j u hj
  have lt : j < n * k := by have := (List.getElem?_eq_some_iff.1 hj).1; rw [flatV_len V n hV] at this; exact this
  have e : j = (j / k) * k + j % k := by have := Nat.div_add_mod j k; rw [Nat.mul_comm] at this; omega
  have i1 : j / k < n := (Nat.div_lt_iff_lt_mul hk).2 lt
  have i2 : j % k < k := Nat.mod_lt _ hk
  rw [e, flatV_at hk V n hV _ i1 _ i2] at hj
  rw [Addr.add_lit, e, ← Nat.add_assoc, h _ i1 _ i2]
  have : (V (j / k)).getD (j % k) default = u := by simp [List.getD, hj]
  rw [this]
/-- What an own row holds, cell by cell. -/
theorem own_row {w : World} {B g cap n k : Nat} {t : TypeId} {V : Nat → List Value} (hk : 0 < k) (hV : ∀ i, i < n → (V i).length = k) (h : w.ownsRow B t k (.slice (some ⟨g, 0, none⟩) n cap) n (flatV n V)) : (∃ cur, BkP w g cur t ∧ cur.size = cap * k) ∧ B ≤ g ∧ g < w.heap.size ∧ n ≤ cap ∧ cap ≤ maxLen ∧ ∀ i, i < n → ∀ j, j < k → w.cell? ⟨g, 0 + i * k + j, none⟩ = some ((V i).getD j default) := by
  rcases h.2 with ⟨e, _⟩ | ⟨g', cap', cur, e, e2, e3, e4, e5, e6, e7⟩
  · injection e with e; cases e
  · injection e with e en ec
    injection e with e
    injection e with e
    subst e ec
    refine ⟨⟨cur, e3, e6⟩, e2, (Array.getElem?_eq_some_iff.1 e3).1, e4, e5, fun i hi j hj => ?_⟩
    have b : i * k + j < n * k := by
      have : (i + 1) * k ≤ n * k := Nat.mul_le_mul_right k hi
      rw [Nat.add_mul, Nat.one_mul] at this
      omega
    have q := flatV_at hk V n hV i hi j hj
    rw [← e7, List.getElem?_take_of_lt b] at q
    rw [Nat.zero_add]
    have l : j < (V i).length := by rw [hV i hi]; exact hj
    simp only [World.cell?, e3]
    rw [List.getElem?_eq_getElem l] at q
    have g2 : (V i).getD j default = (V i)[j] := by simp [List.getD, l]
    rw [g2]
    simpa using q
def sgV (days : List Sg) (i : Nat) : List Value := (days.getD i default).cs
theorem sgV_len (days : List Sg) (i : Nat) : (sgV days i).length = 2 := rfl
def inW (c : List In) (i : Nat) : List Value := icell (c.getD i default)
theorem inW_len (c : List In) (i : Nat) : (inW c i).length = 3 := rfl
theorem flatV_one (V : Nat → List Value) {k : Nat} (n : Nat) (hV : ∀ i, i < n → ∀ u ∈ V i, u.oneCell' = true) : ∀ u ∈ flatV n V, u.oneCell' = true := by
  intro u hu
  unfold flatV at hu
  rw [List.mem_flatMap] at hu
  obtain ⟨i, hi, hu⟩ := hu
  exact hV i (List.mem_range.1 hi) u hu
theorem sgV_one (days : List Sg) (i : Nat) : ∀ u ∈ sgV days i, u.oneCell' = true := by
  intro u hu
  simp [sgV, Sg.cs] at hu
  rcases hu with rfl | rfl <;> rfl
theorem inW_one (c : List In) (i : Nat) : ∀ u ∈ inW c i, u.oneCell' = true := by
  intro u hu
  simp [inW, icell] at hu
  rcases hu with rfl | rfl | rfl <;> rfl
theorem infoSg : (Tryd.prog.info? 36).map (fun i => (i.zero, i.size, i.bytes)) = some (some (.agg #[.int .i64 0, .slice none 0 0]), 2, 32) := by kernel_rfl
theorem infoIn : (Tryd.prog.info? 38).map (fun i => (i.zero, i.size, i.bytes)) = some (some (.agg #[.int .i64 0, .int .i64 0, .int .i64 0]), 3, 24) := by kernel_rfl
/-- 'append([]api.Segment{}, days...)'. -/
theorem wp_segs {ops : Array Oper} {rest : List Oper} {o : Oper} {a : Act} {Q : Exit → Act → World → Prop} (w : World) (hgd : o.guard = none) (s y : Operand)
    (ho : o.op = .call { callee := .builtin .append, args := #[s, y], argTypes := #[24, 24] }) (B x ox N dc : Nat) (days : List Sg) (H : Nat) (hH : w.heap.size = H) (hs : a.eval s = .slice (some ⟨H, 0, none⟩) 0 0) (hy : a.eval y = .slice (some ⟨x, ox, none⟩) N dc)
    (hN : days.length = N) (h0 : 0 < N) (hN2 : N ≤ 4398046510976) (hc : ∀ V, Below w.heap.size w V → ∀ i, i < N → ∀ j, j < 2 → V.cell? ⟨x, ox + i * 2 + j, none⟩ = some ((sgV days i).getD j default)) (hb : B ≤ w.heap.size)
    (h : ∀ g cap w', w'.ownsRow B 36 2 (.slice (some ⟨g, 0, none⟩) N cap) N (flatV N (sgV days)) → (w.alloc (.cells #[] 36)).grownBy w' (some w.heap.size) → wpList Tryd.prog ops Q rest (a.put o.dst (.slice (some ⟨g, 0, none⟩) N cap)) w') :
    wpList Tryd.prog ops Q (o :: rest) a (w.alloc (.cells #[] 36)) := by
  subst hH
  obtain ⟨i0, hi, hz0, hz1, hz2⟩ := info_parts infoSg
  refine wpList_append_lies _ hgd s y 24 ho B 36 i0 (.agg #[.int .i64 0, .slice none 0 0]) 2 32 Tryd.underlying24 hi hz0 hz1 hz2 rfl (by decide) _ 0 [] hs (World.ownsRow_made w #[] 0 hb (by unfold maxLen; omega) rfl) ⟨x, ox, none⟩ N dc (flatV N (sgV days)) hy (flatV_len _ _ (fun i _ => sgV_len days i)) (row_news (by omega) (fun i _ => sgV_len days i) (hc _ (allocBP _ _))) (flatV_one (k := 2) _ _ (fun i _ => sgV_one days i)) h0 (by unfold maxLen; omega) (by omega) (by simp; omega) (w.heap.size + 1) (by simp) ?_
  intro g cap w' h1 h2 _ _
  rw [Nat.zero_add, List.nil_append] at h1
  rw [Nat.zero_add]
  exact h g cap w' h1 h2
/-- 'append(own, code...)', where the order is drawn. -/
theorem step_code {ops : Array Oper} {o : Oper} {a : Act} {K : Act → World → Prop} {Q : Exit → Act → World → Prop} {E : Prop} (w : World) (hgd : o.guard = none) (s y : Operand)
    (ho : o.op = .call { callee := .builtin .append, args := #[s, y], argTypes := #[34, 34] }) (B : Nat) (v : Value) (n0 : Nat) (xs : List Value) (x ox m c : Nat) (code : List In) (hs : a.eval s = v) (hy : a.eval y = .slice (some ⟨x, ox, none⟩) m c)
    (hown : w.ownsRow B 38 3 v n0 xs) (h0 : 0 < m) (hm : n0 + m ≤ 5864062014700) (hc : ∀ i, i < m → ∀ j, j < 3 → w.cell? ⟨x, ox + i * 3 + j, none⟩ = some ((inW code i).getD j default)) (hb : B ≤ w.heap.size) (H : Nat) (hH : w.heap.size = H)
    (h : ∀ g cap w', w'.ownsRow B 38 3 (.slice (some ⟨g, 0, none⟩) (n0 + m) cap) (n0 + m) (xs ++ flatV m (inW code)) → w.grownBy w' v.ownBlock → (v.ownBlock = some g ∨ g = H) → g < w'.heap.size → K (a.put o.dst (.slice (some ⟨g, 0, none⟩) (n0 + m) cap)) w') :
    if Region.wanted o (yielded ops a.tmps) = true then Oper.wp Tryd.prog o a w K Q else E := by
  obtain ⟨i0, hi, hz0, hz1, hz2⟩ := info_parts infoIn
  exact step_append_lies w hgd s y 34 ho B 38 i0 (.agg #[.int .i64 0, .int .i64 0, .int .i64 0]) 3 24 Tryd.underlying34 hi hz0 hz1 hz2 rfl (by decide) v n0 xs hs hown ⟨x, ox, none⟩ m c (flatV m (inW code)) hy (flatV_len _ _ (fun i _ => inW_len code i)) (row_news (by omega) (fun i _ => inW_len code i) hc) (flatV_one (k := 3) _ _ (fun i _ => inW_one code i)) h0 (by unfold maxLen; omega) (by omega) hb H hH h
end Go.Proofs.YteedkcmjhdabeaaDoor
