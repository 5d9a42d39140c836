import Derived.Test.YtpfjnnkjoabgbaaGreatDoorXAB
import Derived.Test.YtpfjnnkjoabgbaaGreatDoorXAA
import Derived.WalkKit
import Derived.Laws.BitsAllLaws
import Derived.Test.YtpfjnnkjoabgbaaGreatDoorRows
import Derived.WalkSpells
import Derived.Lib.Mul64
namespace Go.Proofs.YtpfjnnkjoabgbaaGreatDoor
set_option linter.unusedVariables false
set_option linter.unusedSimpArgs false
/-- The first d segments: the error, the segment, the place, the needs. -/
def vAll (days : List Sg) : Nat → Int × Nat × Nat × Nds
  | 0 => (0, 0, 0, ⟨0, 0, 0, 0, 0⟩)
  | d + 1 =>
    if (vAll days d).1 ≠ 0 then vAll days d
    else ((vRun (days.getD d default).day (days.getD d default).code (days.getD d default).code.length).1, d, (vRun (days.getD d default).day (days.getD d default).code (days.getD d default).code.length).2.1, vNeed (vAll days d).2.2.2 (days.getD d default).day (days.getD d default).code (days.getD d default).code.length)
def vFit (n : Nds) (p : Pg) : Prop := p.stack = n.stack ∧ p.slots = n.slots ∧ p.cells = n.cells
instance (n : Nds) (p : Pg) : Decidable (vFit n p) := by unfold vFit; exact inferInstance
/-- Verify of a canonical program. -/
def vfy (p : Pg) : Int × Nat × Nat × Nds :=
  if (vAll p.days p.days.length).1 ≠ 0 then ((vAll p.days p.days.length).1, (vAll p.days p.days.length).2.1, (vAll p.days p.days.length).2.2.1, ⟨0, 0, 0, 0, 0⟩)
  else if vFit (vAll p.days p.days.length).2.2.2 p then (0, 0, 0, (vAll p.days p.days.length).2.2.2)
  else (147, p.days.length, 0, ⟨0, 0, 0, 0, 0⟩)
theorem vHand_err {t : Option Vs} {s : Vs} : (vHand t s).1 = 0 ∨ (vHand t s).1 = 142 ∨ (vHand t s).1 = 143 := by
  unfold vHand
  cases t with
  | none => exact .inl rfl
  | some t =>
    simp only
    split
    · exact .inr (.inl rfl)
    split
    · exact .inr (.inr rfl)
    · exact .inl rfl
theorem vDo_err {day : Int} {s : Vs} {i : In} : (vDo day s i).1 = 0 ∨ (142 ≤ (vDo day s i).1 ∧ (vDo day s i).1 ≤ 145) := by
  unfold vDo
  simp only
  repeat' split
  all_goals simp
theorem vNx_err {i : In} {t : Option Vs} {s : Vs} : (vNx i t s).1 = 0 ∨ (vNx i t s).1 = 142 ∨ (vNx i t s).1 = 143 := by
  unfold vNx
  split
  · exact .inl rfl
  · exact vHand_err
theorem vOn_err {n k : Nat} {i : In} {s : Vs} {l : Nat → Option Vs} : (vOn n i k s l).1 = 0 ∨ (141 ≤ (vOn n i k s l).1 ∧ (vOn n i k s l).1 ≤ 143) := by
  unfold vOn
  split
  · right; simp
  split
  · have := vNx_err (i := i) (t := l (k + 1)) (s := s)
    simp only
    omega
  split
  · have := vHand_err (t := vSet l (k + 1) (vNx i (l (k + 1)) s).2 (k + 1 + i.a.toNat)) (s := s)
    simp only
    omega
  · exact .inl rfl
theorem vPass_err {day : Int} {n k : Nat} {i : In} {l : Nat → Option Vs} : (vPass day n i k l).1 = 0 ∨ (141 ≤ (vPass day n i k l).1 ∧ (vPass day n i k l).1 ≤ 146) := by
  unfold vPass
  cases hk : l k with
  | none => right; simp
  | some s =>
    simp only
    split
    · have := vDo_err (day := day) (s := s) (i := i)
      simp only
      omega
    · have := vOn_err (n := n) (k := k) (i := i) (s := (vDo day s i).2) (l := l)
      omega
/-- An instruction that does not jump behind the code does the same in longer code. -/
theorem vOn_len {n m k : Nat} {i : In} {s : Vs} {l : Nat → Option Vs} (h : (vOn n i k s l).1 ≠ 141) (hm : n ≤ m) : vOn m i k s l = vOn n i k s l := by
  by_cases e : isJ i ∧ n ≤ k + 1 + i.a.toNat
  · exact absurd (by unfold vOn; rw [if_pos e]) h
  · have e2 : ¬ (isJ i ∧ m ≤ k + 1 + i.a.toNat) := fun q => e ⟨q.1, by omega⟩
    unfold vOn
    rw [if_neg e, if_neg e2]
theorem vPass_len {day : Int} {n m k : Nat} {i : In} {l : Nat → Option Vs} (h : (vPass day n i k l).1 ≠ 141) (hm : n ≤ m) : vPass day m i k l = vPass day n i k l := by
  unfold vPass at h ⊢
  cases hk : l k with
  | none => rfl
  | some s =>
    rw [hk] at h
    simp only at h ⊢
    split
    · rfl
    · rename_i z
      rw [if_neg z] at h
      exact vOn_len h hm
theorem vRun_same {day : Int} {c d : List In} : ∀ k, c.length ≤ d.length → (∀ j, j < k → c.getD j default = d.getD j default) → (vRun day c k).1 = 0 → vRun day d k = vRun day c k
  | 0, _, _, _ => rfl
  | k + 1, hl, hs, h => by
    have h0 := vRun_before h (Nat.le_succ k)
    have ih := vRun_same k hl (fun j hj => hs j (by omega)) h0
    have e1 := vRun_succ h0
    have e2 := vRun_succ (code := d) (day := day) (k := k) (by rw [ih]; exact h0)
    rw [e1] at h
    simp only at h
    rw [e1, e2, ih, ← hs k (by omega), vPass_len (by rw [h]; decide) hl]
/-- Where the first error lies. -/
theorem vRun_at {day : Int} {c : List In} : ∀ k, (vRun day c k).1 ≠ 0 → (vRun day c k).2.1 < k ∧ (vRun day c (vRun day c k).2.1).1 = 0 ∧ vRun day c ((vRun day c k).2.1 + 1) = vRun day c k
  | 0, h => absurd rfl h
  | k + 1, h => by
    by_cases e : (vRun day c k).1 = 0
    · have e1 := vRun_succ e
      rw [e1]
      exact ⟨Nat.lt_succ_self _, e, e1⟩
    · have e1 := vRun_stop e (k + 1) (Nat.le_succ k)
      rw [e1]
      obtain ⟨a, b, c⟩ := vRun_at k e
      exact ⟨by omega, b, c⟩
theorem vRun_first {day : Int} {c d : List In} (hl : c.length ≤ d.length) (h : (vRun day c c.length).1 ≠ 0) (h1 : (vRun day c c.length).1 ≠ 141) (hs : ∀ j, j < (vRun day c c.length).2.1 + 1 → c.getD j default = d.getD j default) :
    vRun day d d.length = vRun day c c.length := by
  obtain ⟨a, b, e⟩ := vRun_at c.length h
  generalize hi : (vRun day c c.length).2.1 = i at *
  have r := vRun_same i hl (fun j hj => hs j (by omega)) b
  have e1 := vRun_succ b
  have e2 := vRun_succ (code := d) (day := day) (k := i) (by rw [r]; exact b)
  have q : vRun day d (i + 1) = vRun day c (i + 1) := by
    rw [e2, r, ← hs i (by omega), e1]
    have g : (vPass day c.length (c.getD i default) i (vRun day c i).2.2).1 ≠ 141 := by
      intro z
      rw [e1] at e
      exact h1 (by rw [← e]; exact z)
    rw [vPass_len g hl]
  have z : (vRun day d (i + 1)).1 ≠ 0 := by rw [q, e]; exact h
  rw [vRun_stop z d.length (by omega), q, e]
theorem vAll_stop {l : List Sg} {k : Nat} (h : (vAll l k).1 ≠ 0) : ∀ m, k ≤ m → vAll l m = vAll l k
  | 0, hm => by rw [show k = 0 by omega]
  | m + 1, hm => by
    by_cases e : k = m + 1
    · rw [e]
    · have ih := vAll_stop h m (by omega)
      simp only [vAll]
      rw [ih, if_pos h]
theorem vAll_before {l : List Sg} {m : Nat} (h : (vAll l m).1 = 0) {k : Nat} (hk : k ≤ m) : (vAll l k).1 = 0 := by
  by_cases e : (vAll l k).1 = 0
  · exact e
  · rw [vAll_stop e m hk] at h
    exact absurd h e
theorem vAll_succ {l : List Sg} {d : Nat} (h : (vAll l d).1 = 0) : vAll l (d + 1) = ((vRun (l.getD d default).day (l.getD d default).code (l.getD d default).code.length).1, d, (vRun (l.getD d default).day (l.getD d default).code (l.getD d default).code.length).2.1, vNeed (vAll l d).2.2.2 (l.getD d default).day (l.getD d default).code (l.getD d default).code.length) := by
  simp [vAll, h]
theorem vAll_at {l : List Sg} : ∀ k, (vAll l k).1 ≠ 0 → (vAll l k).2.1 < k ∧ (vAll l (vAll l k).2.1).1 = 0 ∧ vAll l ((vAll l k).2.1 + 1) = vAll l k
  | 0, h => absurd rfl h
  | k + 1, h => by
    by_cases e : (vAll l k).1 = 0
    · have e1 := vAll_succ e
      rw [e1]
      exact ⟨Nat.lt_succ_self _, e, e1⟩
    · have e1 := vAll_stop e (k + 1) (Nat.le_succ k)
      rw [e1]
      obtain ⟨a, b, c⟩ := vAll_at k e
      exact ⟨by omega, b, c⟩
theorem vAll_same {l m : List Sg} : ∀ k, (∀ j, j < k → (l.getD j default).day = (m.getD j default).day ∧ (l.getD j default).code = (m.getD j default).code) → vAll m k = vAll l k
  | 0, _ => rfl
  | k + 1, h => by
    have ih := vAll_same k (fun j hj => h j (by omega)) (l := l) (m := m)
    obtain ⟨h1, h2⟩ := h k (by omega)
    simp only [vAll]
    rw [ih, ← h1, ← h2]
/-- P1404. -/
theorem vfy_first {p q : Pg} (h1 : 141 < (vfy p).1) (h2 : (vfy p).1 ≤ 146) (hs : (vfy p).2.1 < q.days.length) (hd : (p.days.getD (vfy p).2.1 default).day = (q.days.getD (vfy p).2.1 default).day)
    (hl : (p.days.getD (vfy p).2.1 default).code.length ≤ (q.days.getD (vfy p).2.1 default).code.length)
    (hc : ∀ j, j < (vfy p).2.2.1 + 1 → (p.days.getD (vfy p).2.1 default).code.getD j default = (q.days.getD (vfy p).2.1 default).code.getD j default)
    (hb : ∀ d, d < (vfy p).2.1 → (p.days.getD d default).day = (q.days.getD d default).day ∧ (p.days.getD d default).code = (q.days.getD d default).code) : vfy q = vfy p := by
  by_cases e : (vAll p.days p.days.length).1 = 0
  · exfalso
    unfold vfy at h1 h2
    rw [if_neg (by simpa using e)] at h1 h2
    split at h1
    · simp at h1
    · rename_i z; rw [if_neg z] at h2; simp at h2
  · have ev : vfy p = ((vAll p.days p.days.length).1, (vAll p.days p.days.length).2.1, (vAll p.days p.days.length).2.2.1, ⟨0, 0, 0, 0, 0⟩) := by unfold vfy; rw [if_pos e]
    rw [ev] at h1 h2 hs hd hl hc hb
    simp only at h1 h2 hs hd hl hc hb
    obtain ⟨a, b, c⟩ := vAll_at p.days.length e
    generalize hsg : (vAll p.days p.days.length).2.1 = s at *
    have c0 := vAll_succ b
    rw [c] at c0
    have r := vAll_same s hb
    have c1 := vAll_succ (l := q.days) (d := s) (by rw [r]; exact b)
    rw [c0] at h1 h2 hc e
    simp only at h1 h2 hc e
    have f := vRun_first hl e (by omega) hc
    rw [← hd, f] at c1
    have z : (vAll q.days (s + 1)).1 ≠ 0 := by rw [c1]; exact e
    have g := vAll_stop z q.days.length (by omega)
    rw [ev]
    unfold vfy
    rw [g, if_pos z, c1, c0]
end Go.Proofs.YtpfjnnkjoabgbaaGreatDoor

namespace Go.Proofs.YtpfjnnkjoabgbaaGreatDoor
set_option linter.unusedVariables false
set_option linter.unusedSimpArgs false
/-- No state is higher than k. -/
def Hle (k : Nat) (l : Nat → Option Vs) : Prop := ∀ j u, l j = some u → u.st.length ≤ k
theorem vDo_high {day : Int} {s : Vs} {i : In} : (vDo day s i).2.st.length ≤ s.st.length + 1 := by
  unfold vDo
  simp only
  repeat' split
  all_goals simp only [List.length_cons, List.length_drop]
  all_goals omega
theorem vHand_high {t : Option Vs} {s : Vs} {k : Nat} (ht : ∀ u, t = some u → u.st.length ≤ k) (hs : s.st.length ≤ k) : ∀ u, (vHand t s).2 = some u → u.st.length ≤ k := by
  intro u hu
  unfold vHand at hu
  cases t with
  | none => simp at hu; subst hu; exact hs
  | some t =>
    have ht := ht t rfl
    simp only at hu
    split at hu
    · simp at hu; subst hu; exact ht
    split at hu
    · simp at hu; subst hu; exact ht
    · simp at hu
      subst hu
      exact ht
theorem vSet_high {l : Nat → Option Vs} {k t : Nat} {v : Option Vs} (hl : Hle k l) (hv : ∀ u, v = some u → u.st.length ≤ k) : Hle k (vSet l t v) := by
  intro j u h
  unfold vSet at h
  split at h
  · exact hv u h
  · exact hl j u h
theorem vOn_high {n k m : Nat} {i : In} {s : Vs} {l : Nat → Option Vs} (hl : Hle m l) (hs : s.st.length ≤ m) : Hle m (vOn n i k s l).2 := by
  have h1 : ∀ u, (vNx i (l (k + 1)) s).2 = some u → u.st.length ≤ m := by
    intro u hu
    unfold vNx at hu
    split at hu
    · exact hl _ u hu
    · exact vHand_high (fun u hu => hl _ u hu) hs u hu
  have l1 := vSet_high (t := k + 1) hl h1
  unfold vOn
  generalize vNx i (l (k + 1)) s = h at *
  split
  · exact hl
  · split
    · exact hl
    · split
      · exact vSet_high l1 (vHand_high (fun u hu => l1 _ u hu) hs)
      · exact l1
theorem vPass_high {day : Int} {n k m : Nat} {i : In} {l : Nat → Option Vs} (hl : Hle m l) : Hle (m + 1) (vPass day n i k l).2 := by
  have up : Hle (m + 1) l := fun j u e => Nat.le_succ_of_le (hl j u e)
  unfold vPass
  cases hk : l k with
  | none => exact up
  | some s =>
    simp only
    split
    · exact up
    · rename_i h
      exact vOn_high up (Nat.le_trans vDo_high (by have := hl k s hk; omega))
theorem vRun_high {day : Int} {code : List In} : ∀ k, Hle k (vRun day code k).2.2
  | 0 => by
    intro j u h
    simp only [vRun, vStart] at h
    split at h
    · simp at h; subst h; simp
    · cases h
  | k + 1 => by
    have ih := vRun_high (day := day) (code := code) k
    simp only [vRun]
    split
    · exact fun j u e => Nat.le_succ_of_le (ih j u e)
    · exact vPass_high ih
end Go.Proofs.YtpfjnnkjoabgbaaGreatDoor

namespace Go.Proofs.YtpfjnnkjoabgbaaGreatDoor
set_option linter.unusedVariables false
set_option linter.unusedSimpArgs false
/-- What is known (t) holds of a state (s): the same stack, and the slots that it names are kept so. -/
def Cov (s t : Vs) : Prop := t.st = s.st ∧ ∀ y, t.sl y ≠ 0 → s.sl y = t.sl y
theorem Cov.refl (s : Vs) : Cov s s := ⟨rfl, fun _ _ => rfl⟩
theorem Cov.trans {s t u : Vs} (h : Cov s t) (g : Cov t u) : Cov s u := ⟨g.1.trans h.1, fun y hy => by
  have e := g.2 y hy
  rw [← e]
  exact h.2 y (by rw [e]; exact hy)⟩
theorem meet_cov {s t : Vs} (h : t.st = s.st) : Cov s ⟨t.st, vMeet t.sl s.sl⟩ ∧ Cov t ⟨t.st, vMeet t.sl s.sl⟩ := by
  refine ⟨⟨h, fun y hy => ?_⟩, ⟨rfl, fun y hy => ?_⟩⟩
  · simp only [vMeet] at hy ⊢
    by_cases e : t.sl y = s.sl y
    · rw [if_pos e, e]
    · rw [if_neg e] at hy; exact absurd rfl hy
  · simp only [vMeet] at hy ⊢
    by_cases e : t.sl y = s.sl y
    · rw [if_pos e]
    · rw [if_neg e] at hy; exact absurd rfl hy
theorem vHand_cov {t : Option Vs} {s : Vs} (h : (vHand t s).1 = 0) : ∃ u, (vHand t s).2 = some u ∧ Cov s u ∧ ∀ t0, t = some t0 → Cov t0 u := by
  unfold vHand at h ⊢
  cases t with
  | none => exact ⟨s, rfl, Cov.refl s, fun t0 e => by cases e⟩
  | some t =>
    simp only at h ⊢
    split at h
    · simp at h
    split at h
    · simp at h
    rename_i n1 n2
    rw [if_neg n1, if_neg n2]
    have e : t.st = s.st := by simpa using n2
    obtain ⟨c1, c2⟩ := meet_cov e
    exact ⟨_, rfl, c1, fun t0 q => by cases q; exact c2⟩
/-- Each state is still known, or less of it. -/
def Gro (l m : Nat → Option Vs) : Prop := ∀ j t, l j = some t → ∃ u, m j = some u ∧ Cov t u
theorem Gro.refl (l : Nat → Option Vs) : Gro l l := fun j t h => ⟨t, h, Cov.refl t⟩
theorem Gro.trans {l m n : Nat → Option Vs} (h : Gro l m) (g : Gro m n) : Gro l n := fun j t e => by
  obtain ⟨u, e1, c1⟩ := h j t e
  obtain ⟨v, e2, c2⟩ := g j u e1
  exact ⟨v, e2, c1.trans c2⟩
theorem vSet_gro {l : Nat → Option Vs} {k : Nat} {s : Vs} (h : (vHand (l k) s).1 = 0) : Gro l (vSet l k (vHand (l k) s).2) := by
  intro j t e
  obtain ⟨u, e1, c1, c2⟩ := vHand_cov h
  unfold vSet
  by_cases q : j = k
  · subst q
    rw [if_pos rfl]
    exact ⟨u, e1, c2 t e⟩
  · rw [if_neg q]
    exact ⟨t, e, Cov.refl t⟩
theorem vSet_self {l : Nat → Option Vs} {k : Nat} : vSet l k (l k) = l := by
  funext j
  unfold vSet
  split
  · rename_i e; rw [e]
  · rfl
theorem vNx_gro {i : In} {l : Nat → Option Vs} {k : Nat} {s : Vs} (h : (vNx i (l k) s).1 = 0) : Gro l (vSet l k (vNx i (l k) s).2) ∧ (¬ (i.o = 26 ∨ i.o = 0) → ∃ u, (vNx i (l k) s).2 = some u ∧ Cov s u) := by
  unfold vNx at h ⊢
  by_cases e : i.o = 26 ∨ i.o = 0
  · rw [if_pos e]
    simp only
    rw [vSet_self]
    exact ⟨Gro.refl l, fun q => absurd e q⟩
  · rw [if_neg e] at h ⊢
    obtain ⟨u, e1, c1, c2⟩ := vHand_cov h
    exact ⟨vSet_gro h, fun _ => ⟨u, e1, c1⟩⟩
theorem vOn_gro {n k : Nat} {i : In} {s : Vs} {l : Nat → Option Vs} (h : (vOn n i k s l).1 = 0) : Gro l (vOn n i k s l).2 ∧ (¬ (i.o = 26 ∨ i.o = 0) → ∃ u, (vOn n i k s l).2 (k + 1) = some u ∧ Cov s u) ∧ (isJ i → k + 1 + i.a.toNat < n ∧ ∃ u, (vOn n i k s l).2 (k + 1 + i.a.toNat) = some u ∧ Cov s u) := by
  unfold vOn at h ⊢
  by_cases a : isJ i ∧ n ≤ k + 1 + i.a.toNat
  · rw [if_pos a] at h
    simp at h
  rw [if_neg a] at h ⊢
  by_cases b : (vNx i (l (k + 1)) s).1 ≠ 0
  · rw [if_pos b] at h
    exact absurd h b
  rw [if_neg b] at h ⊢
  have b0 : (vNx i (l (k + 1)) s).1 = 0 := by simpa using b
  obtain ⟨g1, g2⟩ := vNx_gro b0
  generalize vNx i (l (k + 1)) s = x at *
  have at1 : (vSet l (k + 1) x.2) (k + 1) = x.2 := by simp [vSet]
  by_cases c : isJ i
  · rw [if_pos c] at h ⊢
    simp only at h ⊢
    generalize hm : vSet l (k + 1) x.2 = m at *
    obtain ⟨u, e1, c1, c2⟩ := vHand_cov h
    refine ⟨g1.trans (vSet_gro h), fun q => ?_, fun _ => ⟨by simp only [not_and] at a; have := a c; omega, u, ?_, c1⟩⟩
    · obtain ⟨v, e2, c3⟩ := g2 q
      obtain ⟨z, e3, c4⟩ := vSet_gro h (k + 1) v (by rw [at1, e2])
      exact ⟨z, e3, c3.trans c4⟩
    · simp only [vSet, if_true]
      exact e1
  · rw [if_neg c]
    simp only
    refine ⟨g1, fun q => ?_, fun q => absurd q c⟩
    obtain ⟨v, e2, c3⟩ := g2 q
    exact ⟨v, by rw [at1, e2], c3⟩
theorem vPass_gro {day : Int} {n k : Nat} {i : In} {l : Nat → Option Vs} (h : (vPass day n i k l).1 = 0) : Gro l (vPass day n i k l).2 ∧ ∃ s, l k = some s ∧ (vDo day s i).1 = 0 ∧ (¬ (i.o = 26 ∨ i.o = 0) → ∃ u, (vPass day n i k l).2 (k + 1) = some u ∧ Cov (vDo day s i).2 u) ∧ (isJ i → k + 1 + i.a.toNat < n ∧ ∃ u, (vPass day n i k l).2 (k + 1 + i.a.toNat) = some u ∧ Cov (vDo day s i).2 u) := by
  unfold vPass at h ⊢
  cases hk : l k with
  | none => rw [hk] at h; simp at h
  | some s =>
    rw [hk] at h
    simp only at h ⊢
    by_cases e : (vDo day s i).1 ≠ 0
    · rw [if_pos e] at h
      exact absurd h e
    · rw [if_neg e] at h ⊢
      obtain ⟨g, a, b⟩ := vOn_gro h
      exact ⟨g, s, rfl, by simpa using e, a, b⟩
theorem vRun_gro {day : Int} {code : List In} {k : Nat} : ∀ m, k ≤ m → (vRun day code m).1 = 0 → Gro (vRun day code k).2.2 (vRun day code m).2.2
  | 0, hm, _ => by rw [show k = 0 by omega]; exact Gro.refl _
  | m + 1, hm, h => by
    by_cases e : k = m + 1
    · rw [e]; exact Gro.refl _
    · have h0 := vRun_before h (Nat.le_succ m)
      have ih := vRun_gro m (by omega) h0 (day := day) (code := code) (k := k)
      have e1 := vRun_succ h0
      rw [e1] at h ⊢
      exact ih.trans (vPass_gro h).1
/-- The states that are known of code that is taken. -/
def vL (day : Int) (code : List In) : Nat → Option Vs := (vRun day code code.length).2.2
theorem vL_start {day : Int} {code : List In} (h : (vRun day code code.length).1 = 0) : ∃ t, vL day code 0 = some t ∧ Cov ⟨[], fun _ => 0⟩ t := by
  obtain ⟨u, e, c⟩ := vRun_gro (day := day) (code := code) (k := 0) code.length (by omega) h 0 ⟨[], fun _ => 0⟩ (by simp [vRun, vStart])
  exact ⟨u, e, c⟩
/-- An instruction of code that is taken, in a state that is known. -/
theorem vL_step {day : Int} {code : List In} (h : (vRun day code code.length).1 = 0) {k : Nat} (hk : k < code.length) :
    ∃ s, vL day code k = some s ∧ (vDo day s (code.getD k default)).1 = 0 ∧ (¬ ((code.getD k default).o = 26 ∨ (code.getD k default).o = 0) → ∃ u, vL day code (k + 1) = some u ∧ Cov (vDo day s (code.getD k default)).2 u) ∧
      (isJ (code.getD k default) → k + 1 + (code.getD k default).a.toNat < code.length ∧ ∃ u, vL day code (k + 1 + (code.getD k default).a.toNat) = some u ∧ Cov (vDo day s (code.getD k default)).2 u) := by
  have h1 := vRun_before h (show k + 1 ≤ code.length by omega)
  have h0 := vRun_before h (show k ≤ code.length by omega)
  have e1 := vRun_succ h0
  have g := vRun_gro (day := day) (code := code) (k := k + 1) code.length (by omega) h
  have o := vRun_old (day := day) (code := code) (k := k + 1) (j := k) (by omega) code.length (by omega)
  rw [e1] at h1 g o
  simp only at h1 g o
  obtain ⟨_, s, s1, s2, s3, s4⟩ := vPass_gro h1
  rw [vPass_old (Nat.le_refl k)] at o
  refine ⟨s, by unfold vL; rw [o]; exact s1, s2, fun q => ?_, fun q => ?_⟩
  · obtain ⟨u, u1, u2⟩ := s3 q
    obtain ⟨v, v1, v2⟩ := g _ _ u1
    exact ⟨v, v1, u2.trans v2⟩
  · obtain ⟨z, u, u1, u2⟩ := s4 q
    obtain ⟨v, v1, v2⟩ := g _ _ u1
    exact ⟨z, v, v1, u2.trans v2⟩
/-- What goes well in what is known goes well. -/
theorem vDo_cov {day : Int} {s t : Vs} {i : In} (c : Cov s t) (h : (vDo day t i).1 = 0) : (vDo day s i).1 = 0 ∧ Cov (vDo day s i).2 (vDo day t i).2 := by
  obtain ⟨c1, c2⟩ := c
  unfold vDo at h ⊢
  simp only at h ⊢
  rw [c1] at h ⊢
  split at h
  · simp at h
  rename_i n1
  rw [if_neg n1]
  split at h
  · simp at h
  rename_i n2
  rw [if_neg n2]
  rw [if_neg n1, if_neg n2]
  by_cases e6 : i.o.toNat = 6
  · rw [if_pos e6, if_pos e6]
    refine ⟨rfl, rfl, fun y hy => ?_⟩
    simp only [vKeep] at hy ⊢
    by_cases q : y = i.a.toNat
    · rw [if_pos q, if_pos q]
    · rw [if_neg q] at hy ⊢
      rw [if_neg q]
      exact c2 y hy
  rw [if_neg e6] at h ⊢
  rw [if_neg e6]
  by_cases e7 : i.o.toNat = 7
  · rw [if_pos e7] at h ⊢
    rw [if_pos e7]
    split at h
    · simp at h
    rename_i z
    have q := c2 _ z
    rw [if_neg z, q, if_neg z]
    exact ⟨rfl, rfl, c2⟩
  rw [if_neg e7] at h ⊢
  rw [if_neg e7]
  split at h
  · simp at h
  rename_i n3
  rw [if_neg n3, if_neg n3]
  split
  · exact ⟨rfl, rfl, c2⟩
  · exact ⟨rfl, rfl, c2⟩
end Go.Proofs.YtpfjnnkjoabgbaaGreatDoor

namespace Go.Proofs.YtpfjnnkjoabgbaaGreatDoor
open Go.RowKit

/-- A fact, kept out of the walk's sight. -/
theorem veil {p : Prop} (h : p) : Hid p := h
theorem unveil {p : Prop} (h : Hid p) : p := h

/-- A number of 64 bits. -/
def inR (n : Int) : Prop := -9223372036854775808 ≤ n ∧ n ≤ 9223372036854775807
/-- The number that a checked call tells, and its fault. -/
def fitV (n : Int) : Int := if -9223372036854775808 ≤ n ∧ n ≤ 9223372036854775807 then n else 0
def fitF (n : Int) : Int := if -9223372036854775808 ≤ n ∧ n ≤ 9223372036854775807 then 0 else 1

theorem fitV_in {n : Int} (h : inR n) : fitV n = n := by unfold inR at h; unfold fitV; rw [if_pos h]
theorem fitF_in {n : Int} (h : inR n) : fitF n = 0 := by unfold inR at h; unfold fitF; rw [if_pos h]
theorem fitV_out {n : Int} (h : ¬ inR n) : fitV n = 0 := by unfold inR at h; unfold fitV; rw [if_neg h]
theorem fitF_out {n : Int} (h : ¬ inR n) : fitF n = 1 := by unfold inR at h; unfold fitF; rw [if_neg h]
theorem fitV_bd (n : Int) : inR (fitV n) := by unfold fitV inR; split <;> omega
theorem fitF_bd (n : Int) : 0 ≤ fitF n ∧ fitF n ≤ 1 := by unfold fitF; split <;> omega
theorem wf_inR {n : Int} (h : (Lit.int .i64 n).wf = true) : inR n := by
  simp [Lit.wf, IntKind.min, IntKind.max, IntKind.bits, IntKind.signed] at h
  unfold inR; omega

/-! ### the sign, by bits -/
theorem msb_ofInt (n : Int) (h : inR n) : (BitVec.ofInt 64 n).msb = decide (n < 0) := by
  unfold inR at h
  rw [BitVec.msb_eq_decide, BitVec.toNat_ofInt]
  by_cases hn : n < 0
  · rw [decide_eq_true hn, decide_eq_true]; omega
  · rw [decide_eq_false hn, decide_eq_false]; omega
theorem wrap_neg (x : BitVec 64) : (IntKind.i64.wrap (x.toNat : Int) < 0) ↔ x.msb = true := by
  have hx := x.isLt
  rw [IntKind.wrap_i64, BitVec.msb_eq_decide]
  simp only [decide_eq_true_eq]
  omega
theorem wrap_inR (n : Int) : inR (IntKind.i64.wrap n) := by
  rw [IntKind.wrap_i64]; unfold inR; omega
theorem wrap64_inR (n : Int) : inR (wrap64 n) := by unfold wrap64 inR; omega
theorem wrap64_id {n : Int} (h : inR n) : wrap64 n = n := by unfold wrap64; unfold inR at h; omega
theorem xor_inR (a b : Int) : inR (bits .xor .i64 a b) := wrap_inR _
theorem and_inR (a b : Int) : inR (bits .and .i64 a b) := wrap_inR _
theorem xor_neg (a b : Int) (ha : inR a) (hb : inR b) : (bits .xor .i64 a b < 0) ↔ (a < 0 ∧ 0 ≤ b ∨ 0 ≤ a ∧ b < 0) := by
  refine (wrap_neg (BitVec.ofInt 64 a ^^^ BitVec.ofInt 64 b)).trans ?_
  rw [BitVec.msb_xor, msb_ofInt a ha, msb_ofInt b hb]
  by_cases h1 : a < 0 <;> by_cases h2 : b < 0 <;> simp [h1, h2] <;> omega
theorem and_neg (a b : Int) (ha : inR a) (hb : inR b) : (bits .and .i64 a b < 0) ↔ (a < 0 ∧ b < 0) := by
  refine (wrap_neg (BitVec.ofInt 64 a &&& BitVec.ofInt 64 b)).trans ?_
  rw [BitVec.msb_and, msb_ofInt a ha, msb_ofInt b hb]
  by_cases h1 : a < 0 <;> by_cases h2 : b < 0 <;> simp [h1, h2]

/-- Add's test. -/
theorem add_test (a b : Int) (ha : inR a) (hb : inR b) :
    (bits .and .i64 (bits .xor .i64 a (wrap64 (a + b))) (bits .xor .i64 b (wrap64 (a + b))) < 0) ↔ ¬ inR (a + b) := by
  rw [and_neg _ _ (xor_inR _ _) (xor_inR _ _), xor_neg a _ ha (wrap64_inR _), xor_neg b _ hb (wrap64_inR _)]
  unfold inR at *; unfold wrap64; omega
/-- Sub's test. -/
theorem sub_test (a b : Int) (ha : inR a) (hb : inR b) :
    (bits .and .i64 (bits .xor .i64 a b) (bits .xor .i64 a (wrap64 (a - b))) < 0) ↔ ¬ inR (a - b) := by
  rw [and_neg _ _ (xor_inR _ _) (xor_inR _ _), xor_neg a _ ha hb, xor_neg a _ ha (wrap64_inR _)]
  unfold inR at *; unfold wrap64; omega

end Go.Proofs.YtpfjnnkjoabgbaaGreatDoor

namespace Go.Proofs.YtpfjnnkjoabgbaaGreatDoor
open Go.RowKit

/-- A number without its sign. -/
def absI (a : Int) : Int := if a < 0 then -a else a
theorem absI_neg {a : Int} (h : a < 0) : absI a = -a := by unfold absI; rw [if_pos h]
theorem absI_pos {a : Int} (h : ¬ a < 0) : absI a = a := by unfold absI; rw [if_neg h]
theorem absI_bd (a : Int) (h : inR a) : 0 ≤ absI a ∧ absI a ≤ 9223372036854775808 := by
  unfold inR at h; unfold absI; split <;> omega
theorem absI_nonneg (a : Int) : 0 ≤ absI a := by unfold absI; split <;> omega
/-- The number of that size and sign. -/
def sgn (neg : Bool) (n : Int) : Int := if neg then -n else n
/-- Do the signs of two differ? -/
def dif (a b : Int) : Bool := decide (a < 0) != decide (b < 0)

theorem sgn_mul (a b : Int) : sgn (dif a b) (absI a * absI b) = a * b := by
  unfold sgn dif absI
  by_cases h1 : a < 0 <;> by_cases h2 : b < 0 <;> simp [h1, h2, Int.neg_mul, Int.mul_neg]
theorem dif_comm (a b : Int) : dif a b = dif b a := by
  unfold dif; by_cases h1 : a < 0 <;> by_cases h2 : b < 0 <;> simp [h1, h2]

/-- A product whose upper half is not 0 fits nowhere. -/
theorem mul_high (a b : Int) (h : 18446744073709551616 ≤ absI a * absI b) : ¬ inR (a * b) := by
  rw [← sgn_mul a b]; unfold sgn inR; split <;> omega
theorem sgn_in {neg : Bool} {n : Int} (h0 : 0 ≤ n) : inR (sgn neg n) ↔ (if neg then n ≤ 9223372036854775808 else n < 9223372036854775808) := by
  cases neg <;> simp [sgn, inR] <;> omega

end Go.Proofs.YtpfjnnkjoabgbaaGreatDoor

namespace Go.Proofs.YtpfjnnkjoabgbaaGreatDoor
open Go.RowKit

theorem add_any (a b : Int) (ha : inR a) (hb : inR b) (w : World) :
    Calls Tryz.prog 112 #[.int .i64 a, .int .i64 b] w fun e w' => e = .returned (.tuple #[.int .i64 (fitV (a + b)), .int .i64 (fitF (a + b))]) ∧ w' = w := by
  have ht := add_test a b ha hb
  by_cases h : inR (a + b)
  · rw [fitV_in h, fitF_in h]
    rw [wrap64_id h] at ht
    have h1 : ¬ (bits .and .i64 (bits .xor .i64 a (a + b)) (bits .xor .i64 b (a + b)) < 0) := fun c => ht.1 c h
    clear ht
    unfold inR at h
    obtain ⟨h2, h3⟩ := h
    go_enter Tryz.func112, Tryz.ntmps112
    go_wp2
    go_ret2
    exact ⟨rfl, rfl⟩
  · rw [fitV_out h, fitF_out h]
    have h1 := ht.2 h
    clear ht h
    go_enter Tryz.func112, Tryz.ntmps112
    go_wp2
    go_ret2
    exact ⟨rfl, rfl⟩

theorem sub_any (a b : Int) (ha : inR a) (hb : inR b) (w : World) :
    Calls Tryz.prog 114 #[.int .i64 a, .int .i64 b] w fun e w' => e = .returned (.tuple #[.int .i64 (fitV (a - b)), .int .i64 (fitF (a - b))]) ∧ w' = w := by
  have ht := sub_test a b ha hb
  by_cases h : inR (a - b)
  · rw [fitV_in h, fitF_in h]
    rw [wrap64_id h] at ht
    have h1 : ¬ (bits .and .i64 (bits .xor .i64 a b) (bits .xor .i64 a (a - b)) < 0) := fun c => ht.1 c h
    clear ht
    unfold inR at h
    obtain ⟨h2, h3⟩ := h
    go_enter Tryz.func114, Tryz.ntmps114
    go_wp2
    go_ret2
    exact ⟨rfl, rfl⟩
  · rw [fitV_out h, fitF_out h]
    have h1 := ht.2 h
    clear ht h
    go_enter Tryz.func114, Tryz.ntmps114
    go_wp2
    go_ret2
    exact ⟨rfl, rfl⟩

theorem neg_any (a : Int) (ha : inR a) (w : World) :
    Calls Tryz.prog 116 #[.int .i64 a] w fun e w' => e = .returned (.tuple #[.int .i64 (fitV (-a)), .int .i64 (fitF (-a))]) ∧ w' = w := by
  have hs := sub_any 0 a (by unfold inR; omega) ha w
  rw [Int.zero_sub] at hs
  go_enter Tryz.func116, Tryz.ntmps116
  go_wp2_with (go_at_call 114; refine hs.mono ?_; rintro e w' ⟨rfl, rfl⟩)
  go_ret2
  exact ⟨rfl, rfl⟩

end Go.Proofs.YtpfjnnkjoabgbaaGreatDoor

namespace Go.Proofs.YtpfjnnkjoabgbaaGreatDoor
open Go.RowKit

theorem ret_i {k : IntKind} {a b : Int} (h : a = b) : Ending.returned (.int k a) = .returned (.int k b) := by rw [h]
theorem ret_b {a b : Bool} (h : a = b) : Ending.returned (.bool a) = .returned (.bool b) := by rw [h]
theorem ret_ii {k l : IntKind} {a b c d : Int} (h : a = b) (g : c = d) : Ending.returned (.tuple #[.int k a, .int l c]) = .returned (.tuple #[.int k b, .int l d]) := by rw [h, g]
theorem neg_u64 (a : Int) (h : a < 0) (h1 : -9223372036854775808 ≤ a) : IntKind.u64.wrap (-IntKind.u64.wrap a) = -a := by
  rw [IntKind.wrap_u64, IntKind.wrap_u64]; omega
theorem neg_i64 (n : Int) (h0 : 0 ≤ n) (h : n ≤ 9223372036854775808) : wrap64 (IntKind.u64.wrap (-n)) = -n := by
  rw [IntKind.wrap_u64]; unfold wrap64; omega

theorem sizeOf_any (a : Int) (ha : inR a) (w : World) :
    Calls Tryz.prog 138 #[.int .i64 a] w fun e w' => e = .returned (.int .u64 (absI a)) ∧ w' = w := by
  unfold inR at ha
  obtain ⟨h1, h2⟩ := ha
  by_cases h : a < 0
  · rw [absI_neg h]
    go_enter Tryz.func138, Tryz.ntmps138
    go_wp2
    go_ret
    exact ⟨ret_i (neg_u64 a h h1), rfl⟩
  · rw [absI_pos h]
    go_enter Tryz.func138, Tryz.ntmps138
    go_wp2
    go_ret
    exact ⟨rfl, rfl⟩

theorem signed_any (n : Int) (neg : Bool) (h0 : 0 ≤ n) (h1 : n < 18446744073709551616) (w : World) :
    Calls Tryz.prog 139 #[.int .u64 n, .bool neg] w fun e w' => e = .returned (.tuple #[.int .i64 (fitV (sgn neg n)), .int .i64 (fitF (sgn neg n))]) ∧ w' = w := by
  have hs := sgn_in (neg := neg) h0
  cases neg
  · by_cases h : n < 9223372036854775808
    · have hi : inR (sgn false n) := hs.2 (by simpa using h)
      rw [fitV_in hi, fitF_in hi]
      show Calls Tryz.prog 139 #[.int .u64 n, .bool false] w fun e w' => e = .returned (.tuple #[.int .i64 n, .int .i64 0]) ∧ w' = w
      clear hs hi
      go_enter Tryz.func139, Tryz.ntmps139
      go_wp2
      go_ret2
      exact ⟨rfl, rfl⟩
    · have hi : ¬ inR (sgn false n) := fun c => h (by simpa using hs.1 c)
      rw [fitV_out hi, fitF_out hi]
      clear hs hi
      go_enter Tryz.func139, Tryz.ntmps139
      go_wp2
      go_ret2
      exact ⟨rfl, rfl⟩
  · by_cases h : n ≤ 9223372036854775808
    · have hi : inR (sgn true n) := hs.2 (by simpa using h)
      rw [fitV_in hi, fitF_in hi]
      show Calls Tryz.prog 139 #[.int .u64 n, .bool true] w fun e w' => e = .returned (.tuple #[.int .i64 (-n), .int .i64 0]) ∧ w' = w
      clear hs hi
      go_enter Tryz.func139, Tryz.ntmps139
      go_wp2
      go_ret2
      exact ⟨ret_ii (neg_i64 n h0 h) rfl, rfl⟩
    · have hi : ¬ inR (sgn true n) := fun c => h (by simpa using hs.1 c)
      rw [fitV_out hi, fitF_out hi]
      clear hs hi
      go_enter Tryz.func139, Tryz.ntmps139
      go_wp2
      go_ret2
      exact ⟨rfl, rfl⟩

/-- The two halves of a product. -/
def mulHi (x y : Int) : Int := x * y / 18446744073709551616
def mulLo (x y : Int) : Int := x * y % 18446744073709551616

theorem mask32 (a : Nat) (ha : a < 18446744073709551616) : bits .and .u64 (a : Int) 4294967295 = ((a % 4294967296 : Nat) : Int) := by
  have h := u64_and_nat a 4294967295 ha (by omega)
  rw [show a &&& 4294967295 = a % 4294967296 from Nat.and_two_pow_sub_one_eq_mod a 32] at h
  exact h
theorem keep64 (a : Nat) (ha : a < 18446744073709551616) : IntKind.u64.wrap (a : Int) = (a : Int) := by rw [IntKind.wrap_u64]; omega
theorem cut64 (a : Nat) : IntKind.u64.wrap (a : Int) = ((a % 18446744073709551616 : Nat) : Int) := by rw [IntKind.wrap_u64]; omega
theorem half (a : Nat) : (a : Int) / 4294967296 = ((a / 4294967296 : Nat) : Int) := by omega

set_option maxHeartbeats 1000000 in
theorem mul64_nat (x y : Nat) (hx : x < 18446744073709551616) (hy : y < 18446744073709551616) (w : World) :
    Calls Tryz.prog 137 #[.int .u64 x, .int .u64 y] w fun e w' => e = .returned (.tuple #[.int .u64 ((x * y / 18446744073709551616 : Nat) : Int), .int .u64 ((x * y % 18446744073709551616 : Nat) : Int)]) ∧ w' = w := by
  obtain ⟨k1, k2, k3, hhi⟩ := Lib.mul64_hi x y hx hy
  have m1 := Lib.half_mul_le (a := x / 4294967296) (b := y / 4294967296) (by omega) (by omega)
  have m2 := Lib.half_mul_le (a := x / 4294967296) (b := y % 4294967296) (by omega) (by omega)
  have m3 := Lib.half_mul_le (a := x % 4294967296) (b := y / 4294967296) (by omega) (by omega)
  have n1 := Nat.lt_of_le_of_lt m1 (show 18446744065119617025 < 18446744073709551616 by decide)
  have n2 := Nat.lt_of_le_of_lt m2 (show 18446744065119617025 < 18446744073709551616 by decide)
  have n3 := Nat.lt_of_le_of_lt m3 (show 18446744065119617025 < 18446744073709551616 by decide)
  have n4 : x / 4294967296 * (y / 4294967296) + (x / 4294967296 * (y % 4294967296) + x % 4294967296 * (y % 4294967296) / 4294967296) / 4294967296 < 18446744073709551616 := by omega
  have n5 : x / 4294967296 * (y / 4294967296) + (x / 4294967296 * (y % 4294967296) + x % 4294967296 * (y % 4294967296) / 4294967296) / 4294967296 + ((x / 4294967296 * (y % 4294967296) + x % 4294967296 * (y % 4294967296) / 4294967296) % 4294967296 + x % 4294967296 * (y / 4294967296)) / 4294967296 < 18446744073709551616 := by omega
  go_enter Tryz.func137, Tryz.ntmps137
  go_wp2
  simp only [mask32 x hx, mask32 y hy, half, ← Int.natCast_mul, ← Int.natCast_add, keep64 _ k1, keep64 _ n2, keep64 _ k2, mask32 _ k2, keep64 _ n3, keep64 _ k3, keep64 _ n1, keep64 _ n4, keep64 _ n5, cut64 (x * y)]
  rw [hhi]
  go_ret2
  exact ⟨rfl, rfl⟩

theorem mul64_any (x y : Int) (hx : 0 ≤ x) (hx' : x < 18446744073709551616) (hy : 0 ≤ y) (hy' : y < 18446744073709551616) (w : World) :
    Calls Tryz.prog 137 #[.int .u64 x, .int .u64 y] w fun e w' => e = .returned (.tuple #[.int .u64 (mulHi x y), .int .u64 (mulLo x y)]) ∧ w' = w := by
  obtain ⟨x, rfl⟩ := Int.eq_ofNat_of_zero_le hx
  obtain ⟨y, rfl⟩ := Int.eq_ofNat_of_zero_le hy
  refine (mul64_nat x y (by omega) (by omega) w).mono ?_
  rintro e w' ⟨rfl, rfl⟩
  exact ⟨ret_ii (by unfold mulHi; simp) (by unfold mulLo; simp), rfl⟩

/-! ### num.Mul -/
theorem mulHi_zero (x y : Int) (hx : 0 ≤ x) (hy : 0 ≤ y) : mulHi x y = 0 ↔ x * y < 18446744073709551616 := by
  have := Int.mul_nonneg hx hy
  unfold mulHi; omega
theorem mulLo_of {x y : Int} (h0 : 0 ≤ x * y) (h : x * y < 18446744073709551616) : mulLo x y = x * y := by unfold mulLo; omega

theorem mul_any (a b : Int) (ha : inR a) (hb : inR b) (w : World) :
    Calls Tryz.prog 115 #[.int .i64 a, .int .i64 b] w fun e w' => e = .returned (.tuple #[.int .i64 (fitV (a * b)), .int .i64 (fitF (a * b))]) ∧ w' = w := by
  have ba := absI_bd a ha
  have bb := absI_bd b hb
  have hz := mulHi_zero (absI a) (absI b) ba.1 bb.1
  have hnn := Int.mul_nonneg ba.1 bb.1
  by_cases h : absI a * absI b < 18446744073709551616
  · have h0 : (mulHi (absI a) (absI b) != 0) = false := by simp [hz.2 h]
    have hlo := mulLo_of hnn h
    have hs := fun w => signed_any (mulLo (absI a) (absI b)) (dif a b) (by omega) (by omega) w
    have hfin : fitV (sgn (dif a b) (mulLo (absI a) (absI b))) = fitV (a * b) ∧ fitF (sgn (dif a b) (mulLo (absI a) (absI b))) = fitF (a * b) := by rw [hlo, sgn_mul]; exact ⟨rfl, rfl⟩
    have H := veil hfin
    have S := veil hs
    clear hfin hlo hz h hnn hs
    go_enter Tryz.func115, Tryz.ntmps115
    go_wp2_with fail
    refine (sizeOf_any a ha _).mono ?_
    rintro e w' ⟨rfl, rfl⟩
    go_wp2_with fail
    refine (sizeOf_any b hb _).mono ?_
    rintro e w' ⟨rfl, rfl⟩
    go_wp2_with fail
    refine (mul64_any _ _ ba.1 (by omega) bb.1 (by omega) _).mono ?_
    rintro e w' ⟨rfl, rfl⟩
    go_wp2_with fail
    refine (unveil S _).mono ?_
    rintro e w' ⟨rfl, rfl⟩
    go_wp2_with fail
    go_ret2
    exact ⟨ret_ii (unveil H).1 (unveil H).2, rfl⟩
  · have h0 : (mulHi (absI a) (absI b) != 0) = true := by simp [hz, h]
    have hn := mul_high a b (by omega)
    rw [fitV_out hn, fitF_out hn]
    clear hz hn hnn h
    go_enter Tryz.func115, Tryz.ntmps115
    go_wp2_with fail
    refine (sizeOf_any a ha _).mono ?_
    rintro e w' ⟨rfl, rfl⟩
    go_wp2_with fail
    refine (sizeOf_any b hb _).mono ?_
    rintro e w' ⟨rfl, rfl⟩
    go_wp2_with fail
    refine (mul64_any _ _ ba.1 (by omega) bb.1 (by omega) _).mono ?_
    rintro e w' ⟨rfl, rfl⟩
    go_wp2_with fail
    go_ret2
    exact ⟨rfl, rfl⟩

end Go.Proofs.YtpfjnnkjoabgbaaGreatDoor
