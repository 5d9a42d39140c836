import Derived.Test.YtpfjnnkjoabgbaaGreatDoorXBI
import Derived.Test.YtpfjnnkjoabgbaaGreatDoorXBK
namespace Go.Proofs.YtpfjnnkjoabgbaaGreatDoor
set_option linter.unusedVariables false
set_option linter.unusedSimpArgs false
end Go.Proofs.YtpfjnnkjoabgbaaGreatDoor

namespace Go.Proofs.YtpfjnnkjoabgbaaGreatDoor
set_option linter.unusedVariables false
set_option linter.unusedSimpArgs false
/-- How many instructions the first segments have whose day is ahead of t. -/
def stpN (l : List Sg) (t : Int) : Nat → Nat
  | 0 => 0
  | k + 1 => stpN l t k + if (l.getD k default).day < t then (l.getD k default).code.length else 0
theorem stpN_le {l : List Sg} {t : Int} : ∀ k, k ≤ l.length → stpN l t k ≤ totN l k
  | 0, _ => by simp [stpN]
  | k + 1, h => by
    have := stpN_le (l := l) (t := t) k (by omega)
    rw [totN_next (by omega)]
    simp only [stpN]
    split <;> omega
theorem stpN_same {l : List Sg} {t : Int} : ∀ k, (∀ i, i < k → (l.getD i default).day ≠ t) → stpN l (t + 1) k = stpN l t k
  | 0, _ => rfl
  | k + 1, h => by
    have ih := stpN_same k (fun i hi => h i (by omega))
    have := h k (by omega)
    simp only [stpN]
    rw [ih]
    by_cases z : (l.getD k default).day < t
    · rw [if_pos z, if_pos (by omega)]
    · rw [if_neg z, if_neg (by omega)]
theorem stpN_one {l : List Sg} {t : Int} {i : Nat} (e : (l.getD i default).day = t) : ∀ k, i < k → k ≤ l.length → (∀ a b, a < b → b < l.length → (l.getD a default).day < (l.getD b default).day) → stpN l (t + 1) k = stpN l t k + (l.getD i default).code.length
  | 0, h, _, _ => by omega
  | k + 1, h, hk, up => by
    simp only [stpN]
    by_cases z : i = k
    · subst z
      rw [stpN_same i (fun j hj => by have := up j i hj (by omega); omega), if_pos (by omega), if_neg (by omega)]
      omega
    · have ih := stpN_one e k (by omega) (by omega) up
      have := up i k (by omega) (by omega)
      rw [ih, if_neg (by omega), if_neg (by omega)]
      omega
theorem stpN_next {p : Pg} (hd : dayP p) (t : Int) : stpN p.days (t + 1) p.days.length = stpN p.days t p.days.length + (dayCode p.days t).length := by
  have up := day_up hd
  rcases dayCode_at p.days t with ⟨e, q⟩ | ⟨i, hi, hdd, q⟩
  · rw [e, stpN_same _ (fun i hi => ?_)]
    · simp
    · rcases q i hi with z | z
      · exact z
      · exact z.elim
  · rw [q, stpN_one hdd _ hi (Nat.le_refl _) up]
/-- A state that a machine of the program may be in. -/
structure AdM (p : Pg) (s : Ms) : Prop where
  t0 : 0 ≤ s.today
  st : s.steps ≤ (stpN p.days s.today p.days.length : Int)
  ce : s.today = 0 → ∀ x ∈ s.cells, x = 0
  pr : ∀ l ∈ s.past, ∀ c ∈ l, (!c.h && (c.v != 0)) = false
  fa : s.fault ≠ 0 → 0 < s.fault ∧ s.fault ≤ 3 ∧ s.day = s.today - 1 ∧ dayCode p.days s.day ≠ []
theorem AdM.born (p : Pg) : AdM p p.born := by
  refine ⟨by simp [Pg.born], by simp [Pg.born], fun _ x hx => ?_, by simp [Pg.born], by simp [Pg.born]⟩
  simp only [Pg.born, List.mem_replicate] at hx
  exact hx.2
theorem fitR_even (n : Nat) (row : List Cl) : ∀ c ∈ fitR n row, (!c.h && (c.v != 0)) = false := by
  intro c hc
  unfold fitR at hc
  obtain ⟨i, _, rfl⟩ := List.mem_map.1 hc
  split
  · rename_i z; rw [z]; rfl
  · rfl
theorem AdM.day {p : Pg} (hd : dayP p) {back : Int} {s : Ms} {row : List Cl} (no : ¬ s.over p.hor) (h : AdM p s) : AdM p (dayMs p back s row) := by
  have f0 : s.fault = 0 := Classical.byContradiction fun q => no (.inl q)
  obtain ⟨g1, g2, g3, g4⟩ := mGo_all (p.env s row) (dayCode p.days s.today) (dayCode p.days s.today).length s.begun
  have e : mGo (p.env s row) (dayCode p.days s.today) (dayCode p.days s.today).length s.begun = dayGo p s row := rfl
  rw [e] at g1 g2 g3 g4
  have t0 := h.t0
  have st := h.st
  unfold dayMs
  refine ⟨by simp only; omega, ?_, ?_, ?_, ?_⟩
  · simp only
    rw [stpN_next hd]
    omega
  · simp only
    intro z
    omega
  · simp only
    intro l hl
    rcases pastOn_mem hl with q | rfl
    · exact h.pr l q
    · exact fitR_even _ _
  · simp only
    intro z
    by_cases q : (dayGo p s row).1 = 0
    · rw [if_pos q] at z; exact absurd f0 z
    · rw [if_neg q, if_neg q]
      refine ⟨by omega, g2, by omega, fun n => q ?_⟩
      unfold dayGo
      rw [n]
      rfl
theorem AdM.run {p : Pg} (hd : dayP p) {back : Int} {a : Nat → List Cl} : ∀ n, AdM p (runMs p back a n p.born).1
  | 0 => AdM.born p
  | n + 1 => by
    have ih := AdM.run hd (back := back) (a := a) n
    simp only [runMs]
    split
    · exact ih
    · rename_i z
      exact ih.day hd z
end Go.Proofs.YtpfjnnkjoabgbaaGreatDoor
