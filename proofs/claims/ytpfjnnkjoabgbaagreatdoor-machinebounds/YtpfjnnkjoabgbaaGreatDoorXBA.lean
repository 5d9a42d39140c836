import Derived.Test.YtpfjnnkjoabgbaaGreatDoorXAP
namespace Go.Proofs.YtpfjnnkjoabgbaaGreatDoor
set_option linter.unusedVariables false
set_option linter.unusedSimpArgs false
theorem see_threeM (nd : Nds) (i : In) (h : Nat) : (vSee nd i h).stack = max nd.stack h ∧ (vSee nd i h).fuel = nd.fuel + 1 ∧ (vSee nd i h).back = if i.o = 3 then max nd.back i.b else nd.back := by
  unfold vSee
  simp only
  by_cases a : i.o = 6 ∨ i.o = 7
  · rw [if_pos a]
    exact ⟨rfl, rfl, by rw [if_neg (by omega)]⟩
  · rw [if_neg a]
    by_cases b : i.o = 4 ∨ i.o = 5
    · rw [if_pos b]
      exact ⟨rfl, rfl, by rw [if_neg (by omega)]⟩
    · rw [if_neg b]
      by_cases c : i.o = 3
      · rw [if_pos c, if_pos c]
        exact ⟨rfl, rfl, rfl⟩
      · rw [if_neg c, if_neg c]
        exact ⟨rfl, rfl, rfl⟩
theorem htF_atM {sg : Sg} {k : Nat} (hk : k < sg.code.length) : vHt (vRun sg.day sg.code (k + 1)).2.2 k = htF sg k := by
  unfold htF vHt
  rw [vRun_old (Nat.lt_succ_self k) sg.code.length hk]
theorem need_nextM {nd : Nds} {sg : Sg} {k : Nat} (hk : k < sg.code.length) : (vNeed nd sg.day sg.code (k + 1)).stack = max (vNeed nd sg.day sg.code k).stack (htF sg k) ∧ (vNeed nd sg.day sg.code (k + 1)).fuel = (vNeed nd sg.day sg.code k).fuel + 1 ∧ (vNeed nd sg.day sg.code (k + 1)).back = if (sg.code.getD k default).o = 3 then max (vNeed nd sg.day sg.code k).back (sg.code.getD k default).b else (vNeed nd sg.day sg.code k).back := by
  have e := see_threeM (vNeed nd sg.day sg.code k) (sg.code.getD k default) (htF sg k)
  have e2 : vNeed nd sg.day sg.code (k + 1) = vSee (vNeed nd sg.day sg.code k) (sg.code.getD k default) (htF sg k) := by
    simp only [vNeed]
    rw [htF_atM hk]
  rw [e2]
  exact e
theorem need_upM {nd : Nds} {sg : Sg} : ∀ m, m ≤ sg.code.length → nd.stack ≤ (vNeed nd sg.day sg.code m).stack ∧ nd.back ≤ (vNeed nd sg.day sg.code m).back ∧ ∀ k, k < m → (htF sg k : Int) ≤ (vNeed nd sg.day sg.code m).stack ∧ ((sg.code.getD k default).o = 3 → (sg.code.getD k default).b ≤ (vNeed nd sg.day sg.code m).back)
  | 0, _ => ⟨by simp [vNeed], by simp [vNeed], fun k hk => by omega⟩
  | m + 1, hm => by
    obtain ⟨i1, i2, i3⟩ := need_upM (nd := nd) (sg := sg) m (by omega)
    obtain ⟨e1, e2, e3⟩ := need_nextM (nd := nd) (sg := sg) (k := m) (by omega)
    have b : (vNeed nd sg.day sg.code m).back ≤ (vNeed nd sg.day sg.code (m + 1)).back ∧ ((sg.code.getD m default).o = 3 → (sg.code.getD m default).b ≤ (vNeed nd sg.day sg.code (m + 1)).back) := by
      rw [e3]
      split
      · exact ⟨by omega, fun _ => by omega⟩
      · rename_i z; exact ⟨by omega, fun q => absurd q z⟩
    refine ⟨by omega, by omega, fun k hk => ?_⟩
    by_cases q : k = m
    · subst q
      exact ⟨by omega, b.2⟩
    · obtain ⟨j1, j2⟩ := i3 k (by omega)
      exact ⟨by omega, fun z => by have := j2 z; omega⟩
theorem all_upM {days : List Sg} : ∀ D, D ≤ days.length → (vAll days D).1 = 0 → ∀ d, d < D → ∀ k, k < (days.getD d default).code.length → (htF (days.getD d default) k : Int) ≤ (vAll days D).2.2.2.stack ∧ (((days.getD d default).code.getD k default).o = 3 → ((days.getD d default).code.getD k default).b ≤ (vAll days D).2.2.2.back)
  | 0, _, _, d, hd, _, _ => by omega
  | D + 1, hD, h, d, hd, k, hk => by
    have h0 := vAll_before h (Nat.le_succ D)
    have e := vAll_succ h0
    rw [e]
    simp only
    obtain ⟨n1, n2, n3⟩ := need_upM (nd := (vAll days D).2.2.2) (sg := days.getD D default) (days.getD D default).code.length (Nat.le_refl _)
    by_cases q : d = D
    · subst q
      exact n3 k hk
    · obtain ⟨j1, j2⟩ := all_upM D (by omega) h0 d (by omega) k hk
      exact ⟨by omega, fun z => by have := j2 z; omega⟩
end Go.Proofs.YtpfjnnkjoabgbaaGreatDoor
