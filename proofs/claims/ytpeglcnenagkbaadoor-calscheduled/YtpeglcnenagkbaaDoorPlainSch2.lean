/-
  THE PLAIN SCHEDULE OF THE LAW; HOW ITS LOOP GOES OVER THE LIST.
-/
import Derived.Test.YtpeglcnenagkbaaDoorWSch4
namespace Go.Proofs.YtpeglcnenagkbaaDoor
open Go.RowKit
open Cal
set_option linter.unusedVariables false
set_option linter.unusedSimpArgs false

theorem add_plain (i : Nat) (hi : i < 4) {Y M D E : Int} (h : AddIs 2024 1 31 1 3 (i : Int) Y M D E) : E = 0 ∧ num Y M D = [(45320 : Int), 45349, 45380, 45410].getD i 0 := by
  unfold AddIs monOr at h
  rw [if_neg (by decide), if_neg (by decide), if_neg (by omega), if_neg (by decide), if_neg (by decide), if_pos rfl, if_pos (by omega)] at h
  obtain ⟨rfl, rfl, rfl, rfl⟩ := h
  refine ⟨rfl, ?_⟩
  match i, hi with
  | 0, _ => decide
  | 1, _ => decide
  | 2, _ => decide
  | 3, _ => decide
theorem plain_reg {L : List Int} (h : Reg 2024 1 31 1 3 (num 2024 3 31) L) : L = [45320, 45349, 45380] := by
  have e : num 2024 3 31 = 45380 := by decide
  rw [e] at h
  obtain ⟨h1, Y, M, D, E, a, b⟩ := h
  have hl : L.length = 3 := by
    by_cases q : L.length < 3
    · exfalso
      have := add_plain L.length (by omega) a
      match hh : L.length, q with
      | 0, _ => rw [hh] at this; simp at this; omega
      | 1, _ => rw [hh] at this; simp at this; omega
      | 2, _ => rw [hh] at this; simp at this; omega
    · by_cases q2 : 3 < L.length
      · exfalso
        obtain ⟨Y', M', D', a', b', c'⟩ := h1 3 q2
        have := (add_plain 3 (by omega) a').2
        simp at this
        omega
      · omega
  have g : ∀ i, i < 3 → L.getD i 0 = [(45320 : Int), 45349, 45380, 45410].getD i 0 := fun i hi => by
    obtain ⟨Y', M', D', a', b', _⟩ := h1 i (by omega)
    rw [← b']; exact (add_plain i (by omega) a').2
  have g0 : L.getD 0 0 = 45320 := g 0 (by omega)
  have g1 : L.getD 1 0 = 45349 := g 1 (by omega)
  have g2 : L.getD 2 0 = 45380 := g 2 (by omega)
  clear g h1 a b
  obtain ⟨x, y, z, rfl⟩ : ∃ x y z, L = [x, y, z] := by
    rcases L with _ | ⟨x, _ | ⟨y, _ | ⟨z, _ | ⟨t, r⟩⟩⟩⟩
    · cases hl
    · cases hl
    · cases hl
    · exact ⟨x, y, z, rfl⟩
    · simp at hl
  have e0 : x = 45320 := g0
  have e1 : y = 45349 := g1
  have e2 : z = 45380 := g2
  rw [e0, e1, e2]
theorem adj_zero {zs L rs : List Int} (h : AdjL 0 zs L rs) : rs = L := by
  apply List.ext_getElem h.1
  intro i h1 h2
  have := h.2 i h2
  unfold AdjIs at this
  simp only [List.getD, List.getElem?_eq_getElem h1, List.getElem?_eq_getElem h2, Option.getD_some] at this
  rcases this with ⟨_, a, _⟩ | ⟨c, _⟩ | ⟨c, _⟩ | ⟨c, _⟩
  · exact a
  · omega
  · omega
  · omega
theorem plain_no (h : SchNo 2024 1 31 2024 3 31 1 3 0 []) : False := by
  rcases h with h | h | h | h | h | h | ⟨day, zs, r, x, hx, h⟩
  · revert h; decide
  · omega
  · revert h; decide
  · revert h; decide
  · obtain ⟨i, hi, _⟩ := h; simp at hi
  · revert h; decide
  · unfold AdjIs at h
    rcases h with ⟨_, _, c⟩ | ⟨c, _⟩ | ⟨c, _⟩ | ⟨c, _⟩ <;> omega
/-- What the plain schedule is. -/
theorem plain_list {zs L rs : List Int} (hR : Reg 2024 1 31 1 3 (num 2024 3 31) L) (hA : AdjL 0 zs L rs) : Lib.compact rs = [45320, 45349, 45380] := by
  have e := plain_reg hR
  have e2 := adj_zero hA
  rw [e2, e]
  decide

/-- The days do not fall. -/
theorem sched_mono {y m d N u last conv : Int} {zs L rs : List Int} (hR : Reg y m d N u last L) (hA : AdjL conv zs L rs) : ∀ i, i + 1 < rs.length → rs.getD i 0 ≤ rs.getD (i + 1) 0 := by
  intro i hi
  have hl := hA.1
  obtain ⟨Y, M, D, a, b, _⟩ := hR.1 i (by omega)
  obtain ⟨Y', M', D', a', b', _⟩ := hR.1 (i + 1) (by omega)
  have lt := add_rise a a' (by omega)
  exact adj_mono (hA.2 i (by omega)) (hA.2 (i + 1) (by omega)) (by omega) (hR.day i (by omega)) (hR.day (i + 1) (by omega))
/-- Where the law stands in the list ahead of the i-th date. -/
def Sta (rs : List Int) (i at_ : Nat) : Prop := (i = 0 ∧ at_ = 0) ∨ (0 < i ∧ at_ + 1 = (Cn rs i).length)
theorem sta_first {rs : List Int} (h : 0 < rs.length) : (Lib.compact rs).getD 0 0 = rs.getD 0 0 ∧ 0 < (Lib.compact rs).length ∧ Sta rs 1 0 := by
  have a := cn_last rs 0
  have e : Cn rs 1 = [rs.getD 0 0] := by rw [cn_succ, cn_zero]; simp
  have l := cn_len (rs := rs) (i := 1) (n := rs.length) (by omega)
  have g := cn_getD (rs := rs) (i := 1) (n := rs.length) (k := 0) (by omega) (by rw [e]; simp)
  rw [cn_all] at l g
  rw [e] at l g
  exact ⟨by rw [g]; simp, by simp at l; omega, .inr ⟨by omega, by rw [e]; rfl⟩⟩
theorem sta_next {rs : List Int} {i at_ : Nat} (hm : ∀ i, i + 1 < rs.length → rs.getD i 0 ≤ rs.getD (i + 1) 0) (h : Sta rs i at_) (hi0 : 0 < i) (hi : i < rs.length) :
    at_ < (Lib.compact rs).length ∧ (Lib.compact rs).getD at_ 0 = rs.getD (i - 1) 0 ∧
    ((rs.getD i 0 = (Lib.compact rs).getD at_ 0 ∧ Sta rs (i + 1) at_ ∧ (0 < at_ → (Lib.compact rs).getD (at_ - 1) 0 < rs.getD i 0)) ∨
     (rs.getD i 0 ≠ (Lib.compact rs).getD at_ 0 ∧ Sta rs (i + 1) (at_ + 1) ∧ at_ + 1 < (Lib.compact rs).length ∧ (Lib.compact rs).getD (at_ + 1) 0 = rs.getD i 0 ∧ (Lib.compact rs).getD at_ 0 < rs.getD i 0)) := by
  obtain ⟨j, rfl⟩ : ∃ j, i = j + 1 := ⟨i - 1, by omega⟩
  have hs : at_ + 1 = (Cn rs (j + 1)).length := by
    rcases h with ⟨q, _⟩ | ⟨_, q⟩
    · omega
    · exact q
  have a := cn_last rs j
  have l1 := cn_len (rs := rs) (i := j + 1) (n := rs.length) (by omega)
  have l2 := cn_len (rs := rs) (i := j + 1 + 1) (n := rs.length) (by omega)
  have g1 := cn_getD (rs := rs) (i := j + 1) (n := rs.length) (k := at_) (by omega) (by omega)
  rw [cn_all] at l1 l2 g1
  have ga : (Lib.compact rs).getD at_ 0 = rs.getD j 0 := by rw [g1, ← a.2]; congr 1; omega
  have rise := cn_rise hm rs.length (Nat.le_refl _)
  rw [cn_all] at rise
  refine ⟨by omega, by simpa using ga, ?_⟩
  have sc := cn_succ rs (j + 1)
  by_cases q : rs.getD (j + 1) 0 = rs.getD j 0
  · left
    rw [if_neg (by simp; exact q), List.append_nil] at sc
    refine ⟨by rw [ga]; exact q, .inr ⟨by omega, by rw [sc]; exact hs⟩, fun hp => ?_⟩
    have := rise (at_ - 1) (by omega)
    rw [show at_ - 1 + 1 = at_ by omega, ga] at this
    omega
  · right
    rw [if_pos (by right; simpa using q)] at sc
    have ls : (Cn rs (j + 1 + 1)).length = (Cn rs (j + 1)).length + 1 := by rw [sc]; simp
    have g2 := cn_getD (rs := rs) (i := j + 1 + 1) (n := rs.length) (k := at_ + 1) (by omega) (by omega)
    rw [cn_all] at g2
    have a2 := (cn_last rs (j + 1)).2
    have gb : (Lib.compact rs).getD (at_ + 1) 0 = rs.getD (j + 1) 0 := by rw [g2, ← a2]; congr 1; omega
    refine ⟨by rw [ga]; exact q, .inr ⟨by omega, by omega⟩, by omega, gb, ?_⟩
    have := rise at_ (by omega)
    omega
theorem sta_end {rs : List Int} {at_ : Nat} (h : Sta rs rs.length at_) (h0 : 0 < rs.length) : at_ + 1 = (Lib.compact rs).length := by
  rcases h with ⟨q, _⟩ | ⟨_, q⟩
  · omega
  · rw [cn_all] at q; exact q
end Go.Proofs.YtpeglcnenagkbaaDoor
