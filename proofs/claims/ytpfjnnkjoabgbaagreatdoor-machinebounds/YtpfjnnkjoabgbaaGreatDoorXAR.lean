import Derived.Test.YtpfjnnkjoabgbaaGreatDoorXAQ
import Derived.Deep.AppendLies
import Derived.Deep.RegionLaw
namespace Go.Proofs.YtpfjnnkjoabgbaaGreatDoor
open Go.RowKit
set_option linter.unusedVariables false
set_option linter.unusedSimpArgs false
def flatV (n : Nat) (V : Nat → List Value) : List Value := (List.range n).flatMap V
theorem flatV_len {k : Nat} (V : Nat → List Value) : ∀ n, (∀ i, i < n → (V i).length = k) → (flatV n V).length = n * k
  | 0, _ => by simp [flatV]
  | n + 1, h => by
    have ih := flatV_len V n (fun i hi => h i (by omega))
    unfold flatV at ih ⊢
    rw [List.range_succ, List.flatMap_append, List.length_append, ih]
    simp [h n (by omega), Nat.add_mul]
theorem flatV_at {k : Nat} (hk : 0 < k) (V : Nat → List Value) : ∀ n, (∀ i, i < n → (V i).length = k) → ∀ i, i < n → ∀ j, j < k → (flatV n V)[i * k + j]? = (V i)[j]?
  | 0, _, i, hi, _, _ => by omega
  | n + 1, h, i, hi, j, hj => by
    have ih := flatV_at hk V n (fun i hi => h i (by omega))
    have len := flatV_len (k := k) V n (fun i hi => h i (by omega))
    unfold flatV at ih len ⊢
    rw [List.range_succ, List.flatMap_append]
    by_cases e : i = n
    · subst e
      rw [List.getElem?_append_right (by omega), len, show i * k + j - i * k = j by omega]
      simp
    · have lt : i < n := by omega
      have b : i * k + j < n * k := by
        have : (i + 1) * k ≤ n * k := Nat.mul_le_mul_right k lt
        rw [Nat.add_mul, Nat.one_mul] at this
        omega
      rw [List.getElem?_append_left (by rw [len]; exact b)]
      exact ih i lt j hj
/-- The cells of a row, for an append. -/
theorem row_news {w : World} {x o n k : Nat} {V : Nat → List Value} (hk : 0 < k) (hV : ∀ i, i < n → (V i).length = k) (h : ∀ i, i < n → ∀ j, j < k → w.cell? ⟨x, o + i * k + j, none⟩ = some ((V i).getD j default)) : ∀ j u, (flatV n V)[j]? = some u → w.cell? ((⟨x, o, none⟩ : Addr).add j) = some u := by
  intro j u hj
  have lt : j < n * k := by have := (List.getElem?_eq_some_iff.1 hj).1; rw [flatV_len V n hV] at this; exact this
  have e : j = (j / k) * k + j % k := by have := Nat.div_add_mod j k; rw [Nat.mul_comm] at this; omega
  have i1 : j / k < n := (Nat.div_lt_iff_lt_mul hk).2 lt
  have i2 : j % k < k := Nat.mod_lt _ hk
  rw [e, flatV_at hk V n hV _ i1 _ i2] at hj
  rw [Addr.add_lit, e, ← Nat.add_assoc, h _ i1 _ i2]
  have : (V (j / k)).getD (j % k) default = u := by simp [List.getD, hj]
  rw [this]
/-- What an own row holds, cell by cell. -/
theorem own_row {w : World} {B g cap n k : Nat} {t : TypeId} {V : Nat → List Value} (hk : 0 < k) (hV : ∀ i, i < n → (V i).length = k) (h : w.ownsRow B t k (.slice (some ⟨g, 0, none⟩) n cap) n (flatV n V)) : (∃ cur, BkP w g cur t ∧ cur.size = cap * k) ∧ B ≤ g ∧ g < w.heap.size ∧ n ≤ cap ∧ cap ≤ maxLen ∧ ∀ i, i < n → ∀ j, j < k → w.cell? ⟨g, 0 + i * k + j, none⟩ = some ((V i).getD j default) := by
  rcases h.2 with ⟨e, _⟩ | ⟨g', cap', cur, e, e2, e3, e4, e5, e6, e7⟩
  · injection e with e; cases e
  · injection e with e en ec
    injection e with e
    injection e with e
    subst e ec
    refine ⟨⟨cur, e3, e6⟩, e2, (Array.getElem?_eq_some_iff.1 e3).1, e4, e5, fun i hi j hj => ?_⟩
    have b : i * k + j < n * k := by
      have : (i + 1) * k ≤ n * k := Nat.mul_le_mul_right k hi
      rw [Nat.add_mul, Nat.one_mul] at this
      omega
    have q := flatV_at hk V n hV i hi j hj
    rw [← e7, List.getElem?_take_of_lt b] at q
    rw [Nat.zero_add]
    have l : j < (V i).length := by rw [hV i hi]; exact hj
    simp only [World.cell?, e3]
    rw [List.getElem?_eq_getElem l] at q
    have g2 : (V i).getD j default = (V i)[j] := by simp [List.getD, l]
    rw [g2]
    simpa using q
def sgV (days : List Sg) (i : Nat) : List Value := (days.getD i default).cs
theorem sgV_len (days : List Sg) (i : Nat) : (sgV days i).length = 2 := rfl
def inW (c : List In) (i : Nat) : List Value := icell (c.getD i default)
theorem inW_len (c : List In) (i : Nat) : (inW c i).length = 3 := rfl
theorem flatV_one (V : Nat → List Value) {k : Nat} (n : Nat) (hV : ∀ i, i < n → ∀ u ∈ V i, u.oneCell' = true) : ∀ u ∈ flatV n V, u.oneCell' = true := by
  intro u hu
  unfold flatV at hu
  rw [List.mem_flatMap] at hu
  obtain ⟨i, hi, hu⟩ := hu
  exact hV i (List.mem_range.1 hi) u hu
theorem sgV_one (days : List Sg) (i : Nat) : ∀ u ∈ sgV days i, u.oneCell' = true := by
  intro u hu
  simp [sgV, Sg.cs] at hu
  rcases hu with rfl | rfl <;> rfl
theorem inW_one (c : List In) (i : Nat) : ∀ u ∈ inW c i, u.oneCell' = true := by
  intro u hu
  simp [inW, icell] at hu
  rcases hu with rfl | rfl | rfl <;> rfl
theorem infoSg : (Tryz.prog.info? 71).map (fun i => (i.zero, i.size, i.bytes)) = some (some (.agg #[.int .i64 0, .slice none 0 0]), 2, 32) := by kernel_rfl
theorem infoIn : (Tryz.prog.info? 68).map (fun i => (i.zero, i.size, i.bytes)) = some (some (.agg #[.int .i64 0, .int .i64 0, .int .i64 0]), 3, 24) := by kernel_rfl
end Go.Proofs.YtpfjnnkjoabgbaaGreatDoor
