/-
  PLAIN: the lowest bit of a word, and a word without it; the marked places from one place on.
-/
import Derived.Test.YtpeglcnenagkbaaDoorWOpen
namespace Go.Proofs.YtpeglcnenagkbaaDoor
set_option linter.unusedVariables false
set_option linter.unusedSimpArgs false

theorem low_clear (x t0 : Nat) (h : x.testBit t0 = true) (h0 : ∀ t, t < t0 → x.testBit t = false) (t : Nat) :
    (x &&& (x - 1)).testBit t = (x.testBit t && decide (t ≠ t0)) := by
  have hm : x % 2 ^ t0 = 0 := by
    apply Nat.eq_of_testBit_eq
    intro i
    rw [Nat.testBit_mod_two_pow, Nat.zero_testBit]
    by_cases e : i < t0
    · rw [h0 i e]; simp
    · simp [e]
  obtain ⟨y, rfl⟩ : ∃ y, x = 2 ^ t0 * y := ⟨x / 2 ^ t0, by have := Nat.div_add_mod x (2 ^ t0); omega⟩
  rw [Nat.testBit_two_pow_mul] at h
  simp only [Nat.le_refl, ge_iff_le, decide_true, Nat.sub_self, Bool.true_and] at h
  obtain ⟨q, rfl⟩ : ∃ q, y = 2 * q + 1 := ⟨y / 2, by rw [Nat.testBit_zero] at h; simp at h; omega⟩
  have hp : 0 < 2 ^ t0 := Nat.two_pow_pos t0
  have e1 : 2 ^ t0 * (2 * q + 1) - 1 = 2 ^ t0 * (2 * q) + (2 ^ t0 - 1) := by rw [Nat.mul_add, Nat.mul_one]; omega
  rw [Nat.testBit_and, e1, Nat.testBit_two_pow_mul_add _ (by omega), Nat.testBit_two_pow_mul]
  by_cases a : t < t0
  · rw [show decide (t ≥ t0) = false by simp; omega]; simp
  · rw [if_neg a]
    by_cases b : t = t0
    · subst b; simp
    · obtain ⟨k, hk⟩ : ∃ k, t - t0 = k + 1 := ⟨t - t0 - 1, by omega⟩
      rw [hk, Nat.testBit_succ, Nat.testBit_succ, show (2 * q + 1) / 2 = q by omega, show 2 * q / 2 = q by omega]
      simp [b]

/-- The marked places of ws from s on and below e, as days from A on. -/
def ups (ws : List Nat) (A : Int) (s e : Nat) : List Int := ((List.range e).filter (fun m => decide (s ≤ m) && Bit ws m)).map (fun m : Nat => A + (m : Int))
theorem ups_zero (ws : List Nat) (A : Int) (s : Nat) : ups ws A s 0 = [] := rfl
theorem ups_no {ws : List Nat} {A : Int} {s e : Nat} (h : (decide (s ≤ e) && Bit ws e) = false) : ups ws A s (e + 1) = ups ws A s e := by
  unfold ups; rw [List.range_succ, List.filter_append]; simp [h]
theorem ups_yes {ws : List Nat} {A : Int} {s e : Nat} (h0 : s ≤ e) (h : Bit ws e = true) : ups ws A s (e + 1) = ups ws A s e ++ [A + (e : Int)] := by
  unfold ups; rw [List.range_succ, List.filter_append]; simp [h, h0]
theorem ups_skip {ws : List Nat} {A : Int} {s e : Nat} : ∀ (k : Nat), (∀ m, e ≤ m → m < e + k → (decide (s ≤ m) && Bit ws m) = false) → ups ws A s (e + k) = ups ws A s e
  | 0, _ => rfl
  | k + 1, h => by
    rw [← Nat.add_assoc, ups_no (h _ (by omega) (by omega))]
    exact ups_skip k fun m a b => h m a (by omega)
theorem ups_mem {ws : List Nat} {A : Int} {s e : Nat} {x : Int} : x ∈ ups ws A s e ↔ ∃ m : Nat, m < e ∧ s ≤ m ∧ Bit ws m = true ∧ x = A + m := by
  unfold ups
  simp only [List.mem_map, List.mem_filter, List.mem_range, Bool.and_eq_true, decide_eq_true_eq]
  constructor
  · rintro ⟨m, ⟨a, b, c⟩, rfl⟩; exact ⟨m, a, b, c, rfl⟩
  · rintro ⟨m, a, b, c, rfl⟩; exact ⟨m, ⟨a, b, c⟩, rfl⟩
end Go.Proofs.YtpeglcnenagkbaaDoor
