/-
  WALKS: zigzag, unzigzag, AppendInt; varint.
-/
import Derived.Test.YtdbjdieegocdfaaDoorWBytes
namespace Go.Proofs.YtdbjdieegocdfaaDoor
open Go.RowKit
set_option linter.unusedVariables false
set_option linter.unusedSimpArgs false

/-- The zigzag number. -/
def zz (x : Int) : Nat := if x < 0 then (-2 * x - 1).toNat else (2 * x).toNat
def uz (z : Nat) : Int := if z % 2 = 1 then -((z / 2 : Nat) : Int) - 1 else ((z / 2 : Nat) : Int)
theorem uz_zz (x : Int) : uz (zz x) = x := by
  unfold uz zz
  by_cases h : x < 0
  · rw [if_pos h, if_pos (by omega)]; omega
  · rw [if_neg h, if_neg (by omega)]; omega
theorem zz_lt {x : Int} (h : -9223372036854775808 ≤ x ∧ x ≤ 9223372036854775807) : zz x < 18446744073709551616 := by
  unfold zz; split <;> omega

theorem xor_max (y : Nat) (h : y < 18446744073709551616) : bits .xor .u64 IntKind.u64.max (y : Int) = ((18446744073709551615 - y : Nat) : Int) := by
  rw [show IntKind.u64.max = ((18446744073709551615 : Nat) : Int) by decide, u64_xor_nat _ _ (by omega) h]
  congr 1
  apply Nat.eq_of_testBit_eq
  intro i
  rw [Nat.testBit_xor, show (18446744073709551615 : Nat) = 2 ^ 64 - 1 by decide, Nat.testBit_two_pow_sub_one, show 2 ^ 64 - 1 - y = 2 ^ 64 - (y + 1) by omega, Nat.testBit_two_pow_sub_succ (by simpa using h)]
  by_cases hi : i < 64
  · simp [hi]
  · have : y.testBit i = false := Nat.testBit_lt_two_pow (Nat.lt_of_lt_of_le h (by
      have : 2 ^ 64 ≤ 2 ^ i := Nat.pow_le_pow_right (by omega) (by omega)
      simpa using this))
    simp [hi, this]

/-- A list of bytes, where the world holds it. -/
def BL (w : World) (a : Option Addr) (n : Nat) (xs : List Int) : Prop :=
  xs.length = n ∧ n ≤ 140737488355328 ∧ (∀ c ∈ xs, 0 ≤ c ∧ c ≤ 255) ∧ (n = 0 ∨ ∃ b o, a = some ⟨b, o, none⟩ ∧ b < w.heap.size ∧ ∀ i, i < n → w.cell? ⟨b, o + i, none⟩ = some (.int .u8 (xs.getD i 0)))
theorem BL.later {w w' : World} {a n xs} (h : BL w a n xs) (b : Below w.heap.size w w') : BL w' a n xs := by
  obtain ⟨h1, h2, h3, h4⟩ := h
  refine ⟨h1, h2, h3, ?_⟩
  rcases h4 with h4 | ⟨x, o, rfl, hx, hc⟩
  · exact .inl h4
  · exact .inr ⟨x, o, rfl, Nat.lt_of_lt_of_le hx b.size, fun i hi => by rw [b.cell (p := ⟨x, o + i, none⟩) hx]; exact hc i hi⟩

/-- What is told of the rest, when k groups that make X are behind. -/
def acc (X k : Nat) (r : Nat × Nat × Int) : Nat × Nat × Int := if r.2.2 = 0 then (X + 128 ^ k * r.1, k + r.2.1, 0) else (0, 0, r.2.2)
theorem acc_start (xs : List Int) : rd xs = acc 0 0 (rdf 0 xs) := by
  unfold acc rd
  have := rdf_err xs 0
  split
  · rename_i h; simp; rw [← h]
  · rename_i h; obtain ⟨a, b⟩ := this h; ext <;> simp [a, b]
theorem acc_step {xs : List Int} {k X : Nat} {c : Int} (hk : k < 10) (hl : k < xs.length) (hc : xs.getD k 0 = c) (h : 128 ≤ c) : acc X k (rdf k (xs.drop k)) = acc (X + 128 ^ k * (c.toNat % 128)) (k + 1) (rdf (k + 1) (xs.drop (k + 1))) := by
  have e : xs.drop k = c :: xs.drop (k + 1) := by
    rw [List.drop_eq_getElem_cons hl]
    congr 1
    rw [← hc]; simp [List.getD, hl]
  rw [e, rdf, if_neg (by omega), if_pos h]
  unfold acc
  by_cases q : (rdf (k + 1) (xs.drop (k + 1))).2.2 = 0
  · rw [if_pos q, if_pos rfl, if_pos q]
    simp only [Nat.pow_succ, Nat.mul_add, Nat.mul_assoc]
    ext <;> simp <;> omega
  · rw [if_neg q, if_neg q, if_neg q]
theorem acc_last {xs : List Int} {k X : Nat} {c : Int} (hk : k < 10) (hl : k < xs.length) (hc : xs.getD k 0 = c) (h : c < 128) : acc X k (rdf k (xs.drop k)) = if (0 < k ∧ c = 0) ∨ (k = 9 ∧ 1 < c) then (0, 0, 42) else (X + 128 ^ k * c.toNat, k + 1, 0) := by
  have e : xs.drop k = c :: xs.drop (k + 1) := by
    rw [List.drop_eq_getElem_cons hl]
    congr 1
    rw [← hc]; simp [List.getD, hl]
  rw [e, rdf, if_neg (by omega), if_neg (by omega)]
  split <;> rfl
theorem or_step (X k c : Nat) (hX : X < 128 ^ k) (hk : 128 ^ k * c < 18446744073709551616) (h64 : X < 18446744073709551616) : bits .or .u64 (X : Int) ((128 ^ k * c : Nat) : Int) = ((X + 128 ^ k * c : Nat) : Int) := by
  rw [u64_or_nat X _ h64 hk, Nat.or_comm]
  congr 1
  have := Nat.two_pow_add_eq_or_of_lt (i := 7 * k) (b := X) (by rw [Nat.pow_mul]; exact hX) c
  rw [Nat.pow_mul] at this
  rw [show (128 : Nat) = 2 ^ 7 by decide, ← this, Nat.add_comm]

end Go.Proofs.YtdbjdieegocdfaaDoor
