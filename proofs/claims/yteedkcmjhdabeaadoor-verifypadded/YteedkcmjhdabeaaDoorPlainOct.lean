/-
  VARINTS: plain facts on lists of bytes (as integers).
-/
namespace Go.Proofs.YteedkcmjhdabeaaDoor
set_option linter.unusedVariables false
set_option linter.unusedSimpArgs false

/-- The varint of a number, as bytes. -/
def vl (x : Nat) : List Int := if h : x < 128 then [(x : Int)] else ((x % 128 + 128 : Nat) : Int) :: vl (x / 128)
termination_by x
decreasing_by omega
theorem vl_one {x : Nat} (h : x < 128) : vl x = [(x : Int)] := by rw [vl, dif_pos h]
theorem vl_more {x : Nat} (h : 128 ≤ x) : vl x = ((x % 128 + 128 : Nat) : Int) :: vl (x / 128) := by rw [vl, dif_neg (by omega)]
theorem vl_pos (x : Nat) : 1 ≤ (vl x).length := by
  by_cases h : x < 128
  · simp [vl_one h]
  · simp [vl_more (Nat.le_of_not_lt h)]
theorem vl_len : ∀ (k x : Nat), x < 128 ^ k → 0 < k → (vl x).length ≤ k
  | 0, x, h, h0 => by omega
  | k + 1, x, h, _ => by
    by_cases h1 : x < 128
    · simp [vl_one h1]
    · rw [vl_more (by omega)]
      have : x / 128 < 128 ^ k := by rw [Nat.pow_succ] at h; omega
      rcases Nat.eq_zero_or_pos k with rfl | hk
      · simp at this; omega
      · have := vl_len k (x / 128) this hk
        simp; omega
theorem vl_len10 {x : Nat} (h : x < 18446744073709551616) : (vl x).length ≤ 10 := vl_len 10 x (Nat.lt_of_lt_of_le h (by decide)) (by omega)
theorem vl_byte : ∀ (x : Nat) (c : Int), c ∈ vl x → 0 ≤ c ∧ c ≤ 255 := by
  intro x
  induction x using Nat.strongRecOn with
  | _ x ih =>
    intro c hc
    by_cases h : x < 128
    · rw [vl_one h] at hc; simp at hc; omega
    · rw [vl_more (by omega)] at hc
      rcases List.mem_cons.1 hc with hc | hc
      · omega
      · exact ih (x / 128) (by omega) c hc

/-- What a varint reader answers of bytes, from the group i on: number, how many bytes, error. -/
def rdf : Nat → List Int → Nat × Nat × Int
  | i, [] => if i = 10 then (0, 0, 42) else (0, 0, 41)
  | i, c :: cs => if i = 10 then (0, 0, 42) else
    if 128 ≤ c then (if (rdf (i + 1) cs).2.2 = 0 then (c.toNat % 128 + 128 * (rdf (i + 1) cs).1, (rdf (i + 1) cs).2.1 + 1, 0) else rdf (i + 1) cs)
    else if (0 < i ∧ c = 0) ∨ (i = 9 ∧ 1 < c) then (0, 0, 42) else (c.toNat, 1, 0)
def rd (bs : List Int) : Nat × Nat × Int := rdf 0 bs
theorem rdf_end {i : Nat} (h : i = 10) (bs : List Int) : rdf i bs = (0, 0, 42) := by cases bs <;> simp [rdf, h]
theorem rdf_nil {i : Nat} (h : i < 10) : rdf i [] = (0, 0, 41) := by simp [rdf]; omega
theorem rdf_err : ∀ (bs : List Int) (i : Nat), (rdf i bs).2.2 ≠ 0 → (rdf i bs).1 = 0 ∧ (rdf i bs).2.1 = 0
  | [], i => by unfold rdf; split <;> simp
  | c :: cs, i => by
    unfold rdf
    have := rdf_err cs (i + 1)
    split
    · simp
    · split
      · split
        · simp
        · exact this
      · split <;> simp
theorem rdf_codes : ∀ (bs : List Int) (i : Nat), (rdf i bs).2.2 = 0 ∨ (rdf i bs).2.2 = 41 ∨ (rdf i bs).2.2 = 42
  | [], i => by unfold rdf; split <;> simp
  | c :: cs, i => by
    unfold rdf
    have := rdf_codes cs (i + 1)
    split
    · simp
    · split
      · split
        · simp
        · exact this
      · split <;> simp

/-- What was written is read. -/
theorem rdf_vl (t : List Int) : ∀ (x i : Nat), i < 10 → (0 < i → 0 < x) → x * 128 ^ i < 18446744073709551616 → rdf i (vl x ++ t) = (x, (vl x).length, 0) := by
  intro x
  induction x using Nat.strongRecOn with
  | _ x ih =>
    intro i hi h0 hx
    by_cases h : x < 128
    · rw [vl_one h]
      have e : rdf i (([(x : Int)] ++ t)) = (x, 1, 0) := by
        simp only [List.cons_append, List.nil_append]
        rw [rdf, if_neg (by omega), if_neg (by omega), if_neg]
        · simp
        · rintro (⟨a, b⟩ | ⟨rfl, b⟩)
          · have := h0 a; omega
          · have : x * 128 ^ 9 < 18446744073709551616 := hx
            omega
      simpa using e
    · rw [vl_more (by omega)]
      have h9 : i + 1 < 10 := by
        rcases Nat.lt_or_ge (i + 1) 10 with q | q
        · exact q
        · exfalso
          have : i = 9 := by omega
          subst this
          have : x * 128 ^ 9 < 18446744073709551616 := hx
          omega
      have hq := ih (x / 128) (by omega) (i + 1) h9 (fun _ => by omega) (by
        rw [Nat.pow_succ]
        have : x / 128 * (128 ^ i * 128) = (x / 128 * 128) * 128 ^ i := by rw [Nat.mul_comm (128 ^ i) 128, Nat.mul_assoc]
        rw [this]
        exact Nat.lt_of_le_of_lt (Nat.mul_le_mul_right _ (by omega)) hx)
      simp only [List.cons_append]
      rw [rdf, if_neg (by omega), if_pos (by omega), hq, if_pos rfl]
      have e : ((x % 128 + 128 : Nat) : Int).toNat % 128 + 128 * (x / 128) = x := by simp; omega
      simp only [List.length_cons]
      rw [e]
theorem rd_vl (x : Nat) (h : x < 18446744073709551616) (t : List Int) : rd (vl x ++ t) = (x, (vl x).length, 0) := rdf_vl t x 0 (by omega) (fun h => by omega) (by simpa using h)
theorem rd_vl' (x : Nat) (h : x < 18446744073709551616) : rd (vl x) = (x, (vl x).length, 0) := by have := rd_vl x h []; simpa using this

/-- What is read was written so. -/
theorem rdf_only : ∀ (bs : List Int) (i : Nat), i ≤ 10 → (∀ c ∈ bs, 0 ≤ c ∧ c ≤ 255) → (rdf i bs).2.2 = 0 →
    vl (rdf i bs).1 = bs.take (rdf i bs).2.1 ∧ (0 < i → 0 < (rdf i bs).1) ∧ i + (rdf i bs).2.1 ≤ 10 ∧ 1 ≤ (rdf i bs).2.1 ∧ (rdf i bs).2.1 ≤ bs.length ∧ (rdf i bs).1 * 128 ^ i < 18446744073709551616
  | [], i, _, _, h => by unfold rdf at h; split at h <;> simp at h
  | c :: cs, i, hi, hb, h => by
    have hc := hb c (by simp)
    have ih := fun q => rdf_only cs (i + 1) q (fun c hc => hb c (by simp [hc]))
    unfold rdf at h ⊢
    by_cases h10 : i = 10
    · rw [if_pos h10] at h; simp at h
    · rw [if_neg h10] at h ⊢
      by_cases h128 : 128 ≤ c
      · rw [if_pos h128] at h ⊢
        by_cases hok : (rdf (i + 1) cs).2.2 = 0
        · rw [if_pos hok] at h ⊢
          obtain ⟨a1, a2, a3, a4, a5, a6⟩ := ih (by omega) hok
          have a2 := a2 (by omega)
          simp only
          refine ⟨?_, fun _ => by omega, by omega, by omega, by simp; omega, ?_⟩
          · rw [vl_more (by omega)]
            rw [show (c.toNat % 128 + 128 * (rdf (i + 1) cs).1) / 128 = (rdf (i + 1) cs).1 by omega, a1, List.take_succ_cons]
            congr 1
            omega
          · rw [Nat.pow_succ] at a6
            have e : (rdf (i + 1) cs).1 * (128 ^ i * 128) = (128 * (rdf (i + 1) cs).1) * 128 ^ i := by rw [Nat.mul_comm (128 ^ i) 128, ← Nat.mul_assoc, Nat.mul_comm _ 128]
            rw [e] at a6
            have hlt : (128 * (rdf (i + 1) cs).1) + c.toNat % 128 < 128 * (rdf (i + 1) cs).1 + 128 := by omega
            -- both are multiples of 128 ^ (i + 1) below 2 ^ 64, i + 1 ≤ 9
            have hi9 : i + 1 ≤ 9 := by omega
            have hdvd : 128 ^ (i + 1) * 128 ^ (9 - (i + 1)) * 2 = 18446744073709551616 := by
              rw [← Nat.pow_add, show i + 1 + (9 - (i + 1)) = 9 by omega]
            have hp : 0 < 128 ^ (i + 1) := Nat.pow_pos (by omega)
            generalize hP : 128 ^ (i + 1) = P at *
            have e2 : 128 * (rdf (i + 1) cs).1 * 128 ^ i = (rdf (i + 1) cs).1 * P := by rw [← hP, Nat.pow_succ]; rw [Nat.mul_comm (128 ^ i) 128, ← Nat.mul_assoc, Nat.mul_comm _ 128]
            rw [e2] at a6
            generalize hR : (rdf (i + 1) cs).1 = R at *
            have hk : R < 128 ^ (9 - (i + 1)) * 2 := by
              rw [← hdvd, Nat.mul_assoc, Nat.mul_comm P] at a6
              exact Nat.lt_of_mul_lt_mul_right a6
            have hle : (R + 1) * P ≤ 18446744073709551616 := by
              rw [← hdvd, Nat.mul_assoc, Nat.mul_comm P]
              exact Nat.mul_le_mul_right _ hk
            have hfin : (c.toNat % 128 + 128 * R) * 128 ^ i < (128 + 128 * R) * 128 ^ i := Nat.mul_lt_mul_of_pos_right (by omega) (Nat.pow_pos (by omega))
            have e3 : (128 + 128 * R) * 128 ^ i = (R + 1) * P := by
              rw [← hP, Nat.pow_succ, show 128 + 128 * R = 128 * (R + 1) by omega, Nat.mul_comm (128 ^ i) 128, ← Nat.mul_assoc, Nat.mul_comm 128 (R + 1)]
            omega
        · rw [if_neg hok] at h; exact absurd h hok
      · rw [if_neg h128] at h ⊢
        by_cases hbad : (0 < i ∧ c = 0) ∨ (i = 9 ∧ 1 < c)
        · rw [if_pos hbad] at h; simp at h
        · rw [if_neg hbad]
          have hi10 : i < 10 := by omega
          simp only
          refine ⟨?_, fun hi => ?_, by simp; omega, by simp, by simp, ?_⟩
          · rw [vl_one (by omega)]; simp; omega
          · rcases Nat.eq_zero_or_pos c.toNat with q | q
            · exfalso; apply hbad; left; omega
            · exact q
          · rcases Nat.lt_or_ge i 9 with q | q
            · have : 128 ^ i ≤ 128 ^ 8 := Nat.pow_le_pow_right (by omega) (by omega)
              have h1 : c.toNat * 128 ^ i ≤ 127 * 128 ^ 8 := Nat.mul_le_mul (by omega) this
              exact Nat.lt_of_le_of_lt h1 (by decide)
            · have : i = 9 := by omega
              subst this
              have : c.toNat ≤ 1 := by
                rcases Nat.lt_or_ge 1 c.toNat with q | q
                · exfalso; apply hbad; right; omega
                · exact q
              have h1 : c.toNat * 128 ^ 9 ≤ 1 * 128 ^ 9 := Nat.mul_le_mul this (Nat.le_refl _)
              exact Nat.lt_of_le_of_lt h1 (by decide)
theorem rd_only {bs : List Int} (hb : ∀ c ∈ bs, 0 ≤ c ∧ c ≤ 255) (h : (rd bs).2.2 = 0) : vl (rd bs).1 = bs.take (rd bs).2.1 ∧ (rd bs).2.1 ≤ 10 ∧ 1 ≤ (rd bs).2.1 ∧ (rd bs).2.1 ≤ bs.length ∧ (rd bs).1 < 18446744073709551616 := by
  obtain ⟨a1, a2, a3, a4, a5, a6⟩ := rdf_only bs 0 (by omega) hb h
  exact ⟨a1, by simpa [rd] using a3, a4, a5, by simpa [rd] using a6⟩
/-- No varint begins another. -/
theorem vl_apart {x y : Nat} (hx : x < 18446744073709551616) (hy : y < 18446744073709551616) {t : List Int} (h : vl y = vl x ++ t) : x = y := by
  have a := rd_vl x hx t
  have b := rd_vl' y hy
  rw [h, a] at b
  injection b
end Go.Proofs.YteedkcmjhdabeaaDoor
