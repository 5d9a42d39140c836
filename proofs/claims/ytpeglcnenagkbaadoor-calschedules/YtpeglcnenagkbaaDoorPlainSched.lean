/-
  SCHEDULES, WITHOUT THE PROGRAM: tenors lead upward, adjusting keeps the order, likes side by side are one.
-/
import Derived.Test.YtpeglcnenagkbaaDoorWCal9
import Derived.Test.YtpeglcnenagkbaaDoorWRefAdj2
import Derived.Lib.SlicesCompact
namespace Go.Proofs.YtpeglcnenagkbaaDoor
open Go.RowKit
open Cal
set_option linter.unusedVariables false
set_option linter.unusedSimpArgs false

theorem mon_lt {y m d y' m' d' : Int} (h : exB y m d = true) (h' : exB y' m' d' = true) (k : 12 * y + m < 12 * y' + m') : num y m d < num y' m' d' := by
  obtain ⟨a1, a2, a3, a4, a5, a6⟩ := ex_out h
  obtain ⟨b1, b2, b3, b4, b5, b6⟩ := ex_out h'
  by_cases e : y = y'
  · subst e
    have c1 := cum_succ y m a3 a4
    have c2 := cum_mono y (a := m + 1) (b := m') (by omega) (by omega) (by omega)
    unfold num
    omega
  · have n1 := (num_bd h).2.2.2
    have n2 := (num_bd h').2.2.1
    have n3 := ys_mono (a := y + 1) (b := y') (by omega)
    omega
theorem mon_le {y m d y' m' d' : Int} (h : exB y m d = true) (h' : exB y' m' d' = true) (k : num y m d ≤ num y' m' d') : 12 * y + m ≤ 12 * y' + m' := by
  by_cases q : 12 * y' + m' < 12 * y + m
  · have := mon_lt h' h q; omega
  · omega

/-- Add has led to a date. -/
theorem add_ok {y m d N u n Y M D : Int} (h : AddIs y m d N u n Y M D 0) : tenB N u = true ∧ exB y m d = true ∧ n ≤ 109573 ∧ exB Y M D = true ∧
    ((u = 1 ∧ num Y M D = num y m d + N * n) ∨ (u = 2 ∧ num Y M D = num y m d + 7 * N * n) ∨ (u = 3 ∧ 12 * Y + M = 12 * y + m + N * n) ∨ (u = 4 ∧ 12 * Y + M = 12 * y + m + 12 * N * n)) := by
  unfold AddIs at h
  by_cases a1 : tenB N u = false
  · rw [if_pos a1] at h; omega
  rw [if_neg a1] at h
  have t : tenB N u = true := by simpa using a1
  obtain ⟨t1, t2, t3, t4⟩ := ten_out t
  by_cases a2 : exB y m d = false
  · rw [if_pos a2] at h; omega
  rw [if_neg a2] at h
  have x : exB y m d = true := by simpa using a2
  obtain ⟨x1, x2, x3, x4, x5, x6⟩ := ex_out x
  by_cases a3 : 109573 < n ∨ n < -109573
  · rw [if_pos a3] at h; omega
  rw [if_neg a3] at h
  have mo : ∀ q, monOr q d Y M D 0 → exB Y M D = true ∧ 12 * Y + M = 12 * 1900 + q + 1 := by
    intro q hq
    unfold monOr at hq
    by_cases b : 0 ≤ q ∧ q < 3600
    · rw [if_pos b] at hq
      obtain ⟨rfl, rfl, rfl, _⟩ := hq
      have l := len_bd (1900 + q / 12) (q % 12 + 1)
      refine ⟨ex_mk ⟨by omega, by omega, by omega, by omega, ?_, ?_⟩, by omega⟩
      · unfold cutD; split <;> omega
      · unfold cutD; split <;> omega
    · rw [if_neg b] at hq; omega
  have da : ∀ k, dayOr k Y M D 0 → exB Y M D = true ∧ num Y M D = k := by
    intro k hk
    unfold dayOr at hk
    by_cases b : 0 ≤ k ∧ k < 109573
    · rw [if_pos b] at hk; exact ⟨hk.1, hk.2.1⟩
    · rw [if_neg b] at hk; omega
  by_cases a4 : u = 1
  · rw [if_pos a4] at h
    exact ⟨t, x, by omega, (da _ h).1, .inl ⟨a4, (da _ h).2⟩⟩
  rw [if_neg a4] at h
  by_cases a5 : u = 2
  · rw [if_pos a5] at h
    exact ⟨t, x, by omega, (da _ h).1, .inr (.inl ⟨a5, (da _ h).2⟩)⟩
  rw [if_neg a5] at h
  by_cases a6 : u = 3
  · rw [if_pos a6] at h
    exact ⟨t, x, by omega, (mo _ h).1, .inr (.inr (.inl ⟨a6, by have := (mo _ h).2; omega⟩))⟩
  rw [if_neg a6] at h
  exact ⟨t, x, by omega, (mo _ h).1, .inr (.inr (.inr ⟨by omega, by have := (mo _ h).2; omega⟩))⟩
theorem add_rise {y m d N u i j Y M D Y' M' D' : Int} (h : AddIs y m d N u i Y M D 0) (h' : AddIs y m d N u j Y' M' D' 0) (k : i < j) : num Y M D < num Y' M' D' := by
  obtain ⟨t, _, _, x, c⟩ := add_ok h
  obtain ⟨_, _, _, x', c'⟩ := add_ok h'
  obtain ⟨t1, t2, t3, t4⟩ := ten_out t
  have e : N * i < N * j := Int.mul_lt_mul_of_pos_left k (by omega)
  have e7 : 7 * N * i < 7 * N * j := Int.mul_lt_mul_of_pos_left k (by omega)
  have e12 : 12 * N * i < 12 * N * j := Int.mul_lt_mul_of_pos_left k (by omega)
  rcases c with ⟨c1, c2⟩ | ⟨c1, c2⟩ | ⟨c1, c2⟩ | ⟨c1, c2⟩ <;> rcases c' with ⟨d1, d2⟩ | ⟨d1, d2⟩ | ⟨d1, d2⟩ | ⟨d1, d2⟩ <;> first
    | (exfalso; omega)
    | omega
    | (exact mon_lt x x' (by omega))

/-- Adjusting keeps the order of days. -/
theorem adj_mono {d d' conv r r' : Int} {zs : List Int} (h : AdjIs d conv zs r 0) (h' : AdjIs d' conv zs r' 0) (k : d ≤ d') (hd : ∃ y m x, exB y m x = true ∧ num y m x = d) (hd' : ∃ y m x, exB y m x = true ∧ num y m x = d') : r ≤ r' := by
  have upm : ∀ u u', UpIs d u zs → UpIs d' u' zs → 0 ≤ u → 0 ≤ u' → u ≤ u' := fun u u' a b p q => by
    rcases a with ⟨a, _⟩ | ⟨a1, a2, a3⟩
    · omega
    · rcases b with ⟨b, _⟩ | ⟨b1, b2, b3⟩
      · omega
      · by_cases e : u' < u
        · have := a3 u' (by omega) e; rw [b2] at this; cases this
        · omega
  have dnm : ∀ u u', DownIs d u zs → DownIs d' u' zs → 0 ≤ u → 0 ≤ u' → u ≤ u' := fun u u' a b p q => by
    rcases a with ⟨a, _⟩ | ⟨a1, a2, a3⟩
    · omega
    · rcases b with ⟨b, _⟩ | ⟨b1, b2, b3⟩
      · omega
      · by_cases e : u' < u
        · have := b3 u (by omega) e; rw [a2] at this; cases this
        · omega
  unfold AdjIs at h h'
  rcases h with ⟨c, a, b⟩ | ⟨c, u, a, b⟩ | ⟨c, u, a, b⟩ | ⟨c, u, a, b⟩ <;> rcases h' with ⟨c', a', b'⟩ | ⟨c', u', a', b'⟩ | ⟨c', u', a', b'⟩ | ⟨c', u', a', b'⟩ <;> first
    | (exfalso; omega)
    | omega
    | skip
  · rcases b with b | b <;> rcases b' with b' | b' <;> try omega
    have := upm u u' a a' (by omega) (by omega); omega
  · rcases b with b | b <;> rcases b' with b' | b' <;> try omega
    have := dnm u u' a a' (by omega) (by omega); omega
  · rcases b with ⟨b1, b2⟩ | ⟨b1, v, b2, b3⟩ <;> rcases b' with ⟨e1, e2⟩ | ⟨e1, v', e2, e3⟩
    · have := upm u u' a a' b1.1 e1.1; omega
    · -- up, in the month; the later day goes down
      rcases e3 with e3 | e3
      · omega
      · rcases a with ⟨a, _⟩ | ⟨a1, a2, a3⟩
        · have := b1.1; omega
        · rcases e2 with ⟨e2, _⟩ | ⟨f1, f2, f3⟩
          · omega
          · by_cases q : u ≤ d'
            · by_cases g : v' < u
              · have := f3 u q g; rw [a2] at this; cases this
              · omega
            · -- no business day lies between: the later day would go up, into the same month
              exfalso
              have hu : u' = u := by
                rcases a' with ⟨z, z1⟩ | ⟨z1, z2, z3⟩
                · have := z1 u (by omega); rw [a2] at this; cases this
                · by_cases g : u' < u
                  · have := a3 u' (by omega) g; rw [z2] at this; cases this
                  · by_cases g' : u < u'
                    · have := z3 u (by omega) g'; rw [a2] at this; cases this
                    · omega
              subst hu
              refine e1 ⟨b1.1, fun p q' hp hq => ?_⟩
              obtain ⟨y, m, x, y1, y2⟩ := hd
              have e := b1.2 p (12 * y + m) hp ⟨y, m, x, y1, y2, rfl⟩
              obtain ⟨y3, m3, x3, p1, p2, p3⟩ := hp
              obtain ⟨y4, m4, x4, p4, p5, p6⟩ := hq
              have g1 := mon_le y1 p4 (by omega)
              have g2 := mon_le p4 p1 (by omega)
              omega
    · rcases b3 with b3 | b3
      · omega
      · rcases b2 with ⟨b2, _⟩ | ⟨f1, f2, f3⟩
        · omega
        · rcases a' with ⟨z, z1⟩ | ⟨z1, z2, z3⟩
          · have := e1.1; omega
          · omega
    · rcases b3 with b3 | b3 <;> rcases e3 with e3 | e3 <;> try omega
      have := dnm v v' b2 e2 (by omega) (by omega); omega

/-- The first i days, likes side by side once. -/
def Cn (rs : List Int) (i : Nat) : List Int := Lib.compactUpTo rs.toArray i
theorem cn_zero (rs : List Int) : Cn rs 0 = [] := rfl
theorem cn_all (rs : List Int) : Cn rs rs.length = Lib.compact rs := rfl
theorem arr_get (rs : List Int) (i : Nat) : rs.toArray[i]! = rs.getD i 0 := by
  by_cases h : i < rs.length
  · simp [List.getD, h]
  · simp only [Array.getElem!_eq_getD, List.getD, Array.getD]
    rw [dif_neg (by simpa using h), List.getElem?_eq_none (by omega)]; rfl
theorem cn_succ (rs : List Int) (i : Nat) : Cn rs (i + 1) = Cn rs i ++ (if i = 0 ∨ rs.getD i 0 ≠ rs.getD (i - 1) 0 then [rs.getD i 0] else []) := by
  unfold Cn
  rw [Lib.compactUpTo_succ]
  unfold Lib.keeps
  rw [arr_get, arr_get]
  by_cases h : i = 0 ∨ rs.getD i 0 ≠ rs.getD (i - 1) 0
  · rw [if_pos h, if_pos (by simpa using h)]
  · rw [if_neg h, if_neg (by simpa using h)]
theorem cn_last (rs : List Int) : ∀ i, 1 ≤ (Cn rs (i + 1)).length ∧ (Cn rs (i + 1)).getD ((Cn rs (i + 1)).length - 1) 0 = rs.getD i 0
  | 0 => by rw [cn_succ, cn_zero]; simp
  | i + 1 => by
    have ih := cn_last rs i
    rw [cn_succ]
    by_cases h : i + 1 = 0 ∨ rs.getD (i + 1) 0 ≠ rs.getD (i + 1 - 1) 0
    · rw [if_pos h]; simp [List.getD]
    · rw [if_neg h, List.append_nil]
      have e : rs.getD (i + 1) 0 = rs.getD i 0 := by
        by_cases q : rs.getD (i + 1) 0 = rs.getD (i + 1 - 1) 0
        · exact q
        · exact absurd (.inr q) h
      exact ⟨ih.1, ih.2.trans e.symm⟩
theorem cn_pre (rs : List Int) (i : Nat) : ∀ k, Cn rs i <+: Cn rs (i + k)
  | 0 => List.prefix_rfl
  | k + 1 => (cn_pre rs i k).trans (by rw [← Nat.add_assoc, cn_succ]; exact List.prefix_append _ _)
theorem cn_getD {rs : List Int} {i n k : Nat} (h : i ≤ n) (hk : k < (Cn rs i).length) : (Cn rs n).getD k 0 = (Cn rs i).getD k 0 := by
  obtain ⟨j, rfl⟩ : ∃ j, n = i + j := ⟨n - i, by omega⟩
  obtain ⟨r, hr⟩ := cn_pre rs i j
  rw [← hr]
  simp [List.getD, List.getElem?_append_left hk]
theorem cn_len {rs : List Int} {i n : Nat} (h : i ≤ n) : (Cn rs i).length ≤ (Cn rs n).length := by
  obtain ⟨j, rfl⟩ : ∃ j, n = i + j := ⟨n - i, by omega⟩
  exact (cn_pre rs i j).length_le
/-- Where the days do not fall, what is left rises. -/
theorem cn_rise {rs : List Int} (h : ∀ i, i + 1 < rs.length → rs.getD i 0 ≤ rs.getD (i + 1) 0) : ∀ i, i ≤ rs.length → ∀ k, k + 1 < (Cn rs i).length → (Cn rs i).getD k 0 < (Cn rs i).getD (k + 1) 0
  | 0, _, k, hk => by rw [cn_zero] at hk; simp at hk
  | i + 1, hi, k, hk => by
    have ih := cn_rise h i (by omega)
    rw [cn_succ] at hk ⊢
    by_cases q : i = 0 ∨ rs.getD i 0 ≠ rs.getD (i - 1) 0
    · rw [if_pos q] at hk ⊢
      simp at hk
      by_cases e : k + 1 < (Cn rs i).length
      · have := ih k e
        simp only [List.getD] at this ⊢
        rw [List.getElem?_append_left (by omega), List.getElem?_append_left (by omega)]
        exact this
      · have ek : k + 1 = (Cn rs i).length := by omega
        have hi0 : i ≠ 0 := by rintro rfl; rw [cn_zero] at ek; simp at ek
        obtain ⟨j, rfl⟩ : ∃ j, i = j + 1 := ⟨i - 1, by omega⟩
        have l := (cn_last rs j).2
        have m := h j (by omega)
        have ne : rs.getD (j + 1) 0 ≠ rs.getD j 0 := by
          rcases q with q | q
          · omega
          · exact q
        have l' : (Cn rs (j + 1)).getD k 0 = rs.getD j 0 := by rw [← l]; congr 1; omega
        have g1 : (Cn rs (j + 1) ++ [rs.getD (j + 1) 0]).getD k 0 = rs.getD j 0 := by
          rw [← l']; simp only [List.getD]; rw [List.getElem?_append_left (by omega)]
        have g2 : (Cn rs (j + 1) ++ [rs.getD (j + 1) 0]).getD (k + 1) 0 = rs.getD (j + 1) 0 := by
          simp only [List.getD]; rw [List.getElem?_append_right (by omega), ek]; simp
        rw [g1, g2]; omega
    · rw [if_neg q, List.append_nil] at hk ⊢
      exact ih k hk
end Go.Proofs.YtpeglcnenagkbaaDoor
