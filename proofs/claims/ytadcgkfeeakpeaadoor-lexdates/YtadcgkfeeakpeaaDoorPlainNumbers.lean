/-
  PLAIN: the texts of numbers, cut (no model in this text).
-/
import Derived.Test.YtadcgkfeeakpeaaDoorPlainBack
import Derived.Test.YtadcgkfeeakpeaaDoorPlainNames
namespace Go.Proofs.YtadcgkfeeakpeaaDoor
namespace Lx
set_option linter.unusedVariables false
set_option linter.unusedSimpArgs false

theorem decD (n : Nat) : ∀ c ∈ Lib.decDigits n, dgN c.toNat = true := fun c hc => by
  have := dec_d n c hc
  unfold isD at this
  unfold dgN
  simp only [Bool.and_eq_true, decide_eq_true_eq]
  omega
theorem dec_head : ∀ (k n : Nat), n ≤ k → 1 ≤ n → ((Lib.decDigits n).headD 0).toNat ≠ 48
  | 0, n, h, h1 => by omega
  | k + 1, n, h, h1 => by
    rw [Lib.decDigits]
    by_cases h10 : n < 10
    · rw [dif_pos h10, List.headD_cons, UInt8.toNat_ofNat']; omega
    · rw [dif_neg h10]
      have ih := dec_head k (n / 10) (by omega) (by omega)
      have hn := dec_neB (n / 10)
      cases hq : Lib.decDigits (n / 10) with
      | nil => exact absurd hq hn
      | cons c q => rw [hq] at ih; simpa using ih
theorem dec_mag (n : Nat) (h : n < 18446744073709551616) : Lib.parseMag (Lib.decDigits n) = .ok n := by
  unfold Lib.parseMag
  rw [if_neg (dec_neB n)]
  exact pu_dec n h
theorem dec_atoi (n : Nat) (h : n < 18446744073709551616) : Lib.atoiAll (Lib.decDigits n) = if n < 9223372036854775808 then .ok (n : Int) else .range := by
  have hd := decD n
  cases hq : Lib.decDigits n with
  | nil => exact absurd hq (dec_neB n)
  | cons c q =>
    have hc := hd c (by rw [hq]; exact List.mem_cons_self)
    simp only [dgN, Bool.and_eq_true, decide_eq_true_eq] at hc
    have hm := dec_mag n h
    rw [hq] at hm
    simp only [Lib.atoiAll]
    rw [if_neg (by omega), hm]
    simp only
    by_cases hs : n < 9223372036854775808
    · rw [if_neg (by omega), if_neg (by omega), if_pos hs, if_neg (by omega)]
    · rw [if_pos (by omega), if_neg hs]
theorem numO_dec (n : Nat) (h : n < 18446744073709551616) : numO (Lib.decDigits n) = if n < 9223372036854775808 then some (n : Int) else none := by
  have hz : ¬ (((Lib.decDigits n).headD 0).toNat = 48 ∧ 1 < (Lib.decDigits n).length) := by
    rintro ⟨h1, h2⟩
    rcases Nat.lt_or_ge n 1 with q | q
    · obtain rfl : n = 0 := by omega
      rw [Lib.decDigits, dif_pos (by omega)] at h2
      simp at h2
    · exact dec_head n n (Nat.le_refl _) q h1
  unfold numO
  rw [if_neg hz, if_pos (by unfold allD; rw [List.all_eq_true]; exact decD n), dec_atoi n h]
  by_cases hs : n < 9223372036854775808
  · rw [if_pos hs, if_pos hs]
  · rw [if_neg hs, if_neg hs]
theorem fits_rn {l : L} (h : ∀ c ∈ l, rnN c.toNat = true) : fits form l = false := by
  cases hf : fits form l with
  | false => rfl
  | true =>
    exfalso
    have hl : 10 ≤ l.length := fits_len hf
    match l, hl, hf, h with
    | c0 :: c1 :: c2 :: c3 :: c4 :: q, _, hf, h =>
      simp only [form, fits, Bool.and_eq_true] at hf
      obtain ⟨_, _, _, _, h4, _⟩ := hf
      have : c4.toNat = 45 := by simpa [fitN] using h4
      have hr := h c4 (by simp)
      rw [this] at hr
      exact absurd hr (by decide)
theorem dg_not {c : Nat} (h : dgN c = true) : blN c = false ∧ c ≠ 35 := by
  simp only [dgN, Bool.and_eq_true, decide_eq_true_eq] at h
  exact ⟨by unfold blN; simp; omega, by omega⟩
theorem step_dig {l : L} (hr : ∀ c ∈ l, rnN c.toNat = true) (hd : dgN (l.headD 0).toNat = true) (hn : l ≠ []) : step l = digT l := by
  have h1 := dg_not hd
  unfold step
  rw [if_neg (by rw [h1.1]; simp), if_neg h1.2, if_neg (by rw [fits_rn hr]; simp), if_pos hd, show run l = l from takeW_self hr]
theorem last_dig {l : L} (hn : l ≠ []) (h : ∀ c ∈ l, dgN c.toNat = true) : unN (lastN l) = 0 := by
  have : ∃ c ∈ l, lastN l = c.toNat := ⟨l.getLast hn, List.getLast_mem hn, by unfold lastN; rw [List.getLast?_eq_some_getLast hn]; rfl⟩
  obtain ⟨c, hc, e⟩ := this
  have := h c hc
  simp only [dgN, Bool.and_eq_true, decide_eq_true_eq] at this
  rw [e]; unfold unN
  rw [if_neg (by omega), if_neg (by omega), if_neg (by omega), if_neg (by omega)]
theorem head_mem {l : L} (hn : l ≠ []) : l.headD 0 ∈ l := by cases l with
  | nil => exact absurd rfl hn
  | cons c q => exact List.mem_cons_self
theorem dec_step (n : Nat) (h : n < 18446744073709551616) : step (Lib.decDigits n) = if n < 9223372036854775808 then .tok ⟨3, Lib.decDigits n, 0, n, 0, 0, 0, 0, 0⟩ else .err 0 62 := by
  have hd := decD n
  have hn := dec_neB n
  rw [step_dig (fun c hc => rn_dg (hd c hc)) (hd _ (head_mem hn)) hn]
  unfold digT
  rw [last_dig hn hd, if_pos rfl, numO_dec n h]
  by_cases hs : n < 9223372036854775808
  · rw [if_pos hs, if_pos hs]; simp
  · rw [if_neg hs, if_neg hs]
theorem sc_num (n : Nat) (h : n < 9223372036854775808) (at_ : Nat) : Sc (Lib.decDigits n) at_ [⟨3, Lib.decDigits n, at_, n, 0, 0, 0, 0, 0⟩] 0 0 := by
  have hs := dec_step n (by omega)
  rw [if_pos h] at hs
  exact Sc.tok (ts := []) (dec_neB n) hs (by simpa using Sc.done _)
theorem sc_big (n : Nat) (h : n < 18446744073709551616) (h' : ¬ n < 9223372036854775808) (at_ : Nat) : Sc (Lib.decDigits n) at_ [] at_ 62 := by
  have hs := dec_step n h
  rw [if_neg h'] at hs
  exact Sc.err (dec_neB n) hs
theorem step_minus (l : L) : step (45 :: l) = .tok ⟨6, [45], 0, 0, 0, 0, 0, 0, 0⟩ := by
  have hp : isPair (45 :: l) = false := by
    cases l with
    | nil => rfl
    | cons d q => show pairN 45 d.toNat = false; unfold pairN prL; simp
  have hf : fits form (45 :: l) = false := rfl
  unfold step
  rw [show (45 :: l : L).headD 0 = 45 from rfl, if_neg (by decide), if_neg (by decide), if_neg (by rw [hf]; simp), if_neg (by decide), if_neg (by decide), if_neg (by decide)]
  unfold marT
  rw [if_neg (by rw [hp]; simp), if_pos (by rfl)]
  rfl
theorem sc_minus {l : L} {ts : List Tok} {p : Nat} {e : Int} (h : Sc l 1 ts p e) : Sc (45 :: l) 0 (⟨6, [45], 0, 0, 0, 0, 0, 0, 0⟩ :: ts) p e :=
  Sc.tok (t := ⟨6, [45], 0, 0, 0, 0, 0, 0, 0⟩) (by simp) (step_minus l) h
theorem sc_zero (n : Nat) : Sc (48 :: Lib.decDigits n) 0 [] 0 62 := by
  have hd := decD n
  have hn := dec_neB n
  have hall : ∀ c ∈ (48 :: Lib.decDigits n : L), dgN c.toNat = true := fun c hc => by rcases List.mem_cons.1 hc with rfl | hc; rfl; exact hd c hc
  have hs : step (48 :: Lib.decDigits n) = .err 0 62 := by
    rw [step_dig (fun c hc => rn_dg (hall c hc)) (hall _ (head_mem (by simp))) (by simp)]
    unfold digT
    rw [last_dig (by simp) hall, if_pos rfl]
    have : numO (48 :: Lib.decDigits n) = none := by
      unfold numO
      rw [if_pos ⟨rfl, by have := List.length_pos_iff.2 hn; simp only [List.length_cons]; omega⟩]
    rw [this]
  exact Sc.err (at_ := 0) (by simp) hs
theorem sc_ten (n : Nat) (h : n < 9223372036854775808) (x : UInt8) (hx : unN x.toNat ≠ 0) : (n < 1 ∨ 999 < n → Sc (Lib.decDigits n ++ [x]) 0 [] 0 62) ∧ (¬ (n < 1 ∨ 999 < n) → Sc (Lib.decDigits n ++ [x]) 0 [⟨5, Lib.decDigits n ++ [x], 0, 0, 0, 0, 0, n, unN x.toNat⟩] 0 0) := by
  have hd := decD n
  have hn := dec_neB n
  have hxr : rnN x.toNat = true := by
    unfold unN at hx
    have : x.toNat = 100 ∨ x.toNat = 119 ∨ x.toNat = 109 ∨ x.toNat = 121 := by
      by_cases a : x.toNat = 100
      · exact .inl a
      · by_cases b : x.toNat = 119
        · exact .inr (.inl b)
        · by_cases c : x.toNat = 109
          · exact .inr (.inr (.inl c))
          · by_cases d : x.toNat = 121
            · exact .inr (.inr (.inr d))
            · rw [if_neg a, if_neg b, if_neg c, if_neg d] at hx; exact absurd rfl hx
    rcases this with e | e | e | e <;> rw [e] <;> rfl
  have hall : ∀ c ∈ Lib.decDigits n ++ [x], rnN c.toNat = true := fun c hc => by
    rcases List.mem_append.1 hc with hc | hc
    · exact rn_dg (hd c hc)
    · rw [List.mem_singleton.1 hc]; exact hxr
  have hh : (Lib.decDigits n ++ [x]).headD 0 = (Lib.decDigits n).headD 0 := by cases hq : Lib.decDigits n with
    | nil => exact absurd hq hn
    | cons c q => rfl
  have hne : Lib.decDigits n ++ [x] ≠ [] := by simp
  have hs : step (Lib.decDigits n ++ [x]) = if n < 1 ∨ 999 < n then .err 0 62 else .tok ⟨5, Lib.decDigits n ++ [x], 0, 0, 0, 0, 0, n, unN x.toNat⟩ := by
    rw [step_dig hall (by rw [hh]; exact hd _ (head_mem hn)) hne]
    unfold digT
    have hl : lastN (Lib.decDigits n ++ [x]) = x.toNat := by unfold lastN; simp
    rw [hl, if_neg hx, List.dropLast_concat, numO_dec n (by omega), if_pos h]
    simp only
    rw [if_neg hx]
    by_cases hr : n < 1 ∨ 999 < n
    · rw [if_pos hr, if_pos (by omega)]
    · rw [if_neg hr, if_neg (by omega)]
  constructor
  · intro hr
    rw [if_pos hr] at hs
    exact Sc.err (at_ := 0) hne hs
  · intro hr
    rw [if_neg hr] at hs
    exact Sc.tok (at_ := 0) (ts := []) hne hs (by simpa using Sc.done _)
end Lx
end Go.Proofs.YtadcgkfeeakpeaaDoor
