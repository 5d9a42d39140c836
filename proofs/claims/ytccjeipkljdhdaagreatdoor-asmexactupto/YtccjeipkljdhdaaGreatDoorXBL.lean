import Derived.Test.YtccjeipkljdhdaaGreatDoorXAD
import Derived.Test.YtccjeipkljdhdaaGreatDoorXAH
import Derived.Test.YtccjeipkljdhdaaGreatDoorXAM
namespace Go.Proofs.YtccjeipkljdhdaaGreatDoor
open Go.RowKit
set_option linter.unusedVariables false
set_option linter.unusedSimpArgs false

instance (c : UInt8) : Decidable (isD c) := by unfold isD; exact inferInstance
/-- The number of a row of digits. -/
def nvQ (acc : Nat) (l : List UInt8) : Nat := l.foldl (fun a c => 10 * a + (c.toNat - 48)) acc
theorem nvQ_nil (acc : Nat) : nvQ acc [] = acc := by unfold nvQ; rw [List.foldl_nil]
theorem nvQ_snoc (a : List UInt8) (c : UInt8) (acc : Nat) : nvQ acc (a ++ [c]) = 10 * nvQ acc a + (c.toNat - 48) := by
  unfold nvQ
  rw [List.foldl_append, List.foldl_cons, List.foldl_nil]
theorem nvQ_one (c : UInt8) : nvQ 0 [c] = c.toNat - 48 := by
  have := nvQ_snoc [] c 0
  rw [nvQ_nil, List.nil_append] at this
  omega
theorem snocQ {α : Type} {t : List α} (h : t ≠ []) : ∃ a c, t = a ++ [c] := ⟨t.dropLast, t.getLast h, (List.dropLast_concat_getLast h).symm⟩
theorem nvQ_lt : ∀ (n : Nat) (a : List UInt8), a.length = n → (∀ c ∈ a, isD c) → nvQ 0 a < 10 ^ n
  | 0, a, hn, h => by rw [List.length_eq_zero_iff.1 hn]; decide
  | n + 1, t, hn, h => by
    obtain ⟨a, c, rfl⟩ := snocQ (t := t) (fun e => by rw [e] at hn; cases hn)
    have := nvQ_lt n a (by simpa using hn) (fun x hx => h x (by simp [hx]))
    have hc := h c (by simp)
    unfold isD at hc
    rw [nvQ_snoc, Nat.pow_succ]
    omega
theorem decQ_next {n d : Nat} (hn : 1 ≤ n) (hd : d ≤ 9) : Lib.decDigits (10 * n + d) = Lib.decDigits n ++ [UInt8.ofNat (48 + d)] := by
  rw [Lib.decDigits, dif_neg (by omega), show (10 * n + d) / 10 = n by omega, show (10 * n + d) % 10 = d by omega]
theorem decQ_one {d : Nat} (hd : d ≤ 9) : Lib.decDigits d = [UInt8.ofNat (48 + d)] := by rw [Lib.decDigits, dif_pos (by omega)]
theorem nvQ_dec (n : Nat) : nvQ 0 (Lib.decDigits n) = n := by
  induction n using Nat.strongRecOn with
  | _ n ih =>
    by_cases h : n < 10
    · rw [decQ_one (by omega)]
      rw [nvQ_one, ofNat_d (by omega)]; omega
    · obtain ⟨m, d, rfl, hd, hm⟩ : ∃ m d, n = 10 * m + d ∧ d ≤ 9 ∧ 1 ≤ m := ⟨n / 10, n % 10, by omega, by omega, by omega⟩
      rw [decQ_next hm hd, nvQ_snoc, ih m (by omega), ofNat_d (by omega)]
      omega
theorem decQ_head (n : Nat) : 1 ≤ n → (Lib.decDigits n).head? ≠ some 48 := by
  induction n using Nat.strongRecOn with
  | _ n ih =>
    intro h1
    by_cases h : n < 10
    · rw [decQ_one (by omega)]
      intro e
      simp only [List.head?_cons, Option.some.injEq] at e
      have := congrArg UInt8.toNat e
      rw [ofNat_d (by omega)] at this
      have h48 : (48 : UInt8).toNat = 48 := rfl
      omega
    · obtain ⟨m, d, rfl, hd, hm⟩ : ∃ m d, n = 10 * m + d ∧ d ≤ 9 ∧ 1 ≤ m := ⟨n / 10, n % 10, by omega, by omega, by omega⟩
      rw [decQ_next hm hd]
      have := ih m (by omega) hm
      have ne := dec_neB m
      cases hl : Lib.decDigits m with
      | nil => exact absurd hl ne
      | cons x l => rw [hl] at this; simpa using this
/-- Digits without a zero ahead of others. -/
structure CanQ (t : List UInt8) : Prop where
  ne : t ≠ []
  d : ∀ c ∈ t, isD c
  z : ¬ (1 < t.length ∧ t.head? = some 48)
theorem CanQ.dec {t : List UInt8} (h : CanQ t) : Lib.decDigits (nvQ 0 t) = t := by
  obtain ⟨n, hn⟩ : ∃ n, t.length = n := ⟨_, rfl⟩
  induction n generalizing t with
  | zero => exact absurd (List.length_eq_zero_iff.1 hn) h.ne
  | succ n ih =>
    obtain ⟨a, c, rfl⟩ : ∃ a c, t = a ++ [c] := ⟨t.dropLast, t.getLast h.ne, (List.dropLast_concat_getLast h.ne).symm⟩
    have hc := h.d c (by simp)
    unfold isD at hc
    have cc : UInt8.ofNat (48 + (c.toNat - 48)) = c := UInt8.toNat_inj.1 (by rw [UInt8.toNat_ofNat']; omega)
    rw [nvQ_snoc]
    cases a with
    | nil => rw [nvQ_nil, show 10 * 0 + (c.toNat - 48) = c.toNat - 48 by omega, decQ_one (by omega), cc]; rfl
    | cons x a =>
      have hz := h.z
      simp only [List.length_append, List.length_cons, List.length_nil, List.cons_append, List.head?_cons] at hz
      have ca : CanQ (x :: a) := ⟨by simp, fun y hy => h.d y (List.mem_append_left _ hy), fun q => hz ⟨by omega, q.2⟩⟩
      have e := ih ca (by simpa using hn)
      have n1 : 1 ≤ nvQ 0 (x :: a) := by
        rcases Nat.eq_zero_or_pos (nvQ 0 (x :: a)) with q | q
        · rw [q, decQ_one (by omega)] at e
          injection e with e1 _
          exact absurd ⟨by omega, by rw [← e1]; rfl⟩ hz
        · exact q
      rw [decQ_next n1 (by omega), e, cc]
theorem decQ_can (n : Nat) : CanQ (Lib.decDigits n) := by
  refine ⟨dec_neB n, dec_d n, fun q => ?_⟩
  rcases Nat.eq_zero_or_pos n with h | h
  · subst h
    rw [decQ_one (by omega)] at q
    exact absurd q.1 (by simp)
  · exact decQ_head n h q.2
/-- A number's digits as the document reads them. -/
def rvD (t : List UInt8) : Option Nat := if t ≠ [] ∧ t.length ≤ 19 ∧ ¬ (1 < t.length ∧ t.head? = some 48) ∧ ∀ c ∈ t, isD c then some (nvQ 0 t) else none
theorem rvD_some {t : List UInt8} {n : Nat} (h : rvD t = some n) : t = Lib.decDigits n := by
  unfold rvD at h
  split at h
  · rename_i q
    injection h with h
    rw [← h]
    exact (CanQ.dec ⟨q.1, q.2.2.2, q.2.2.1⟩).symm
  · cases h
theorem rvD_dec {n : Nat} (h : n ≤ 9223372036854775808) : rvD (Lib.decDigits n) = some n := by
  have c := decQ_can n
  have l := dec_len 18 n (by have : (10 : Nat) ^ 19 = 10000000000000000000 := by decide
                             omega)
  unfold rvD
  rw [if_pos ⟨c.ne, l, c.z, c.d⟩, nvQ_dec]
/-- A value as the document reads it, signed or not. -/
def rvV (sg : Bool) (l : List UInt8) : Option Int :=
  if sg = true ∧ l.head? = some 45 then (if l.tail = [48] then none else (rvD l.tail).bind fun n => if 9223372036854775808 < n then none else some (-(n : Int)))
  else (rvD l).bind fun n => if 9223372036854775807 < n then none else some (n : Int)
theorem dtx0 (v : Int) : dtx v 0 = (if v < 0 then [45] else []) ++ Lib.decDigits (absI v).toNat := by
  rw [dtx_eq]
  unfold sg pointed padTo
  have : 0 + 1 - (Lib.decDigits (absI v).toNat).length = 0 := by have := List.length_pos_iff.2 (dec_neB (absI v).toNat); omega
  rw [if_pos rfl, this]
  rfl
theorem dtx_posQ (n : Nat) : dtx (n : Int) 0 = Lib.decDigits n := by
  rw [dtx0, if_neg (by omega), absI_pos (by omega)]
  simp
theorem dtx_negQ (n : Nat) (h : 1 ≤ n) : dtx (-(n : Int)) 0 = 45 :: Lib.decDigits n := by
  rw [dtx0, if_pos (by omega), absI_neg (by omega)]
  simp
theorem dec_no45 (n : Nat) : (Lib.decDigits n).head? ≠ some 45 := by
  intro e
  cases hl : Lib.decDigits n with
  | nil => rw [hl] at e; cases e
  | cons x l =>
    rw [hl] at e
    simp only [List.head?_cons, Option.some.injEq] at e
    have := dec_d n x (by rw [hl]; simp)
    unfold isD at this
    rw [e] at this
    exact absurd this (by decide)
theorem rvV_true (l : List UInt8) : rvV true l = prs 0 l := by
  have fwd : ∀ v, rvV true l = some v → prs 0 l = some v := by
    intro v h
    unfold rvV at h
    split at h
    · rename_i q
      split at h
      · cases h
      · rename_i ht
        obtain ⟨n, h1, h2⟩ := Option.bind_eq_some_iff.1 h
        split at h2
        · cases h2
        · rename_i hn
          injection h2 with h2
          subst h2
          have e := rvD_some h1
          have n1 : 1 ≤ n := by
            rcases Nat.eq_zero_or_pos n with z | z
            · subst z; rw [decQ_one (by omega)] at e; exact absurd e ht
            · exact z
          have el : l = dtx (-(n : Int)) 0 := by
            rw [dtx_negQ n n1, ← e]
            cases l with
            | nil => cases q.2
            | cons x l => simp only [List.head?_cons, Option.some.injEq] at q; rw [q.2]; rfl
          rw [el]
          exact prs_back _ (by unfold inR; omega) 0
    · obtain ⟨n, h1, h2⟩ := Option.bind_eq_some_iff.1 h
      split at h2
      · cases h2
      · injection h2 with h2
        subst h2
        rw [rvD_some h1, ← dtx_posQ]
        exact prs_back _ (by unfold inR; omega) 0
  have bwd : ∀ v, prs 0 l = some v → rvV true l = some v := by
    intro v h
    obtain ⟨e, a⟩ := prs_some h
    have iv : inR v := atoi_inR a
    unfold inR at iv
    unfold rvV
    by_cases hv : v < 0
    · obtain ⟨n, rfl, n1⟩ : ∃ n : Nat, v = -(n : Int) ∧ 1 ≤ n := ⟨(-v).toNat, by omega, by omega⟩
      rw [dtx_negQ n n1] at e
      subst e
      rw [if_pos ⟨rfl, rfl⟩, List.tail_cons, if_neg (fun q => by have := congrArg (nvQ 0) q; rw [nvQ_dec, nvQ_one] at this; have h48 : (48 : UInt8).toNat = 48 := rfl; omega), rvD_dec (by omega)]
      show (if 9223372036854775808 < n then none else some (-(n : Int))) = _
      rw [if_neg (by omega)]
    · obtain ⟨n, rfl⟩ : ∃ n : Nat, v = (n : Int) := ⟨v.toNat, by omega⟩
      rw [dtx_posQ] at e
      subst e
      rw [if_neg (fun q => dec_no45 n q.2), rvD_dec (by omega)]
      show (if 9223372036854775807 < n then none else some (n : Int)) = _
      rw [if_neg (by omega)]
  cases h : prs 0 l with
  | some v => exact bwd v h
  | none =>
    cases h2 : rvV true l with
    | none => rfl
    | some v => rw [fwd v h2] at h; cases h
theorem rvV_false (l : List UInt8) : rvV false l = (prs 0 l).bind fun v => if 0 ≤ v then some v else none := by
  have e0 : rvV false l = (rvD l).bind fun n => if 9223372036854775807 < n then none else some (n : Int) := by unfold rvV; rw [if_neg (by simp)]
  rw [e0]
  cases h : rvD l with
  | some n =>
    have e := rvD_some h
    show (if 9223372036854775807 < n then none else some (n : Int)) = _
    split
    · rename_i hn
      cases hp : prs 0 l with
      | none => rfl
      | some v =>
        obtain ⟨e1, a⟩ := prs_some hp
        have iv : inR v := atoi_inR a
        unfold inR at iv
        show none = (if 0 ≤ v then some v else none)
        rw [if_neg]
        intro hv
        obtain ⟨m, rfl⟩ : ∃ m : Nat, v = (m : Int) := ⟨v.toNat, by omega⟩
        rw [dtx_posQ, e] at e1
        have := congrArg (nvQ 0) e1
        rw [nvQ_dec, nvQ_dec] at this
        omega
    · rename_i hn
      rw [e, ← dtx_posQ, prs_back _ (by unfold inR; omega) 0]
      show _ = (if 0 ≤ (n : Int) then some (n : Int) else none)
      rw [if_pos (by omega)]
  | none =>
    cases hp : prs 0 l with
    | none => rfl
    | some v =>
      obtain ⟨e1, a⟩ := prs_some hp
      have iv : inR v := atoi_inR a
      unfold inR at iv
      show none = (if 0 ≤ v then some v else none)
      rw [if_neg]
      intro hv
      obtain ⟨m, rfl⟩ : ∃ m : Nat, v = (m : Int) := ⟨v.toNat, by omega⟩
      rw [dtx_posQ] at e1
      rw [← e1, rvD_dec (by omega)] at h
      cases h
end Go.Proofs.YtccjeipkljdhdaaGreatDoor
