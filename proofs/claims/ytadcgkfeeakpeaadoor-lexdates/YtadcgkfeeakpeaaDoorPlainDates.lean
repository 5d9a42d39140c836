/-
  PLAIN: the texts of dates, cut (no walk in this text).
-/
import Derived.Test.YtadcgkfeeakpeaaDoorWText1
import Derived.Test.YtadcgkfeeakpeaaDoorPlainLex2
namespace Go.Proofs.YtadcgkfeeakpeaaDoor
open Lx
set_option linter.unusedVariables false
set_option linter.unusedSimpArgs false

theorem sc_date {l : L} (hf : fits form l = true) (hl : l.length = 10) : (Cal.exB (dY l) (dM l) (dD l) = true → Sc l 0 [⟨4, l, 0, 0, dY l, dM l, dD l, 0, 0⟩] 0 0) ∧ (Cal.exB (dY l) (dM l) (dD l) = false → Sc l 0 [] 0 62) := by
  have hd : dgN (l.headD 0).toNat = true := by
    cases l with
    | nil => simp at hl
    | cons c q =>
      simp only [form, fits, Bool.and_eq_true] at hf
      have := hf.1
      rw [List.headD_cons]
      simpa [fitN] using this
  have hb : blN (l.headD 0).toNat = false ∧ (l.headD 0).toNat ≠ 35 := by
    generalize (l.headD 0).toNat = c at hd
    simp only [dgN, Bool.and_eq_true, decide_eq_true_eq] at hd
    exact ⟨by unfold blN; simp; omega, by omega⟩
  have ht : l.take 10 = l := List.take_of_length_le (by omega)
  have hne : l ≠ [] := by intro e; rw [e] at hl; simp at hl
  have hs : Lx.step l = datT l := by
    unfold Lx.step
    rw [if_neg (by rw [hb.1]; simp), if_neg hb.2, if_pos hf, ht]
  constructor
  · intro he
    have h1 : Lx.step l = .tok ⟨4, l, 0, 0, dY l, dM l, dD l, 0, 0⟩ := by rw [hs]; unfold datT; rw [if_pos he, ht]
    exact Sc.tok (at_ := 0) (ts := []) hne h1 (by simpa using Sc.done _)
  · intro he
    have h1 : Lx.step l = .err 0 62 := by rw [hs]; unfold datT; rw [if_neg (by rw [he]; simp)]
    exact Sc.err (at_ := 0) hne h1
theorem dgD {k : Int} (h0 : 0 ≤ k) (h1 : k ≤ 9) : dgN (dg k).toNat = true := by
  have := dg_nat h0 h1
  unfold dgN
  simp only [Bool.and_eq_true, decide_eq_true_eq]
  omega
theorem dgV {k : Int} (h0 : 0 ≤ k) (h1 : k ≤ 9) : ((dg k).toNat : Int) - 48 = k := by rw [dg_nat h0 h1]; omega
def dtxL (y m d : Int) : L := lastD 4 y ++ [45] ++ lastD 2 m ++ [45] ++ lastD 2 d
theorem date_text {y m d : Int} (hy0 : 0 ≤ y) (hy1 : y ≤ 9999) (hm0 : 0 ≤ m) (hm1 : m ≤ 99) (hd0 : 0 ≤ d) (hd1 : d ≤ 99) :
    fits form (dtxL y m d) = true ∧ (dtxL y m d).length = 10 ∧ dY (dtxL y m d) = y ∧ dM (dtxL y m d) = m ∧ dD (dtxL y m d) = d := by
  have e : dtxL y m d = [dg (y / 10 / 10 / 10 % 10), dg (y / 10 / 10 % 10), dg (y / 10 % 10), dg (y % 10), 45, dg (m / 10 % 10), dg (m % 10), 45, dg (d / 10 % 10), dg (d % 10)] := rfl
  rw [e]
  refine ⟨?_, rfl, ?_, ?_, ?_⟩
  · simp only [form, fits, fitN, if_true]
    rw [dgD (by omega) (by omega), dgD (by omega) (by omega), dgD (by omega) (by omega), dgD (by omega) (by omega), dgD (by omega) (by omega), dgD (by omega) (by omega), dgD (by omega) (by omega), dgD (by omega) (by omega)]
    rfl
  · show dvL [dg (y / 10 / 10 / 10 % 10), dg (y / 10 / 10 % 10), dg (y / 10 % 10), dg (y % 10)] = y
    simp only [dvL, List.foldl_cons, List.foldl_nil]
    rw [dgV (by omega) (by omega), dgV (by omega) (by omega), dgV (by omega) (by omega), dgV (by omega) (by omega)]
    omega
  · show dvL [dg (m / 10 % 10), dg (m % 10)] = m
    simp only [dvL, List.foldl_cons, List.foldl_nil]
    rw [dgV (by omega) (by omega), dgV (by omega) (by omega)]
    omega
  · show dvL [dg (d / 10 % 10), dg (d % 10)] = d
    simp only [dvL, List.foldl_cons, List.foldl_nil]
    rw [dgV (by omega) (by omega), dgV (by omega) (by omega)]
    omega
theorem dec_last : ∀ (w n : Nat), 10 ^ w ≤ n → n < 10 ^ (w + 1) → Lib.decDigits n = lastD (w + 1) (n : Int)
  | 0, n, h0, h1 => by
    have h1' : n < 10 := by simpa using h1
    rw [Lib.decDigits, dif_pos h1']
    show [UInt8.ofNat (48 + n)] = [] ++ [dg ((n : Int) % 10)]
    unfold dg
    rw [show (48 + (n : Int) % 10).toNat = 48 + n by omega]
    rfl
  | w + 1, n, h0, h1 => by
    have e0 : 10 ^ (w + 1) = 10 * 10 ^ w := by rw [Nat.pow_succ]; omega
    have e1 : 10 ^ (w + 1 + 1) = 10 * 10 ^ (w + 1) := by rw [Nat.pow_succ]; omega
    have hp : 0 < 10 ^ w := Nat.pow_pos (by omega)
    have h10 : ¬ n < 10 := by omega
    rw [Lib.decDigits, dif_neg h10, dec_last w (n / 10) (by omega) (by omega)]
    show _ = lastD (w + 1) ((n : Int) / 10) ++ [dg ((n : Int) % 10)]
    unfold dg
    rw [show (48 + (n : Int) % 10).toNat = 48 + n % 10 by omega, Int.natCast_ediv]
    rfl
/-- Eight digits of a date. -/
theorem dec_eight {y m d : Int} (hy0 : 1000 ≤ y) (hy1 : y ≤ 9999) (hm0 : 0 ≤ m) (hm1 : m ≤ 99) (hd0 : 0 ≤ d) (hd1 : d ≤ 99) :
    Lib.itoa (10000 * y + 100 * m + d) = lastD 4 y ++ lastD 2 m ++ lastD 2 d := by
  obtain ⟨n, hn⟩ : ∃ n : Nat, 10000 * y + 100 * m + d = (n : Int) := ⟨(10000 * y + 100 * m + d).toNat, by omega⟩
  rw [hn]
  unfold Lib.itoa
  rw [if_neg (by omega), Int.toNat_natCast, dec_last 7 n (by omega) (by omega)]
  show [dg ((n : Int) / 10 / 10 / 10 / 10 / 10 / 10 / 10 % 10), dg ((n : Int) / 10 / 10 / 10 / 10 / 10 / 10 % 10), dg ((n : Int) / 10 / 10 / 10 / 10 / 10 % 10), dg ((n : Int) / 10 / 10 / 10 / 10 % 10), dg ((n : Int) / 10 / 10 / 10 % 10), dg ((n : Int) / 10 / 10 % 10), dg ((n : Int) / 10 % 10), dg ((n : Int) % 10)] = [dg (y / 10 / 10 / 10 % 10), dg (y / 10 / 10 % 10), dg (y / 10 % 10), dg (y % 10), dg (m / 10 % 10), dg (m % 10), dg (d / 10 % 10), dg (d % 10)]
  have a1 : (n : Int) % 10 = d % 10 := by omega
  have a2 : (n : Int) / 10 % 10 = d / 10 % 10 := by omega
  have b0 : (n : Int) / 10 / 10 = 100 * y + m := by omega
  have a3 : (n : Int) / 10 / 10 % 10 = m % 10 := by omega
  have a4 : (n : Int) / 10 / 10 / 10 % 10 = m / 10 % 10 := by omega
  have b1 : (n : Int) / 10 / 10 / 10 / 10 = y := by omega
  rw [a1, a2, a3, a4, b1]
end Go.Proofs.YtadcgkfeeakpeaaDoor
