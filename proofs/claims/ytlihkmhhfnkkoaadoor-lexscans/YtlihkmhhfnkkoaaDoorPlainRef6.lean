/-
  PLAIN: numbers by their digits (no model in this text).
-/
import Derived.Test.YtlihkmhhfnkkoaaDoorPlainNames
namespace Go.Proofs.YtlihkmhhfnkkoaaDoor
namespace Lx
set_option linter.unusedVariables false
set_option linter.unusedSimpArgs false

def nvN (acc : Nat) (l : L) : Nat := l.foldl (fun a c => 10 * a + (c.toNat - 48)) acc
theorem nvN_cons (acc : Nat) (c : UInt8) (l : L) : nvN acc (c :: l) = nvN (10 * acc + (c.toNat - 48)) l := by unfold nvN; rw [List.foldl_cons]
theorem nvN_ge (l : L) : ∀ acc : Nat, acc ≤ nvN acc l := by
  induction l with
  | nil => intro acc; exact Nat.le_refl _
  | cons c l ih =>
    intro acc
    rw [nvN_cons]
    exact Nat.le_trans (by omega) (ih (10 * acc + (c.toNat - 48)))
theorem pu_nv : ∀ (l : L) (acc : Nat), (∀ c ∈ l, dgN c.toNat = true) → acc < 18446744073709551616 → Lib.parseUint10 acc l = if nvN acc l < 18446744073709551616 then .ok (nvN acc l) else .range
  | [], acc, _, h => by
    show Lib.NumEnd.ok acc = if acc < 18446744073709551616 then .ok acc else .range
    rw [if_pos h]
  | c :: l, acc, hd, h => by
    have hc := hd c List.mem_cons_self
    simp only [dgN, Bool.and_eq_true, decide_eq_true_eq] at hc
    have ge := nvN_ge l (10 * acc + (c.toNat - 48))
    simp only [Lib.parseUint10]
    rw [if_pos hc, nvN_cons]
    by_cases h1 : 1844674407370955162 ≤ acc
    · rw [if_pos h1, if_neg (by omega)]
    · rw [if_neg h1]
      by_cases h2 : 18446744073709551616 ≤ acc * 10 + (c.toNat - 48)
      · rw [if_pos h2, if_neg (by omega)]
      · rw [if_neg h2, show acc * 10 + (c.toNat - 48) = 10 * acc + (c.toNat - 48) by omega]
        exact pu_nv l _ (fun d hd' => hd d (List.mem_cons_of_mem _ hd')) (by omega)
theorem atoi_nv {l : L} (hn : l ≠ []) (hd : ∀ c ∈ l, dgN c.toNat = true) : Lib.atoiAll l = if nvN 0 l < 9223372036854775808 then .ok (nvN 0 l : Int) else .range := by
  cases l with
  | nil => exact absurd rfl hn
  | cons c q =>
    have hc := hd c List.mem_cons_self
    simp only [dgN, Bool.and_eq_true, decide_eq_true_eq] at hc
    have hm : Lib.parseMag (c :: q) = if nvN 0 (c :: q) < 18446744073709551616 then .ok (nvN 0 (c :: q)) else .range := by
      unfold Lib.parseMag
      rw [if_neg (by simp)]
      exact pu_nv (c :: q) 0 hd (by omega)
    simp only [Lib.atoiAll]
    rw [if_neg (by omega), hm]
    by_cases hs : nvN 0 (c :: q) < 9223372036854775808
    · rw [if_pos (by omega), if_pos hs]
      simp only
      rw [if_neg (by omega), if_neg (by omega), if_neg (by omega)]
    · rw [if_neg hs]
      by_cases h2 : nvN 0 (c :: q) < 18446744073709551616
      · rw [if_pos h2]
        simp only
        rw [if_pos (by omega)]
      · rw [if_neg h2]
theorem allD_iff {l : L} : allD l = true ↔ ∀ c ∈ l, dgN c.toNat = true := by unfold allD; exact List.all_eq_true
theorem numO_nv {l : L} (hn : l ≠ []) (hd : allD l = true) : numO l = if (l.headD 0).toNat = 48 ∧ 1 < l.length then none else if nvN 0 l < 9223372036854775808 then some (nvN 0 l : Int) else none := by
  unfold numO
  by_cases h : (l.headD 0).toNat = 48 ∧ 1 < l.length
  · rw [if_pos h, if_pos h]
  · rw [if_neg h, if_neg h, if_pos hd, atoi_nv hn (allD_iff.1 hd)]
    by_cases hs : nvN 0 l < 9223372036854775808
    · rw [if_pos hs, if_pos hs]
    · rw [if_neg hs, if_neg hs]
/-- The number's value, or -1. -/
def numR (l : L) : Int := if nvN 0 l < 9223372036854775808 then (nvN 0 l : Int) else -1
theorem nv_four {l : L} (h : 3 < l.length) (h0 : 49 ≤ (l.headD 0).toNat) : 1000 ≤ nvN 0 l := by
  match l, h, h0 with
  | a :: b :: c :: d :: q, _, h0 =>
    rw [List.headD_cons] at h0
    rw [nvN_cons, nvN_cons, nvN_cons, nvN_cons]
    have := nvN_ge q (10 * (10 * (10 * (10 * 0 + (a.toNat - 48)) + (b.toNat - 48)) + (c.toNat - 48)) + (d.toNat - 48))
    omega
theorem nv_three {l : L} (h : l.length ≤ 3) (hd : ∀ c ∈ l, dgN c.toNat = true) : nvN 0 l ≤ 999 := by
  have key : ∀ c ∈ l, c.toNat - 48 ≤ 9 := fun c hc => by
    have := hd c hc
    simp only [dgN, Bool.and_eq_true, decide_eq_true_eq] at this
    omega
  match l, h, key with
  | [], _, _ => decide
  | [a], _, key => have := key a (by simp); show 10 * 0 + (a.toNat - 48) ≤ 999; omega
  | [a, b], _, key => have := key a (by simp); have := key b (by simp); show 10 * (10 * 0 + (a.toNat - 48)) + (b.toNat - 48) ≤ 999; omega
  | [a, b, c], _, key => have := key a (by simp); have := key b (by simp); have := key c (by simp); show 10 * (10 * (10 * 0 + (a.toNat - 48)) + (b.toNat - 48)) + (c.toNat - 48) ≤ 999; omega
theorem nv_pos {l : L} (hn : l ≠ []) (h0 : 49 ≤ (l.headD 0).toNat) : 1 ≤ nvN 0 l := by
  cases l with
  | nil => exact absurd rfl hn
  | cons c q =>
    rw [List.headD_cons] at h0
    rw [nvN_cons]
    have := nvN_ge q (10 * 0 + (c.toNat - 48))
    omega
/-- A run that begins with a digit, by the document's words. -/
def digR (d : L) : St :=
  if allD d = true then (if numR d < 0 ∨ (1 < d.length ∧ (d.headD 0).toNat = 48) then .err 0 62 else .tok ⟨3, d, 0, numR d, 0, 0, 0, 0, 0⟩)
  else if allD d.dropLast = false ∨ d.dropLast = [] ∨ 3 < d.dropLast.length ∨ (d.headD 0).toNat = 48 ∨ unN (lastN d) = 0 then .err 0 62
  else .tok ⟨5, d, 0, 0, 0, 0, 0, numR d.dropLast, unN (lastN d)⟩
theorem last_mem {l : L} (hn : l ≠ []) : ∃ c ∈ l, lastN l = c.toNat := ⟨l.getLast hn, List.getLast_mem hn, by unfold lastN; rw [List.getLast?_eq_some_getLast hn]; rfl⟩
theorem unN_dg {c : Nat} (h : dgN c = true) : unN c = 0 := by
  simp only [dgN, Bool.and_eq_true, decide_eq_true_eq] at h
  unfold unN
  rw [if_neg (by omega), if_neg (by omega), if_neg (by omega), if_neg (by omega)]
theorem numR_neg (l : L) : numR l < 0 ↔ ¬ nvN 0 l < 9223372036854775808 := by
  unfold numR
  by_cases h : nvN 0 l < 9223372036854775808
  · rw [if_pos h]; constructor
    · intro q; omega
    · intro q; exact absurd h q
  · rw [if_neg h]; exact ⟨fun _ => h, fun _ => by omega⟩
def digM (d : L) (u : Int) : Option Int → St
  | none => .err 0 62
  | some n => if u = 0 then .tok ⟨3, d, 0, n, 0, 0, 0, 0, 0⟩ else if n < 1 ∨ 999 < n then .err 0 62 else .tok ⟨5, d, 0, 0, 0, 0, 0, n, u⟩
theorem digT_at {d e : L} {u : Int} {o : Option Int} (hu : unN (lastN d) = u) (he : (if u = 0 then d else d.dropLast) = e) (ho : numO e = o) : digT d = digM d u o := by
  subst hu; subst he; subst ho
  unfold digT digM
  split <;> rename_i h <;> rw [h]
theorem numO_not {l : L} (h : ¬ allD l = true) : numO l = none := by
  unfold numO
  by_cases hz : (l.headD 0).toNat = 48 ∧ 1 < l.length
  · rw [if_pos hz]
  · rw [if_neg hz, if_neg h]
theorem digR_eq {d : L} (hn : d ≠ []) (h0 : dgN (d.headD 0).toNat = true) : digT d = digR d := by
  by_cases ha : allD d = true
  · obtain ⟨c, hc, e⟩ := last_mem hn
    have hu : unN (lastN d) = 0 := by rw [e]; exact unN_dg (allD_iff.1 ha c hc)
    by_cases hz : (d.headD 0).toNat = 48 ∧ 1 < d.length
    · have R : digR d = .err 0 62 := by unfold digR; rw [if_pos ha, if_pos (.inr ⟨hz.2, hz.1⟩)]
      have o : numO d = none := by rw [numO_nv hn ha, if_pos hz]
      rw [R, digT_at hu (if_pos rfl) o]; rfl
    · by_cases hb : nvN 0 d < 9223372036854775808
      · have R : digR d = .tok ⟨3, d, 0, (nvN 0 d : Int), 0, 0, 0, 0, 0⟩ := by
          unfold digR
          rw [if_pos ha, if_neg (by rintro (q | q); exact (numR_neg d).1 q hb; exact hz ⟨q.2, q.1⟩)]
          unfold numR
          rw [if_pos hb]
        have o : numO d = some (nvN 0 d : Int) := by rw [numO_nv hn ha, if_neg hz, if_pos hb]
        rw [R, digT_at hu (if_pos rfl) o]
        simp [digM]
      · have R : digR d = .err 0 62 := by unfold digR; rw [if_pos ha, if_pos (.inl ((numR_neg d).2 hb))]
        have o : numO d = none := by rw [numO_nv hn ha, if_neg hz, if_neg hb]
        rw [R, digT_at hu (if_pos rfl) o]; rfl
  · have bad : (allD d.dropLast = false ∨ d.dropLast = [] ∨ 3 < d.dropLast.length ∨ (d.headD 0).toNat = 48 ∨ unN (lastN d) = 0) → digR d = .err 0 62 := fun q => by unfold digR; rw [if_neg ha, if_pos q]
    by_cases hu : unN (lastN d) = 0
    · rw [bad (.inr (.inr (.inr (.inr hu)))), digT_at hu (if_pos rfl) (numO_not ha)]; rfl
    · have h2 : d.dropLast ≠ [] := by
        intro e
        match d, hn, e with
        | [c], _, _ =>
          have : allD [c] = true := by unfold allD; simpa using h0
          exact ha this
      have hh : (d.dropLast.headD 0).toNat = (d.headD 0).toNat := by
        match d, h2 with
        | a :: b :: q, _ => rfl
      have he : (if unN (lastN d) = 0 then d else d.dropLast) = d.dropLast := if_neg hu
      by_cases hd : allD d.dropLast = true
      · have hds := allD_iff.1 hd
        have on := numO_nv h2 hd
        rw [hh] at on
        by_cases hz : (d.headD 0).toNat = 48
        · rw [bad (.inr (.inr (.inr (.inl hz))))]
          by_cases hl : 1 < d.dropLast.length
          · rw [if_pos ⟨hz, hl⟩] at on
            rw [digT_at rfl he on]; rfl
          · rw [if_neg (fun q => hl q.2)] at on
            have h1 : d.dropLast.length = 1 := by have := List.length_pos_iff.2 h2; omega
            obtain ⟨c, hc⟩ := List.length_eq_one_iff.1 h1
            have hc48 : c.toNat = 48 := by rw [hc] at hh; rw [List.headD_cons] at hh; omega
            have hv : nvN 0 d.dropLast = 0 := by rw [hc]; show 10 * 0 + (c.toNat - 48) = 0; omega
            rw [hv, if_pos (by omega)] at on
            rw [digT_at rfl he on]
            show (if unN (lastN d) = 0 then _ else _) = _
            rw [if_neg hu, if_pos (.inl (by decide))]
        · have h49 : 49 ≤ (d.dropLast.headD 0).toNat := by
            rw [hh]
            simp only [dgN, Bool.and_eq_true, decide_eq_true_eq] at h0
            omega
          rw [if_neg (fun q => hz q.1)] at on
          have hp := nv_pos h2 h49
          by_cases h3 : 3 < d.dropLast.length
          · rw [bad (.inr (.inr (.inl h3)))]
            have h4 := nv_four h3 h49
            by_cases hb : nvN 0 d.dropLast < 9223372036854775808
            · rw [if_pos hb] at on
              rw [digT_at rfl he on]
              show (if unN (lastN d) = 0 then _ else _) = _
              rw [if_neg hu, if_pos (.inr (by omega))]
            · rw [if_neg hb] at on
              rw [digT_at rfl he on]; rfl
          · have h9 := nv_three (by omega) hds
            have R : digR d = .tok ⟨5, d, 0, 0, 0, 0, 0, (nvN 0 d.dropLast : Int), unN (lastN d)⟩ := by
              unfold digR
              rw [if_neg ha, if_neg (by rintro (q | q | q | q | q); (rw [hd] at q; cases q); exact h2 q; exact h3 q; exact hz q; exact hu q)]
              unfold numR
              rw [if_pos (by omega)]
            rw [if_pos (by omega)] at on
            rw [R, digT_at rfl he on]
            show (if unN (lastN d) = 0 then _ else _) = _
            rw [if_neg hu, if_neg (by omega)]
      · rw [bad (.inl (by simpa using hd)), digT_at rfl he (numO_not hd)]; rfl
end Lx
end Go.Proofs.YtlihkmhhfnkkoaaDoor
