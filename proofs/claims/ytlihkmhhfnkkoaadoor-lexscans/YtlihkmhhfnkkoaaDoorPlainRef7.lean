/-
  PLAIN: a token by the document's order of rules (no model in this text).
-/
import Derived.Test.YtlihkmhhfnkkoaaDoorPlainRef6
namespace Go.Proofs.YtlihkmhhfnkkoaaDoor
namespace Lx
set_option linter.unusedVariables false
set_option linter.unusedSimpArgs false

theorem run_nil {r : L} (h : rnN (r.headD 0).toNat = false) : run r = [] := by
  cases r with
  | nil => rfl
  | cons c q => simp only [List.headD_cons] at h; simp [run, h]
theorem run_head {r : L} (hr : r ≠ []) (h : rnN (r.headD 0).toNat = true) : ∃ q, run r = r.headD 0 :: q := by
  cases r with
  | nil => exact absurd rfl hr
  | cons c q => simp only [List.headD_cons] at h ⊢; exact ⟨q.takeWhile (fun c => rnN c.toNat), by simp [run, h]⟩
theorem run_mem (r : L) : ∀ c ∈ run r, rnN c.toNat = true := by
  induction r with
  | nil => intro c hc; simp [run] at hc
  | cons d q ih =>
    intro c hc
    unfold run at hc
    rw [List.takeWhile_cons] at hc
    cases hd : rnN d.toNat with
    | false => rw [hd] at hc; simp at hc
    | true =>
      rw [hd] at hc
      simp only [if_true, List.mem_cons] at hc
      rcases hc with rfl | hc
      · exact hd
      · exact ih c hc
/-- Neither blank nor comment: what stands there is a token, or wrong. -/
theorem step_plain {r : L} (h1 : blN (r.headD 0).toNat = false) (h2 : (r.headD 0).toNat ≠ 35) : step r = if fits form r = true then datT (r.take 10) else if dgN (r.headD 0).toNat = true then digT (run r) else if smN (r.headD 0).toNat = true then namT smN 1 (run r) else if cpN (r.headD 0).toNat = true then namT cpN 2 (run r) else marT r := by
  unfold step
  rw [if_neg (by rw [h1]; simp), if_neg h2]
theorem nmN_95 : dgN 95 = false ∧ smN 95 = false ∧ cpN 95 = false ∧ rnN 95 = true := by decide
theorem rn_parts {c : Nat} (h : rnN c = true) : dgN c = true ∨ smN c = true ∨ cpN c = true ∨ c = 95 := by
  unfold rnN at h
  simp only [Bool.or_eq_true, decide_eq_true_eq] at h
  rcases h with ((h | h) | h) | h
  · exact .inr (.inl h)
  · exact .inr (.inr (.inl h))
  · exact .inl h
  · exact .inr (.inr (.inr h))
theorem not_rn {c : Nat} (h : rnN c = false) : dgN c = false ∧ smN c = false ∧ cpN c = false := by
  unfold rnN at h
  simp only [Bool.or_eq_false_iff] at h
  exact ⟨h.1.2, h.1.1.1, h.1.1.2⟩
theorem sm_noT {c : Nat} (h : smN c = true) : dgN c = false ∧ cpN c = false ∧ c ≠ 95 := by
  simp only [smN, Bool.and_eq_true, decide_eq_true_eq] at h
  refine ⟨?_, ?_, by omega⟩
  · unfold dgN; simp only [Bool.and_eq_false_iff, decide_eq_false_iff_not]; omega
  · unfold cpN; simp only [Bool.and_eq_false_iff, decide_eq_false_iff_not]; omega
theorem cp_noT {c : Nat} (h : cpN c = true) : dgN c = false ∧ smN c = false ∧ c ≠ 95 := by
  simp only [cpN, Bool.and_eq_true, decide_eq_true_eq] at h
  refine ⟨?_, ?_, by omega⟩
  · unfold dgN; simp only [Bool.and_eq_false_iff, decide_eq_false_iff_not]; omega
  · unfold smN; simp only [Bool.and_eq_false_iff, decide_eq_false_iff_not]; omega
end Lx
end Go.Proofs.YtlihkmhhfnkkoaaDoor
