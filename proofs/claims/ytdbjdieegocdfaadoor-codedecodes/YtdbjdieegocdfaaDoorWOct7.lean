/-
  WALKS: the reader's Text; varints that are cut.
-/
import Derived.Test.YtdbjdieegocdfaaDoorWRefOct2
import Derived.Laws.BytesString
namespace Go.Proofs.YtdbjdieegocdfaaDoor
open Go.RowKit
set_option linter.unusedVariables false
set_option linter.unusedSimpArgs false

theorem rdf_cutv : ∀ (x i j : Nat), j < (vl x).length → i + (vl x).length ≤ 10 → rdf i ((vl x).take j) = (0, 0, 41) := by
  intro x
  induction x using Nat.strongRecOn with
  | _ x ih =>
    intro i j hj hi
    by_cases h : x < 128
    · rw [vl_one h] at hj hi ⊢
      simp at hj hi
      subst hj
      simp only [List.take_zero]
      exact rdf_nil (by omega)
    · rw [vl_more (by omega)] at hj hi ⊢
      match j with
      | 0 => simp only [List.take_zero]; exact rdf_nil (by simp at hi; omega)
      | j + 1 =>
        simp at hj hi
        simp only [List.take_succ_cons]
        have := ih (x / 128) (by omega) (i + 1) j (by omega) (by omega)
        rw [rdf, if_neg (by omega), if_pos (by omega), this]
        simp
theorem rd_cut {x : Nat} (hx : x < 18446744073709551616) {j : Nat} (hj : j < (vl x).length) : rd ((vl x).take j) = (0, 0, 41) := rdf_cutv x 0 j hj (by have := vl_len10 hx; omega)
theorem uR_cut {x : Nat} (hx : x < 18446744073709551616) {j : Nat} (hj : j < (vl x).length) (lim : Nat) : uR ((vl x).take j) lim = (0, 41, 0) := by
  unfold uR; rw [rd_cut hx hj]; simp
theorem uR_more (x : Nat) (h : x < 18446744073709551616) (t : List Int) (lim : Nat) (hl : x ≤ lim) : uR (vl x ++ t) lim = (x, 0, (vl x).length) := by
  unfold uR; rw [rd_vl x h]; simp; omega
theorem uR_low (x : Nat) (h : x < 18446744073709551616) (t : List Int) (lim : Nat) (hl : lim < x) : uR (vl x ++ t) lim = (0, 42, 0) := by
  unfold uR; rw [rd_vl x h]; simp; omega

theorem conv_bl {W : World} {a : Option Addr} {n c : Nat} {t : ByteArray} (h : BL W a n (sb t)) (h0 : a = none → n = 0) : (convert 25 9 (.slice a n c)).run Tryd.prog W = .ok (.string t) W := by
  have hn : t.data.toList.length = n := by have := h.1; rw [sb_len] at this; rw [Array.length_toList]; exact this
  have ht : (⟨t.data.toList.toArray⟩ : ByteArray) = t := by cases t; simp
  rcases a with _ | ad
  · have := h0 rfl
    subst this
    rw [run_convert_bytes_string W 25 9 5 none 0 c (by kernel_rfl) (by kernel_rfl) (by kernel_rfl)]
    have e : t.data.toList = [] := List.length_eq_zero_iff.1 hn
    have : t = ⟨#[]⟩ := by rw [← ht, e]
    rw [this]
    first | rfl | simp [loadCells, loadCellsFrom] | simp
  · have := run_convert_bytes_back (P := Tryd.prog) W 25 9 5 ad c t.data.toList (by kernel_rfl) (by kernel_rfl) (by kernel_rfl) (fun j hj => by
      rcases h.2.2.2 with q | ⟨b, o, e, _, hc⟩
      · omega
      · injection e with e
        subst e
        rw [Go.Addr.add_lit, hc j (by omega)]
        have hj2 : j < t.data.size := by rw [← Array.length_toList]; exact hj
        simp [sb, List.getD]
        rw [Array.getElem?_eq_getElem hj2]; simp)
    rw [hn, ht] at this
    exact this

end Go.Proofs.YtdbjdieegocdfaaDoor
