/-
  WALK: OctetSigned.
-/
import Derived.Test.YtdbjdieegocdfaaDoorWOct5
namespace Go.Proofs.YtdbjdieegocdfaaDoor
open Go.RowKit
set_option linter.unusedVariables false
set_option linter.unusedSimpArgs false

theorem vl_twin (y : Nat) : (vl (2 * y)).length = (vl (2 * y + 1)).length := by
  by_cases h : y < 64
  · rw [vl_one (by omega), vl_one (by omega)]; rfl
  · rw [vl_more (x := 2 * y) (by omega), vl_more (x := 2 * y + 1) (by omega), show 2 * y / 128 = (2 * y + 1) / 128 by omega]; rfl
theorem vl_head (x : Nat) : ∃ c t, vl x = c :: t ∧ c % 2 = (x : Int) % 2 := by
  by_cases h : x < 128
  · exact ⟨_, _, vl_one h, rfl⟩
  · exact ⟨_, _, vl_more (by omega), by omega⟩
theorem zz_twin (x : Int) : (vl (zz x)).length = (vl (zz (-1 - x))).length := by
  by_cases h : x < 0
  · have e1 : zz x = 2 * (-x - 1).toNat + 1 := by unfold zz; rw [if_pos h]; omega
    have e2 : zz (-1 - x) = 2 * (-x - 1).toNat := by unfold zz; rw [if_neg (by omega)]; omega
    rw [e1, e2, vl_twin]
  · have e1 : zz x = 2 * x.toNat := by unfold zz; rw [if_neg h]; omega
    have e2 : zz (-1 - x) = 2 * x.toNat + 1 := by unfold zz; rw [if_pos (by omega)]; omega
    rw [e1, e2, vl_twin]
theorem zz_odd (x : Int) : (zz x : Int) % 2 ≠ (zz (-1 - x) : Int) % 2 := by
  unfold zz
  by_cases h : x < 0
  · rw [if_pos h, if_neg (by omega)]; omega
  · rw [if_neg h, if_pos (by omega)]; omega
/-- A row of one byte or more: where it lies, and its first byte. -/
theorem own_first {w : World} {B : Nat} {v : Value} {n : Nat} {c : Int} {t : List Int} (h : Own w B v n (c :: t)) : ∃ g cap, v = .slice (some ⟨g, 0, none⟩) n cap ∧ w.cell? ⟨g, 0, none⟩ = some (.int .u8 c) := by
  have h1 := h.1
  rw [bcs_len] at h1
  rcases h.2 with ⟨rfl, h0⟩ | ⟨g, cap, cur, rfl, _⟩
  · subst h0; simp at h1
  · refine ⟨g, cap, rfl, ?_⟩
    rw [h.cellAt 0 (by simp at h1; omega)]
    rfl
/-- An own row as a list where the world holds it. -/
theorem own_bl {w : World} {B : Nat} {a : Option Addr} {n cap : Nat} {xs : List Int} (h : Own w B (.slice a n cap) n xs) (hb : ∀ c ∈ xs, 0 ≤ c ∧ c ≤ 255) (hn : n ≤ 140737488355328) : BL w a n xs ∧ (a = none → n = 0) ∧ n ≤ cap := by
  have hl : xs.length = n := by have := h.1; rw [bcs_len] at this; omega
  rcases h.2 with ⟨e, h0⟩ | ⟨g, c, cur, e, _, hg, hnc, _⟩
  · injection e with e1 e2 e3
    subst e1
    exact ⟨⟨hl, hn, hb, .inl h0⟩, fun _ => h0, by omega⟩
  · injection e with e1 e2 e3
    subst e1 e3
    refine ⟨⟨hl, hn, hb, .inr ⟨g, 0, rfl, (Array.getElem?_eq_some_iff.1 hg).1, fun i hi => ?_⟩⟩, (fun e => by cases e), hnc⟩
    rw [Nat.zero_add, h.cellAt i (by omega)]
    have : i < xs.length := by omega
    simp [bcs, List.getD, this]
theorem below_drewN {B : Nat} {a w : World} (h : Below B a w) (n : Nat) : Below B a (w.drewN n) := ⟨h.os, h.tape, h.output, h.size, h.block⟩
theorem own_nil (w : World) (B : Nat) : Own w B (.slice none 0 0) 0 [] := ⟨rfl, .inl ⟨rfl, rfl⟩⟩
theorem own_later {w w' : World} {B : Nat} {v : Value} {n : Nat} {xs : List Int} (h : Own w B v n xs) (g : w.grownBy w' none) : Own w' B v n xs := h.kept g (by cases v.ownBlock <;> simp)
theorem uR_vl (x : Nat) (h : x < 18446744073709551616) (lim : Nat) (hl : x ≤ lim) : uR (vl x) lim = (x, 0, (vl x).length) := by
  unfold uR; rw [rd_vl' x h]; simp; omega

end Go.Proofs.YtdbjdieegocdfaaDoor
