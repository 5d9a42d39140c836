/-
  WALK: sameBytes; what comes in as a row of bytes.
-/
import Derived.Test.YtdbjdieegocdfaaDoorWOctSigned
namespace Go.Proofs.YtdbjdieegocdfaaDoor
open Go.RowKit
set_option linter.unusedVariables false
set_option linter.unusedSimpArgs false

theorem bl_of {w : World} {a : Option Addr} {len cap : Nat} {zs : List Int} (hb : len * 1 ≤ 140737488351232)
    (h : (a = none ∧ len = 0 ∧ cap = 0 ∧ zs = []) ∨ ∃ x, a = some x ∧ len ≤ cap ∧ cap ≤ maxLen ∧ zs.length = cap ∧ (∀ i, i < zs.length → w.cell? (x.add i) = some (.int .u8 (zs.getD i 0))) ∧ ∀ n ∈ zs, (Lit.int .u8 n).wf = true) : BL w a len (zs.take len) ∧ (a = none → len = 0) ∧ len ≤ cap := by
  rcases h with ⟨rfl, rfl, rfl, rfl⟩ | ⟨x, rfl, h1, h2, h3, h4, h5⟩
  · exact ⟨⟨rfl, by omega, by simp, .inl rfl⟩, fun _ => rfl, by omega⟩
  · refine ⟨⟨by simp; omega, by omega, fun c hc => ?_, ?_⟩, (fun e => by cases e), h1⟩
    · have := h5 c (List.mem_of_mem_take hc)
      simpa [Lit.wf, IntKind.min, IntKind.max, IntKind.bits, IntKind.signed] using this
    · by_cases h0 : len = 0
      · exact .inl h0
      · obtain ⟨b, o, s⟩ := x
        have hc := h4 0 (by omega)
        have hs : s = none := by simpa [Addr.add] using World.cell?_spot hc
        subst hs
        refine .inr ⟨b, o, rfl, ?_, fun i hi => ?_⟩
        · have : (w.cell? ⟨b, o, none⟩).isSome = true := by
            have e : (⟨b, o, none⟩ : Addr).add 0 = ⟨b, o, none⟩ := by simp [Addr.add]
            rw [e] at hc; rw [hc]; rfl
          by_cases hlt : b < w.heap.size
          · exact hlt
          · exfalso
            have hn : w.heap[b]? = none := by simp; omega
            simp [World.cell?, hn] at this
        · have := h4 i (by omega)
          rw [Go.Addr.add_lit] at this
          rw [this]
          congr 2
          simp [List.getD, hi]
theorem BL.drewN {w : World} {a : Option Addr} {n : Nat} {xs : List Int} (h : BL w a n xs) (q : Nat) : BL (w.drewN q) a n xs := h
theorem BL.kept {w w' : World} {a : Option Addr} {n : Nat} {xs : List Int} (h : BL w a n xs) {B : Nat} (b : Below B w w') (hB : w.heap.size ≤ B) : BL w' a n xs := h.later (b.mono hB)
/-- The first bytes of a list. -/
theorem BL.upTo {w : World} {a : Option Addr} {n : Nat} {xs : List Int} (h : BL w a n xs) (m : Nat) (hm : m ≤ n) : BL w a m (xs.take m) := by
  obtain ⟨h1, h2, h3, h4⟩ := h
  refine ⟨by simp; omega, by omega, fun c hc => h3 c (List.mem_of_mem_take hc), ?_⟩
  rcases h4 with h4 | ⟨b, o, rfl, hb, hc⟩
  · exact .inl (by omega)
  · refine .inr ⟨b, o, rfl, hb, fun i hi => ?_⟩
    rw [hc i (by omega)]
    congr 2
    simp [List.getD, hi]
theorem list_eq_of {xs ys : List Int} (hl : xs.length = ys.length) (h : ∀ i, i < xs.length → xs.getD i 0 = ys.getD i 0) : xs = ys := by
  apply List.ext_getElem hl
  intro i h1 h2
  have := h i h1
  simpa [List.getD, h1, h2] using this

theorem ret_b {a b : Bool} (h : a = b) : Ending.returned (.bool a) = .returned (.bool b) := by rw [h]
end Go.Proofs.YtdbjdieegocdfaaDoor
