/-
  WALK: the document's marks.
-/
import Derived.Test.YtlihkmhhfnkkoaaDoorWRefLex4
import Derived.Test.YtlihkmhhfnkkoaaDoorWLex4
namespace Go.Proofs.YtlihkmhhfnkkoaaDoor
open Go.RowKit Lx
set_option linter.unusedVariables false
set_option linter.unusedSimpArgs false

def twoS : List ByteArray := [⟨#[46, 46]⟩, ⟨#[60, 61]⟩, ⟨#[62, 61]⟩, ⟨#[61, 61]⟩, ⟨#[33, 61]⟩, ⟨#[38, 38]⟩, ⟨#[124, 124]⟩]
def oneS : L := [40, 41, 123, 125, 91, 93, 44, 59, 61, 43, 45, 42, 47, 37, 60, 62, 33, 63, 58]
/-- The mark that a text begins with. -/
def markL (r : L) : L := if isPair r = true then r.take 2 else if mkN (r.headD 0).toNat = true then r.take 1 else []
theorem toL (b : ByteArray) : b.toList = lst b := by obtain ⟨⟨l⟩⟩ := b; rw [ByteArray.toList_mk]; rfl
theorem pair_in {a b : UInt8} : pairN a.toNat b.toNat = true ↔ ∃ i, i < 7 ∧ lst (twoS.getD i ⟨#[]⟩) = [a, b] := by
  unfold pairN
  rw [decide_eq_true_eq]
  have hx : ∀ (x : UInt8) (n : UInt8), x.toNat = n.toNat ↔ x = n := fun x n => UInt8.toNat_inj
  constructor
  · intro h
    simp only [prL, List.mem_cons, List.not_mem_nil, or_false, Prod.mk.injEq] at h
    rcases h with ⟨h3, h4⟩|⟨h3, h4⟩|⟨h3, h4⟩|⟨h3, h4⟩|⟨h3, h4⟩|⟨h3, h4⟩|⟨h3, h4⟩
    · exact ⟨0, by omega, by rw [(hx a 46).1 h3, (hx b 46).1 h4]; rfl⟩
    · exact ⟨1, by omega, by rw [(hx a 60).1 h3, (hx b 61).1 h4]; rfl⟩
    · exact ⟨2, by omega, by rw [(hx a 62).1 h3, (hx b 61).1 h4]; rfl⟩
    · exact ⟨3, by omega, by rw [(hx a 61).1 h3, (hx b 61).1 h4]; rfl⟩
    · exact ⟨4, by omega, by rw [(hx a 33).1 h3, (hx b 61).1 h4]; rfl⟩
    · exact ⟨5, by omega, by rw [(hx a 38).1 h3, (hx b 38).1 h4]; rfl⟩
    · exact ⟨6, by omega, by rw [(hx a 124).1 h3, (hx b 124).1 h4]; rfl⟩
  · rintro ⟨i, hi, e⟩
    rcases (show i = 0 ∨ i = 1 ∨ i = 2 ∨ i = 3 ∨ i = 4 ∨ i = 5 ∨ i = 6 by omega) with rfl|rfl|rfl|rfl|rfl|rfl|rfl
    all_goals
      have e' : _ = [a, b] := e
      simp only [twoS, List.getD_cons_zero, List.getD_cons_succ, lst] at e'
      injection e' with e1 e2
      injection e2 with e2 _
      rw [← e1, ← e2]
      decide
theorem one_in {c : UInt8} : mkN c.toNat = true ↔ ∃ i, i < 19 ∧ oneS.getD i 0 = c := by
  unfold mkN
  rw [decide_eq_true_eq]
  constructor
  · intro h
    have : ∃ d ∈ oneS, d = c := by
      simp only [mkL, List.mem_cons, List.not_mem_nil, or_false] at h
      refine ⟨c, ?_, rfl⟩
      have hx : ∀ (n : UInt8), c.toNat = n.toNat → c = n := fun n h => UInt8.toNat_inj.1 h
      rcases h with h|h|h|h|h|h|h|h|h|h|h|h|h|h|h|h|h|h|h
      · rw [hx 40 h]; decide
      · rw [hx 41 h]; decide
      · rw [hx 123 h]; decide
      · rw [hx 125 h]; decide
      · rw [hx 91 h]; decide
      · rw [hx 93 h]; decide
      · rw [hx 44 h]; decide
      · rw [hx 59 h]; decide
      · rw [hx 61 h]; decide
      · rw [hx 43 h]; decide
      · rw [hx 45 h]; decide
      · rw [hx 42 h]; decide
      · rw [hx 47 h]; decide
      · rw [hx 37 h]; decide
      · rw [hx 60 h]; decide
      · rw [hx 62 h]; decide
      · rw [hx 33 h]; decide
      · rw [hx 63 h]; decide
      · rw [hx 58 h]; decide
    obtain ⟨d, hd, rfl⟩ := this
    obtain ⟨i, hi, e⟩ := List.mem_iff_getElem.1 hd
    exact ⟨i, hi, by rw [List.getD_eq_getElem?_getD, List.getElem?_eq_getElem hi, Option.getD_some, e]⟩
  · rintro ⟨i, hi, rfl⟩
    have key : ∀ j : Fin 19, (oneS.getD j.val 0).toNat ∈ mkL := by decide
    exact key ⟨i, hi⟩
end Go.Proofs.YtlihkmhhfnkkoaaDoor
