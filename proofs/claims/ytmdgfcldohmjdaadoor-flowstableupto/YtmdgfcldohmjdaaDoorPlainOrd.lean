/-
  THE ORDERS OF TEXTS AND OF FLOWS: strict, whole; only the same compare as the same.
-/
import Derived.Test.YtmdgfcldohmjdaaDoorWFlow2
import Derived.Sort.Walk0
namespace Go.Proofs.YtmdgfcldohmjdaaDoor
open Go.RowKit
set_option linter.unusedVariables false
set_option linter.unusedSimpArgs false

theorem sLt_iff {x y : ByteArray} : sLt x y = true ↔ x.toList < y.toList := by unfold sLt; rw [bytesLess_eq]; simp
theorem sLt_no {x y : ByteArray} : sLt x y = false ↔ ¬ x.toList < y.toList := by unfold sLt; rw [bytesLess_eq]; simp
theorem toList_one {x y : ByteArray} (h : x.toList = y.toList) : x = y := by
  rw [Lib.toList_data, Lib.toList_data] at h
  obtain ⟨⟨x⟩⟩ := x; obtain ⟨⟨y⟩⟩ := y
  simp at h; rw [h]
theorem sLt_irrefl (x : ByteArray) : sLt x x = false := sLt_no.2 (List.lt_irrefl _)
theorem sLt_trans {x y z : ByteArray} (h1 : sLt x y = true) (h2 : sLt y z = true) : sLt x z = true := sLt_iff.2 (List.lt_trans (sLt_iff.1 h1) (sLt_iff.1 h2))
theorem sLt_ntrans {x y z : ByteArray} (h1 : sLt x y = false) (h2 : sLt y z = false) : sLt x z = false := by
  rw [sLt_no, List.not_lt] at *
  exact List.le_trans h2 h1
theorem sLt_anti {x y : ByteArray} (h1 : sLt x y = false) (h2 : sLt y x = false) : x = y := by
  rw [sLt_no, List.not_lt] at *
  exact toList_one (List.le_antisymm h2 h1)

theorem cmpS_lt {x y : ByteArray} : cmpS x y < 0 ↔ sLt x y = true := by
  unfold cmpS
  cases sLt x y <;> cases sEq x y <;> simp
theorem cmpS_zero {x y : ByteArray} : cmpS x y = 0 ↔ x = y := by
  unfold cmpS
  constructor
  · intro h
    cases h1 : sLt x y <;> cases h2 : sEq x y <;> simp [h1, h2] at h
    exact toList_one (by unfold sEq at h2; exact eq_of_beq h2)
  · rintro rfl
    rw [sLt_irrefl]; simp [sEq]
theorem cmpI_lt {x y : Int} : cmpI x y < 0 ↔ x < y := by unfold cmpI; split <;> (try split) <;> simp <;> omega
theorem cmpI_zero {x y : Int} : cmpI x y = 0 ↔ x = y := by unfold cmpI; split <;> (try split) <;> simp <;> omega

/-- A flow comes before another. -/
theorem cmpF_lt {f g : Fl} : cmpF f g < 0 ↔ f.d < g.d ∨ (f.d = g.d ∧ (sLt f.c g.c = true ∨ (f.c = g.c ∧ f.a < g.a))) := by
  unfold cmpF orI
  by_cases h1 : cmpI f.d g.d = 0
  · have e1 := cmpI_zero.1 h1
    rw [if_neg (by simpa using h1)]
    by_cases h2 : cmpS f.c g.c = 0
    · have e2 := cmpS_zero.1 h2
      rw [if_neg (by simpa using h2), cmpI_lt, e2, sLt_irrefl]
      simp [e1]
    · rw [if_pos (by simpa using h2), cmpS_lt]
      have n2 : f.c ≠ g.c := fun e => h2 (cmpS_zero.2 e)
      simp [e1, n2]
  · rw [if_pos (by simpa using h1), cmpI_lt]
    have n1 : f.d ≠ g.d := fun e => h1 (cmpI_zero.2 e)
    simp [n1]

def fLt (f g : Fl) : Bool := decide (cmpF f g < 0)
theorem fLt_irrefl (f : Fl) : fLt f f = false := decide_eq_false (by rw [cmpF_lt, sLt_irrefl]; simp)
theorem fLt_trans {f g h : Fl} (h1 : fLt f g = true) (h2 : fLt g h = true) : fLt f h = true := by
  have h1 := cmpF_lt.1 (of_decide_eq_true h1)
  have h2 := cmpF_lt.1 (of_decide_eq_true h2)
  refine decide_eq_true (cmpF_lt.2 ?_)
  rcases h1 with h1 | ⟨e1, h1 | ⟨c1, h1⟩⟩ <;> rcases h2 with h2 | ⟨e2, h2 | ⟨c2, h2⟩⟩
  · exact .inl (by omega)
  · exact .inl (by omega)
  · exact .inl (by omega)
  · exact .inl (by omega)
  · exact .inr ⟨by omega, .inl (sLt_trans h1 h2)⟩
  · exact .inr ⟨by omega, .inl (c2 ▸ h1)⟩
  · exact .inl (by omega)
  · exact .inr ⟨by omega, .inl (c1 ▸ h2)⟩
  · exact .inr ⟨by omega, .inr ⟨c1.trans c2, by omega⟩⟩
/-- Of two flows one comes first, or they are one. -/
theorem fLt_whole (f g : Fl) : fLt f g = true ∨ fLt g f = true ∨ f = g := by
  rcases (show f.d < g.d ∨ g.d < f.d ∨ f.d = g.d by omega) with h | h | h
  · exact .inl (decide_eq_true (cmpF_lt.2 (.inl h)))
  · exact .inr (.inl (decide_eq_true (cmpF_lt.2 (.inl h))))
  · cases h1 : sLt f.c g.c with
    | true => exact .inl (decide_eq_true (cmpF_lt.2 (.inr ⟨h, .inl h1⟩)))
    | false =>
      cases h2 : sLt g.c f.c with
      | true => exact .inr (.inl (decide_eq_true (cmpF_lt.2 (.inr ⟨h.symm, .inl h2⟩))))
      | false =>
        have ec := sLt_anti h1 h2
        rcases (show f.a < g.a ∨ g.a < f.a ∨ f.a = g.a by omega) with k | k | k
        · exact .inl (decide_eq_true (cmpF_lt.2 (.inr ⟨h, .inr ⟨ec, k⟩⟩)))
        · exact .inr (.inl (decide_eq_true (cmpF_lt.2 (.inr ⟨h.symm, .inr ⟨ec.symm, k⟩⟩))))
        · refine .inr (.inr ?_)
          obtain ⟨a, b, c⟩ := f; obtain ⟨a', b', c'⟩ := g
          simp at h ec k; rw [h, ec, k]
theorem fLt_asymm {f g : Fl} (h : fLt f g = true) : fLt g f = false := by
  cases h2 : fLt g f with
  | false => rfl
  | true => have := fLt_trans h h2; rw [fLt_irrefl] at this; cases this
theorem fLt_anti {f g : Fl} (h1 : fLt f g = false) (h2 : fLt g f = false) : f = g := by
  rcases fLt_whole f g with h | h | h
  · rw [h1] at h; cases h
  · rw [h2] at h; cases h
  · exact h
theorem fLt_ntrans {f g h : Fl} (h1 : fLt f g = false) (h2 : fLt g h = false) : fLt f h = false := by
  cases k : fLt f h with
  | false => rfl
  | true =>
    rcases fLt_whole g f with q | q | q
    · have := fLt_trans q k; rw [h2] at this; cases this
    · rw [h1] at q; cases q
    · rw [q] at h2; rw [h2] at k; cases k
end Go.Proofs.YtmdgfcldohmjdaaDoor
