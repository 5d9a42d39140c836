/-
  WALKS: segments that are compared; programs that are compared.
-/
import Derived.Test.YteedkcmjhdabeaaDoorWImg1
namespace Go.Proofs.YteedkcmjhdabeaaDoor
open Go.RowKit
set_option linter.unusedVariables false
set_option linter.unusedSimpArgs false
theorem allocBP (W : World) (o : Obj) : Below W.heap.size W (W.alloc o) := (Below.refl _ _).alloc (Nat.le_refl _) _
theorem drewBP (W : World) (q : Nat) : Below W.heap.size W (W.drewN q) := ⟨rfl, rfl, rfl, Nat.le_refl _, fun _ _ => rfl⟩
theorem alloc2 (W : World) (o o' : Obj) : Below W.heap.size W ((W.alloc o).alloc o') := ((Below.refl _ _).alloc (Nat.le_refl _) _).alloc (by simp) _
theorem cell_keepA {W : World} {b o : Nat} {v : Value} (h : W.cell? ⟨b, o, none⟩ = some v) (ob : Obj) : (W.alloc ob).cell? ⟨b, o, none⟩ = some v := by
  obtain ⟨b', o', e, hb⟩ := taddr_of h
  injection e with e1 e2
  subst e1 e2
  rw [(allocBP W ob).cell (p := ⟨b, o, none⟩) hb]
  exact h
def Sg.key (s : Sg) : Int × List In := (s.day, s.code)
theorem keys_eq {l l' : List Sg} (h : l.length = l'.length) (e : ∀ i, i < l.length → (l.getD i default).key = (l'.getD i default).key) : l.map Sg.key = l'.map Sg.key := by
  apply List.ext_getElem (by simpa using h)
  intro i h1 h2
  have := e i (by simpa using h1)
  simp at h1 h2
  simpa [List.getD, h1, h2] using this
theorem keys_at {l l' : List Sg} (h : l.map Sg.key = l'.map Sg.key) (i : Nat) : (l.getD i default).key = (l'.getD i default).key := by
  have := congrArg (fun m => m[i]?) h
  simp only [List.getElem?_map] at this
  simp only [List.getD]
  cases h1 : l[i]? <;> cases h2 : l'[i]? <;> rw [h1, h2] at this <;> simp at this ⊢
  exact this
theorem sg_mem {l : List Sg} {i : Nat} (h : i < l.length) : l.getD i default ∈ l := by
  rw [List.getD_eq_getElem?_getD, List.getElem?_eq_getElem h, Option.getD_some]; exact List.getElem_mem h
end Go.Proofs.YteedkcmjhdabeaaDoor
