import Derived.Test.YtjbbbejadhojlaaDoorXAQ
import Derived.Test.YtjbbbejadhojlaaDoorXAA
namespace Go.Proofs.YtjbbbejadhojlaaDoor
open Go.RowKit
set_option linter.unusedVariables false
set_option linter.unusedSimpArgs false
theorem getD_keyV (l : List Sg) (i : Nat) : (l.getD i default).key = (l.map Sg.key).getD i (Sg.key default) := by
  rw [List.getD_eq_getElem?_getD, List.getD_eq_getElem?_getD, List.getElem?_map]
  cases l[i]? <;> rfl
theorem sg_partsV {s t : Sg} (h : s.key = t.key) : s.day = t.day ∧ s.code = t.code := by
  unfold Sg.key at h
  simp only [Prod.mk.injEq] at h
  exact h
theorem at_keyV {l m : List Sg} (h : l.map Sg.key = m.map Sg.key) (i : Nat) : (l.getD i default).day = (m.getD i default).day ∧ (l.getD i default).code = (m.getD i default).code := sg_partsV (by rw [getD_keyV, getD_keyV, h])
theorem len_keyV {l m : List Sg} (h : l.map Sg.key = m.map Sg.key) : l.length = m.length := by
  have := congrArg List.length h
  simpa using this
theorem tot_keyV {l m : List Sg} (h : l.map Sg.key = m.map Sg.key) (k : Nat) : totN l k = totN m k := by
  have e : ∀ l : List Sg, totN l k = (((l.map Sg.key).take k).map (fun s => s.2.length)).sum := fun l => by
    unfold totN
    rw [← List.map_take, List.map_map]
    rfl
  rw [e l, e m, h]
theorem mk_keyV {l m : List Sg} (h : l.map Sg.key = m.map Sg.key) (op : Int) (bs : List Bool) : mkAll op l bs = mkAll op m bs := by
  have e : ∀ l : List Sg, mkAll op l bs = (l.map Sg.key).foldl (fun b s => s.2.foldl (mkB op) b) bs := fun l => by
    unfold mkAll
    rw [List.foldl_map]
    rfl
  rw [e l, e m, h]
theorem pre_keyV {l m : List Sg} (h : l.map Sg.key = m.map Sg.key) (i : Nat) : preD l i = preD m i := by
  cases i with
  | zero => rfl
  | succ i => exact (at_keyV h i).1
theorem can_key1V {p q : Pg} (h : q.key = p.key) (c : canP q) : canP p := by
  obtain ⟨e0, e1, e2, e3, e4, e5, e6, e7⟩ := key_of h
  obtain ⟨na, nc, names, ua, uc, curs, pa, pc, pool, hor, cells, slots, stack, da, dc, days⟩ := p
  obtain ⟨na', nc', names', ua', uc', curs', pa', pc', pool', hor', cells', slots', stack', da', dc', days'⟩ := q
  simp only at e0 e1 e2 e3 e4 e5 e6 e7
  subst e0 e1 e2 e3 e4 e5 e6
  obtain ⟨h1, h2, ⟨h3, h4⟩, h5, h6⟩ := c
  simp only at h3 h4 h5 h6
  refine ⟨h1, h2, ⟨fun i hi => ?_, ?_⟩, fun i hi => ?_, ?_⟩
  · have z := h3 i (by rw [len_keyV e7]; exact hi)
    unfold dayI at z ⊢
    simp only
    rw [← pre_keyV e7 i, ← (at_keyV e7 i).1]
    exact z
  · simp only
    rw [← len_keyV e7, ← tot_keyV e7]
    exact h4
  · have z := h5 i (by rw [len_keyV e7]; exact hi)
    simp only
    rw [← (at_keyV e7 i).2]
    exact z
  · simp only
    rw [← mk_keyV e7, ← mk_keyV e7, ← mk_keyV e7]
    exact h6
theorem vAll_keyV {l m : List Sg} (h : l.map Sg.key = m.map Sg.key) : ∀ d, vAll l d = vAll m d
  | 0 => rfl
  | d + 1 => by
    have e := at_keyV h d
    simp only [vAll]
    rw [vAll_keyV h d, e.1, e.2]
theorem vfyA_keyV {p q : Pg} (h : q.key = p.key) : vfyA q = vfyA p := by
  have e : q.days.map Sg.key = p.days.map Sg.key := congrArg (fun k => k.2.2.2.2.2.2.2) h
  have l := len_keyV e
  have c : canP q ↔ canP p := ⟨can_key1V h, can_key1V h.symm⟩
  have e1 : q.stack = p.stack := congrArg (fun k => k.2.2.2.2.2.2.1) h
  have e2 : q.slots = p.slots := congrArg (fun k => k.2.2.2.2.2.1) h
  have e3 : q.cells = p.cells := congrArg (fun k => k.2.2.2.2.1) h
  have v : vfy q = vfy p := by
    have vf : ∀ X, vFit X q ↔ vFit X p := fun X => by unfold vFit; rw [e1, e2, e3]
    unfold vfy
    rw [vAll_keyV e, l]
    by_cases a : (vAll p.days p.days.length).1 ≠ 0
    · rw [if_pos a, if_pos a]
    · rw [if_neg a, if_neg a]
      by_cases b : vFit (vAll p.days p.days.length).2.2.2 q
      · rw [if_pos b, if_pos ((vf _).1 b)]
      · rw [if_neg b, if_neg (fun y => b ((vf _).2 y))]
  unfold vfyA
  by_cases z : canP q
  · rw [if_pos z, if_pos (c.1 z), v]
  · rw [if_neg z, if_neg (fun y => z (c.2 y))]
end Go.Proofs.YtjbbbejadhojlaaDoor
