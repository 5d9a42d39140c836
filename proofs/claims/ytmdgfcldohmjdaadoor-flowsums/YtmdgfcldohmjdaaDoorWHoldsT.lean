/-
  A ROW OF TOTALS THAT THE CALL OWNS, IN THE SORT's WORDS.
-/
import Derived.Test.YtmdgfcldohmjdaaDoorWTotals
import Derived.Shelf.GgSortFunc.InsertionK
namespace Go.Proofs.YtmdgfcldohmjdaaDoor
open Go.RowKit Go.Sort Go.Shelf Go.Lib
set_option linter.unusedVariables false
set_option linter.unusedSimpArgs false

theorem tcs_at : ∀ (ts : List (ByteArray × Int)) (j : Nat), j < ts.length * 2 → (tcs ts)[j]? = some ((tc (ts.toArray[j / 2]!))[j % 2]!)
  | [], j, h => by simp at h
  | t :: ts, 0, _ => by simp [tcs, tc]
  | t :: ts, 1, _ => by simp [tcs, tc]
  | t :: ts, j + 2, h => by
    have ih := tcs_at ts j (by simp at h; omega)
    have e : tcs (t :: ts) = tc t ++ tcs ts := rfl
    have e1 : (tcs (t :: ts))[j + 2]? = (tcs ts)[j]? := by rw [e]; simp [tc]
    have e2 : (j + 2) / 2 = j / 2 + 1 := by omega
    have e3 : (j + 2) % 2 = j % 2 := by omega
    rw [e1, ih, e2, e3]
    simp
theorem holdsT {w : World} {B g cap : Nat} {ts : List (ByteArray × Int)} (h : w.ownsRow B 67 2 (.slice (some ⟨g, 0, none⟩) ts.length cap) ts.length (tcs ts)) : HoldsK tc 2 w g 0 ts.toArray := by
  intro j hj
  have hj' : j < ts.length * 2 := by simpa using hj
  rw [Nat.zero_add]
  refine ⟨?_, h.frozenAt j⟩
  rw [h.cellAt j hj', tcs_at ts j hj', get_flatK _ _ _ _ (by simpa using hj')]
  rfl

theorem flat_tcs (ts : List (ByteArray × Int)) : (flatK tc 2 ts.toArray).toList = tcs ts := by
  apply List.ext_getElem?
  intro j
  by_cases hj : j < ts.length * 2
  · rw [tcs_at ts j hj, Array.getElem?_toList, ← get_flatK tc 2 ts.toArray j (by simpa using hj)]
    rw [getElem!_pos _ j (by simpa using hj)]
    exact Array.getElem?_eq_getElem (by simpa using hj)
  · rw [List.getElem?_eq_none (by simp; omega), List.getElem?_eq_none (by rw [tcs_len]; omega)]
theorem take_put (cur : Array Value) (F : Array Value) (h : F.size ≤ cur.size) : (putCells id 0 F cur).toList.take F.size = F.toList := by
  apply List.ext_getElem?
  intro j
  by_cases hj : j < F.size
  · rw [List.getElem?_take_of_lt hj, Array.getElem?_toList]
    simp [putCells, hj, show j < cur.size by omega]
  · rw [List.getElem?_take_eq_none (by omega), List.getElem?_eq_none (by simp; omega)]
theorem grown_sortedT {w : World} {g n : Nat} {os : Array Obj} (d : Array (ByteArray × Int)) : w.grownBy (sortWorldK tc 2 w g 0 n d os) (some g) := by
  refine ⟨rfl, rfl, rfl, by simp [sortWorldK, putRowK, Sort.ahead], fun k hk hne => ?_⟩
  unfold sortWorldK putRowK
  rw [heap_grow_old _ _ (by simpa [Sort.ahead] using hk)]
  have : g ≠ k := fun e => hne (by rw [e])
  simp [putRow, mapBlock, Sort.ahead, Array.getElem?_modify, this]
theorem own_sortedT {w : World} {base g cap n : Nat} {os : Array Obj} {ts ts' : List (ByteArray × Int)} (hl : ts'.length = ts.length) (h : w.ownsRow base 67 2 (.slice (some ⟨g, 0, none⟩) ts.length cap) ts.length (tcs ts)) :
    (sortWorldK tc 2 w g 0 n ts'.toArray os).ownsRow base 67 2 (.slice (some ⟨g, 0, none⟩) ts.length cap) ts'.length (tcs ts') := by
  rcases h.2 with ⟨h0, _⟩ | ⟨g', cap', cur, hv, hg, hb, hn, hcap, hs, ht⟩
  · cases h0
  cases hv
  have hlt : g < w.heap.size := (Array.getElem?_eq_some_iff.1 hb).1
  refine ⟨by rw [tcs_len], .inr ⟨g, cap, putCells id 0 (flatK tc 2 ts'.toArray) cur, by rw [hl], hg, ?_, by omega, hcap, by simp [putCells, hs], ?_⟩⟩
  · unfold sortWorldK putRowK
    rw [heap_grow_old _ _ (by simpa [Sort.ahead] using hlt)]
    simp [putRow, mapBlock, Sort.ahead, Array.getElem?_modify, hb, onCells]
  · have := take_put cur (flatK tc 2 ts'.toArray) (by simp [hs]; omega)
    rw [flat_tcs] at this
    simpa using this
end Go.Proofs.YtmdgfcldohmjdaaDoor
