/-
  TableNumbers, with num.Parse.
-/
import Derived.Test.YthkeoeobpdminaaDoorWTNum2
import Derived.Test.YthkeoeobpdminaaDoorWNumParseT
import Derived.Test.YthkeoeobpdminaaDoorWEvLaidT
import Derived.Test.YthkeoeobpdminaaDoorWPowsLaid
namespace Go.Proofs.YthkeoeobpdminaaDoor
open Go.RowKit
theorem back_arr (u : ByteArray) : (⟨u.data.toList.toArray⟩ : ByteArray) = u := by simp
theorem tableNumbers_go (v : Int) (u : ByteArray) (hv : (Lit.int .i64 v).wf = true) (hu : u.size ≤ 9223372036854775807) (w : World) (ht : Pows w) (hE : Ev w) :
    Calls Tryd.prog 6 #[.int .i64 v, .string u] w fun e w' => e = .returned (.bool true) ∧ Below w.heap.size w w' := by
  by_cases hl : u.size ≤ 21
  · refine tableNumbers_walk v u hv hu w ht (prsV 0 u.data.toList) (prsE 0 u.data.toList) (fun W b => ?_) (fun h => ?_)
    · have := parse_in u.data.toList 0 (by omega) (by have e : u.data.toList.length = u.size := Array.length_toList; omega) W (pows_below ht b) (ev_below hE b)
      rw [back_arr] at this
      exact this
    · have e : u.data.toList = [45] := by
        rw [Go.ByteArray.toList_eq] at h
        exact beq_iff_eq.1 h
      rw [e]
      have : prsE 0 [45] = 11 := by kernel_rfl
      rw [this]; decide
  · refine tableNumbers_walk v u hv hu w ht 0 11 (fun W b => ?_) (fun _ => by decide)
    refine (parse_long u 0 (by omega) hl hu W).mono ?_
    rintro e w' ⟨rfl, rfl⟩
    exact ⟨rfl, Below.refl _ _⟩
end Go.Proofs.YthkeoeobpdminaaDoor
