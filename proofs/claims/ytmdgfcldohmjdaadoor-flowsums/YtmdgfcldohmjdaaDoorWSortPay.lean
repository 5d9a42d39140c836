/-
  WHAT THE SORT's CONTRACT PAYS: SortsT.
-/
import Derived.Test.YtmdgfcldohmjdaaDoorWHoldsT
import Derived.Test.YtmdgfcldohmjdaaDoorWAddUpT2
import Derived.Sort.Statements
namespace Go.Proofs.YtmdgfcldohmjdaaDoor
open Go.RowKit
open Go.Sort (HoldsK PermIn SortedIn)
set_option linter.unusedVariables false
set_option linter.unusedSimpArgs false

theorem perm_in {d d' : Array (ByteArray × Int)} (h : PermIn 0 d.size d d') : d'.toList.Perm d.toList := by
  obtain ⟨hz, _, hp⟩ := h
  rw [Array.extract_eq_self_of_le (by omega), Array.extract_eq_self_of_le (by omega)] at hp
  exact hp
theorem sortsT_of (C : ∀ (g cap : Nat) (d : Array (ByteArray × Int)) (w : World), HoldsK tc 2 w g 0 d → g < w.heap.size → d.size < 4611686018427387904 →
    Calls Tryd.prog 47 #[.slice (some ⟨g, 0, none⟩) d.size cap, .func (.func 34) #[] #[]] w fun e w' => e = .returned (.tuple #[]) ∧ ∃ d' n os, PermIn 0 d.size d d' ∧ SortedIn (fun x y => sLt x.1 y.1) 0 d.size d' ∧ w' = sortWorldK tc 2 w g 0 n d' os) : SortsT := fun B g cap ts w hm h => by
  have hlt : g < w.heap.size := (h.lt g rfl).2
  have hn : ts.length < 4611686018427387904 := by omega
  have K := C g cap ts.toArray w (holdsT h) hlt (by simpa using hn)
  rw [show ts.toArray.size = ts.length by simp] at K
  refine K.mono ?_
  rintro e w' ⟨rfl, d', n, os, hp, hs, rfl⟩
  have hp' : PermIn 0 ts.toArray.size ts.toArray d' := by simpa using hp
  have q := perm_in hp'
  have hsz : d'.toList.length = ts.length := by simpa using q.length_eq
  refine ⟨rfl, d'.toList, by simpa using q, ?_, fun N h1 h2 => (Below.refl _ _).grown (grown_sortedT d') h2 (fun k e => by cases e; exact h1), ?_⟩
  · rw [List.pairwise_iff_getElem]
    intro i j hi hj hij
    have := hs i j (by omega) hij (by omega)
    rw [getElem!_pos d' i (by simpa using hi), getElem!_pos d' j (by simpa using hj)] at this
    simpa using this
  · have := own_sortedT (n := n) (os := os) (ts' := d'.toList) hsz h
    simpa using this
end Go.Proofs.YtmdgfcldohmjdaaDoor
