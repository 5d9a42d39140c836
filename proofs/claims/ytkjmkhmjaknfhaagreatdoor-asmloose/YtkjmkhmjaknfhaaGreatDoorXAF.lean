import Derived.Test.YtkjmkhmjaknfhaaGreatDoorXAB
import Derived.Test.YtkjmkhmjaknfhaaGreatDoorXAD
import Derived.Test.YtkjmkhmjaknfhaaGreatDoorXAE
import Derived.Lib.ItoaLen
import Derived.Lib.AppendStr
import Derived.Lib.AppendIntMem
import Derived.Lib.OthersKept
import Derived.Lib.ConvBytes
import Derived.Laws.AppendOwn
import Derived.Laws.IdiomStrings
namespace Go.Proofs.YtkjmkhmjaknfhaaGreatDoor
open Go.RowKit
set_option linter.unusedVariables false
set_option linter.unusedSimpArgs false

theorem Pows.later {w w' : World} (h : Pows w) (b : Below w.heap.size w w') : Pows w' := Lib.tabBelow_of_tabIs h w' b
theorem word_eq13 (v : Int) (u : Nat) (hu : absI v = u) : decS (decide (v < 0)) 0 (Lib.decDigits u) = Lib.itoa v := by
  have e : padTo 0 (Lib.decDigits u) = Lib.decDigits u := by
    unfold padTo
    have : 1 ≤ (Lib.decDigits u).length := by
      rw [Lib.decDigits_length]
      unfold Lib.nDigits
      split <;> omega
    rw [show 0 + 1 - (Lib.decDigits u).length = 0 by omega]; rfl
  unfold decS pointed
  simp only [e, if_true]
  unfold Lib.itoa
  by_cases h : v < 0
  · rw [decide_eq_true h, if_pos rfl, if_pos h, show v.natAbs = u by rw [absI_neg h] at hu; omega]
  · rw [decide_eq_false h, if_neg (by simp), if_neg h, show v.toNat = u by rw [absI_pos h] at hu; omega]
theorem numText13 (v : Int) (hv : i64 v) (w : World) (ht : Pows w) :
    Calls Tryz.prog 89 #[.int .i64 v, .int .i64 0] w fun e w' => e = .returned (.tuple #[.string (txA v), .int .i64 0]) ∧ Below w.heap.size w w' := by
  have hv' : inR v := wf_inR hv
  obtain ⟨u, hu⟩ : ∃ u : Nat, absI v = u := ⟨(absI v).toNat, by have := absI_bd v hv'; omega⟩
  have := text_in v hv' u hu 0 (by omega) w ht
  rw [word_eq13 v u hu] at this
  exact this
theorem valueText_any (v : Int) (hv : i64 v) (w : World) (ht : Pows w) :
    Calls Tryz.prog 57 #[.int .i64 v] w fun e w' => e = .returned (.string (txA v)) ∧ Below w.heap.size w w' := by
  have K := Lib.hid (numText13 v hv w ht)
  clear hv ht
  generalize txA v = s at *
  go_enter Tryz.func57, Tryz.ntmps57
  go_wp2_with (go_at_call 89; refine K.out.mono ?_; rintro e w1 ⟨rfl, h1⟩; have B1 := Lib.hid h1; clear h1)
  go_ret
  exact ⟨rfl, B1.out⟩
theorem atI_any {w : World} {a : Option Addr} {n c : Nat} {l : List Int} (h : NR w a n c l) (k : Nat) :
    Calls Tryz.prog 87 #[.slice a n c, .int .i64 (k : Int)] w fun e w' => e = .returned (.tuple #[.int .i64 (l.getD k 0), .bool (decide ((k : Int) < (l.length : Int)))]) ∧ w' = w := by
  obtain ⟨_, l1, b1, _, r1⟩ := h
  by_cases hlt : k < n
  · obtain ⟨x, o, rfl, hc⟩ : ∃ x o, a = some ⟨x, o, none⟩ ∧ w.cell? ⟨x, o + k, none⟩ = some (.int .i64 (l.getD k 0)) := by
      rcases r1 with q | ⟨b, o, e, h1, h2⟩
      · omega
      · exact ⟨b, o, e, by simpa using h2 k hlt 0 (by omega)⟩
    have q1 : decide ((k : Int) < (l.length : Int)) = true := decide_eq_true (by omega)
    have q2 : (k : Int) < (n : Int) := by omega
    have q3 : decide (n ≤ k) = false := decide_eq_false (by omega)
    have q4 : decide ((n : Int) ≤ (k : Int)) = false := decide_eq_false (by omega)
    rw [q1]
    generalize l.getD k 0 = v at *
    clear l1 b1 r1 q1
    go_enter Tryz.func87, Tryz.ntmps87
    go_wp2
    go_ret2
    exact ⟨rfl, rfl⟩
  · have q1 : decide ((k : Int) < (l.length : Int)) = false := decide_eq_false (by omega)
    have q2 : l.getD k 0 = 0 := by simp [List.getD, List.getElem?_eq_none (show l.length ≤ k by omega)]
    have q3 : decide (n ≤ k) = true := decide_eq_true (by omega)
    have q4 : decide ((n : Int) ≤ (k : Int)) = true := decide_eq_true (by omega)
    rw [q1, q2]
    clear l1 b1 r1 q1 q2
    go_enter Tryz.func87, Tryz.ntmps87
    go_wp2
    go_ret2
    exact ⟨rfl, rfl⟩
theorem atS_any {w : World} {a : Option Addr} {n c : Nat} {l : List ByteArray} (h : SR w a n c l) (k : Nat) :
    Calls Tryz.prog 88 #[.slice a n c, .int .i64 (k : Int)] w fun e w' => e = .returned (.tuple #[.string (l.getD k ⟨#[]⟩), .bool (decide ((k : Int) < (l.length : Int)))]) ∧ w' = w := by
  obtain ⟨_, l1, b1, _, r1⟩ := h
  by_cases hlt : k < n
  · have hk : k < l.length := by omega
    obtain ⟨x, o, rfl, hc⟩ : ∃ x o, a = some ⟨x, o, none⟩ ∧ w.cell? ⟨x, o + k, none⟩ = some (.string (l.getD k ⟨#[]⟩)) := by
      rcases r1 with q | ⟨b, o, e, h1, h2⟩
      · omega
      · refine ⟨b, o, e, ?_⟩
        have := h2 k hlt 0 (by omega)
        simp [List.getD, hk] at this
        simpa [List.getD, hk] using this
    have q1 : decide ((k : Int) < (l.length : Int)) = true := decide_eq_true (by omega)
    have q2 : (k : Int) < (n : Int) := by omega
    have q3 : decide (n ≤ k) = false := decide_eq_false (by omega)
    have q4 : decide ((n : Int) ≤ (k : Int)) = false := decide_eq_false (by omega)
    rw [q1]
    generalize l.getD k ⟨#[]⟩ = v at *
    clear l1 b1 r1 q1 hk
    go_enter Tryz.func88, Tryz.ntmps88
    go_wp2
    go_ret2
    exact ⟨rfl, rfl⟩
  · have q1 : decide ((k : Int) < (l.length : Int)) = false := decide_eq_false (by omega)
    have q2 : l.getD k ⟨#[]⟩ = ⟨#[]⟩ := by simp [List.getD, List.getElem?_eq_none (show l.length ≤ k by omega)]
    have q3 : decide (n ≤ k) = true := decide_eq_true (by omega)
    have q4 : decide ((n : Int) ≤ (k : Int)) = true := decide_eq_true (by omega)
    rw [q1, q2]
    clear l1 b1 r1 q1 q2
    go_enter Tryz.func88, Tryz.ntmps88
    go_wp2
    go_ret2
    exact ⟨rfl, rfl⟩
/-- The words of the roundings, where the program keeps them. -/
def Mds (w : World) : Prop := 4 < w.heap.size ∧ ∀ k, k < 5 → w.cell? ⟨4, k, none⟩ = some (.string (mdA k))
theorem Mds.later {w w' : World} (h : Mds w) (b : Below w.heap.size w w') : Mds w' := ⟨Nat.lt_of_lt_of_le h.1 b.size, fun k hk => (b.cell (p := ⟨4, k, none⟩) h.1).trans (h.2 k hk)⟩
end Go.Proofs.YtkjmkhmjaknfhaaGreatDoor

namespace Go.Proofs.YtkjmkhmjaknfhaaGreatDoor
open Go.RowKit
set_option linter.unusedVariables false
set_option linter.unusedSimpArgs false

end Go.Proofs.YtkjmkhmjaknfhaaGreatDoor
