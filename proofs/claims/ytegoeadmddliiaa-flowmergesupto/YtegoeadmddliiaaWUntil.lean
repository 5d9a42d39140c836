/-
  WALKS: Until, the program's and the document's.
-/
import Derived.Test.YtegoeadmddliiaaWFlows
namespace Go.Proofs.Ytegoeadmddliiaa
open Go.RowKit
set_option linter.unusedVariables false
set_option linter.unusedSimpArgs false

def keep (day : Int) (fs : List Fl) : List Fl := fs.filter (fun f => decide (f.d ≤ day))
theorem keep_yes {day : Int} {fs : List Fl} {k : Nat} {f : Fl} (hk : k < fs.length) (hf : fs.getD k default = f) (h : f.d ≤ day) : keep day (fs.take (k + 1)) = keep day (fs.take k) ++ [f] := by
  have e : fs[k]? = some f := by rw [List.getElem?_eq_getElem hk, ← hf]; simp [List.getD, hk]
  unfold keep
  rw [List.take_add_one, e]
  simp [h]
theorem keep_no {day : Int} {fs : List Fl} {k : Nat} {f : Fl} (hk : k < fs.length) (hf : fs.getD k default = f) (h : ¬ f.d ≤ day) : keep day (fs.take (k + 1)) = keep day (fs.take k) := by
  have e : fs[k]? = some f := by rw [List.getElem?_eq_getElem hk, ← hf]; simp [List.getD, hk]
  unfold keep
  rw [List.take_add_one, e]
  simp [h]
theorem keep_len (day : Int) (fs : List Fl) : (keep day fs).length ≤ fs.length := List.length_filter_le _ _

theorem sEq_self (c : ByteArray) : (c.toList == c.toList) = true := beq_self_eq_true _

set_option maxHeartbeats 2000000 in
theorem same_fl (a b : Option Addr) (n c1 c2 : Nat) (fs : List Fl) (w : World) (h : FL w a n fs) (h' : FL w b n fs) :
    Calls Try.prog 7 #[.slice a n c1, .slice b n c2] w fun e w' => e = .returned (.bool true) ∧ Below w.heap.size w w' := by
  obtain ⟨h1, h2, h3⟩ := h
  obtain ⟨_, _, h3'⟩ := h'
  rcases h3 with h3 | ⟨x, o, rfl, hx, hc⟩
  · subst h3
    go_enter Try.func7, Try.ntmps7
    go_wp2
    go_loopw [5] (fun t wr => t = .int .i64 0 ∧ wr = w) (fun t _ => 0)
    case atStart => exact ⟨rfl, rfl⟩
    case round =>
      obtain ⟨rfl, rfl⟩ := hrel
      go_wp2
      go_ret
      exact ⟨rfl, Below.refl _ _⟩
  · rcases h3' with h3' | ⟨y, p, rfl, hy, hd⟩
    · subst h3'
      go_enter Try.func7, Try.ntmps7
      go_wp2
      go_loopw [5] (fun t wr => t = .int .i64 0 ∧ wr = w) (fun t _ => 0)
      case atStart => exact ⟨rfl, rfl⟩
      case round =>
        obtain ⟨rfl, rfl⟩ := hrel
        go_wp2
        go_ret
        exact ⟨rfl, Below.refl _ _⟩
    · have HC := Lib.hid hc
      have HD := Lib.hid hd
      clear hc hd
      go_enter Try.func7, Try.ntmps7
      go_wp2
      go_loopw [5] (fun t wr => ∃ k : Nat, k ≤ n ∧ t = .int .i64 k ∧ Below w.heap.size w wr) (fun t _ => n - (intOf t).toNat)
      case atStart => exact ⟨0, by omega, rfl, Below.refl _ _⟩
      case round =>
        obtain ⟨k, hk, rfl, hB⟩ := hrel
        have BB := Lib.hid hB
        by_cases hlt : k < n
        · obtain ⟨c0, c1, c2⟩ := (HC.out k hlt).later hB hx
          obtain ⟨e0, e1, e2⟩ := (HD.out k hlt).later hB hy
          have kc : (k : Int) < (n : Int) := by omega
          generalize fs.getD k default = f at *
          obtain ⟨fd, fc, fa⟩ := f
          simp only at c0 c1 c2 e0 e1 e2
          clear hB
          go_wp2
          go_region
          all_goals
            go_wp2
            go_roundw
            case rel => exact ⟨k + 1, by omega, by go_num, BB.out.drew⟩
            case measure => simp [intOf]; omega
        · obtain rfl : k = n := by omega
          clear hB
          go_wp2
          go_ret
          exact ⟨rfl, BB.out⟩
end Go.Proofs.Ytegoeadmddliiaa
