/-
  WALK: sameTotals.
-/
import Derived.Test.YtmdgfcldohmjdaaDoorWTotals
namespace Go.Proofs.YtmdgfcldohmjdaaDoor
open Go.RowKit
set_option linter.unusedVariables false
set_option linter.unusedSimpArgs false

/-- A row of totals, read. -/
def TC (w : World) (a : Option Addr) (ts : List (ByteArray × Int)) : Prop :=
  ts.length = 0 ∨ ∃ b, a = some ⟨b, 0, none⟩ ∧ b < w.heap.size ∧ ∀ i, i < ts.length → w.cell? ⟨b, i * 2, none⟩ = some (.string (ts.getD i default).1) ∧ w.cell? ⟨b, i * 2 + 1, none⟩ = some (.int .i64 (ts.getD i default).2)
theorem tcs_two : ∀ (ts : List (ByteArray × Int)) (i : Nat), i < ts.length → (tcs ts)[i * 2]? = some (.string (ts.getD i default).1) ∧ (tcs ts)[i * 2 + 1]? = some (.int .i64 (ts.getD i default).2)
  | [], i, h => by simp at h
  | t :: ts, 0, _ => by simp [tcs, tc]
  | t :: ts, i + 1, h => by
    have := tcs_two ts i (by simpa using h)
    rw [show (i + 1) * 2 = i * 2 + 2 by omega, show i * 2 + 2 + 1 = i * 2 + 1 + 2 by omega]
    have e : tcs (t :: ts) = tc t ++ tcs ts := by simp [tcs]
    rw [e, List.getElem?_append_right (by simp [tc]), List.getElem?_append_right (by simp [tc])]
    simpa [tc] using this
theorem tc_of_own {w : World} {B : Nat} {v : Value} {ts : List (ByteArray × Int)} (h : w.ownsRow B 67 2 v ts.length (tcs ts)) : ∃ a c, v = .slice a ts.length c ∧ TC w a ts := by
  have hl := h.lt
  rcases h.2 with ⟨rfl, q⟩ | ⟨g, c, cur, rfl, _⟩
  · exact ⟨none, 0, by rw [q], .inl q⟩
  · refine ⟨_, c, rfl, .inr ⟨g, rfl, (hl g rfl).2, fun i hi => ?_⟩⟩
    have t := tcs_two ts i hi
    constructor
    · rw [World.ownsRow.cellAt h (i * 2) (by omega), t.1]
    · rw [World.ownsRow.cellAt h (i * 2 + 1) (by omega), t.2]
theorem TC.later {w w' : World} {a : Option Addr} {ts : List (ByteArray × Int)} (h : TC w a ts) (hb : Below w.heap.size w w') : TC w' a ts := by
  rcases h with h | ⟨b, rfl, hlt, hc⟩
  · exact .inl h
  · exact .inr ⟨b, rfl, Nat.lt_of_lt_of_le hlt hb.size, fun i hi => ⟨(hb.cell (p := ⟨b, i * 2, none⟩) hlt).trans (hc i hi).1, (hb.cell (p := ⟨b, i * 2 + 1, none⟩) hlt).trans (hc i hi).2⟩⟩

set_option maxHeartbeats 2000000 in
theorem sameT_any (a b : Option Addr) (n c1 c2 : Nat) (ts : List (ByteArray × Int)) (w : World) (hn : ts.length = n) (h43 : n ≤ 4398046511000) (h : TC w a ts) (h' : TC w b ts) :
    Calls Tryd.prog 18 #[.slice a n c1, .slice b n c2] w fun e w' => e = .returned (.bool true) ∧ Below w.heap.size w w' := by
  rcases h with h3 | ⟨x, rfl, hx, hc⟩
  · obtain rfl : n = 0 := by omega
    go_enter Tryd.func18, Tryd.ntmps18
    go_wp2
    go_loopw [5] (fun t wr => t = .int .i64 0 ∧ wr = w) (fun t _ => 0)
    case atStart => exact ⟨rfl, rfl⟩
    case round =>
      obtain ⟨rfl, rfl⟩ := hrel
      go_wp2
      go_ret
      exact ⟨rfl, Below.refl _ _⟩
  · rcases h' with h3' | ⟨y, rfl, hy, hd⟩
    · obtain rfl : n = 0 := by omega
      go_enter Tryd.func18, Tryd.ntmps18
      go_wp2
      go_loopw [5] (fun t wr => t = .int .i64 0 ∧ wr = w) (fun t _ => 0)
      case atStart => exact ⟨rfl, rfl⟩
      case round =>
        obtain ⟨rfl, rfl⟩ := hrel
        go_wp2
        go_ret
        exact ⟨rfl, Below.refl _ _⟩
    · rw [hn] at hc hd
      have HC := Lib.hid hc
      have HD := Lib.hid hd
      clear hc hd
      go_enter Tryd.func18, Tryd.ntmps18
      go_wp2
      go_loopw [5] (fun t wr => ∃ k : Nat, k ≤ n ∧ t = .int .i64 k ∧ Below w.heap.size w wr) (fun t _ => n - (intOf t).toNat)
      case atStart => exact ⟨0, by omega, rfl, Below.refl _ _⟩
      case round =>
        obtain ⟨k, hk, rfl, hB⟩ := hrel
        have BB := Lib.hid hB
        by_cases hlt : k < n
        · obtain ⟨c0, c1⟩ := HC.out k hlt
          obtain ⟨e0, e1⟩ := HD.out k hlt
          rw [← hB.cell (p := ⟨x, k * 2, none⟩) hx] at c0
          rw [← hB.cell (p := ⟨x, k * 2 + 1, none⟩) hx] at c1
          rw [← hB.cell (p := ⟨y, k * 2, none⟩) hy] at e0
          rw [← hB.cell (p := ⟨y, k * 2 + 1, none⟩) hy] at e1
          have kc : (k : Int) < (n : Int) := by omega
          generalize ts.getD k default = f at *
          obtain ⟨fc, fa⟩ := f
          simp only at c0 c1 e0 e1
          clear hB
          go_wp2
          go_region
          all_goals
            go_wp2
            go_roundw
            case rel => exact ⟨k + 1, by omega, by go_num, BB.out.drew⟩
            case measure => simp [intOf]; omega
        · obtain rfl : k = n := by omega
          clear hB
          go_wp2
          go_ret
          exact ⟨rfl, BB.out⟩
end Go.Proofs.YtmdgfcldohmjdaaDoor
