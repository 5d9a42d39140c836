/-
  WALKS: sameInts of two rows alike; intact.
-/
import Derived.Test.YtpeglcnenagkbaaDoorWOwn
namespace Go.Proofs.YtpeglcnenagkbaaDoor
open Go.RowKit
set_option linter.unusedVariables false
set_option linter.unusedSimpArgs false

set_option maxHeartbeats 1000000 in
theorem same_none (c1 c2 : Nat) (w : World) : Calls Tryd.prog 24 #[.slice none 0 c1, .slice none 0 c2] w fun e w' => e = .returned (.bool true) ∧ w' = w := by
  go_enter Tryd.func24, Tryd.ntmps24
  go_wp2
  go_loopw [5] (fun i wr => i = .int .i64 0 ∧ wr = w) (fun i _ => 0)
  case atStart => exact ⟨rfl, rfl⟩
  case round =>
    obtain ⟨rfl, rfl⟩ := hrel
    go_wp2
    go_ret
    exact ⟨rfl, rfl⟩
theorem below_drI {B : Nat} {a w : World} (h : Below B a w) : Below B a w.drew := ⟨h.os, h.tape, h.output, h.size, h.block⟩
set_option maxHeartbeats 1000000 in
theorem same_some (g p b o c c1 c2 : Nat) (zs : List Int) (w : World) (hc : c ≤ 20000000000000) (hg : g < w.heap.size) (hb : b < w.heap.size)
    (h1 : ∀ i, i < c → w.cell? ⟨g, p + i, none⟩ = some (.int .i64 (zs.getD i 0))) (h2 : ∀ i, i < c → w.cell? ⟨b, o + i, none⟩ = some (.int .i64 (zs.getD i 0))) :
    Calls Tryd.prog 24 #[.slice (some ⟨g, p, none⟩) c c1, .slice (some ⟨b, o, none⟩) c c2] w fun e w' => e = .returned (.bool true) ∧ Below w.heap.size w w' := by
  have H1 := Lib.hid h1
  have H2 := Lib.hid h2
  clear h1 h2
  go_enter Tryd.func24, Tryd.ntmps24
  go_wp2
  go_loopw [5] (fun i wr => ∃ k : Nat, k ≤ c ∧ i = .int .i64 k ∧ Below w.heap.size w wr) (fun i _ => c - (intOf i).toNat)
  case atStart => exact ⟨0, by omega, rfl, Below.refl _ _⟩
  case round =>
    obtain ⟨k, hk, rfl, hB⟩ := hrel
    have BB := Lib.hid hB
    by_cases hlt : k < c
    · have d1 : wr.cell? ⟨g, p + k, none⟩ = some (.int .i64 (zs.getD k 0)) := by rw [hB.cell (p := ⟨g, p + k, none⟩) hg]; exact H1.out k hlt
      have d2 : wr.cell? ⟨b, o + k, none⟩ = some (.int .i64 (zs.getD k 0)) := by rw [hB.cell (p := ⟨b, o + k, none⟩) hb]; exact H2.out k hlt
      have kc : (k : Int) < (c : Int) := by omega
      generalize zs.getD k 0 = z at d1 d2
      clear hB
      go_wp2
      go_region
      all_goals
        go_wp2
        go_roundw
        case rel => exact ⟨k + 1, by omega, by go_num, below_drI BB.out⟩
        case measure => simp [intOf]; omega
    · obtain rfl : k = c := by omega
      clear hB
      go_wp2
      go_ret
      exact ⟨rfl, BB.out⟩
set_option maxHeartbeats 1000000 in
theorem intact_nil (w : World) : Calls Tryd.prog 12 #[.slice none 0 0, .slice none 0 0] w fun e w' => e = .returned (.bool true) ∧ w' = w := by
  have en := eql_nil none 0 0
  go_enter Tryd.func12, Tryd.ntmps12
  go_wp2_with (go_at_call 24; refine (same_none _ _ _).mono ?_; rintro e w1 ⟨rfl, rfl⟩)
  go_ret
  exact ⟨rfl, rfl⟩
set_option maxHeartbeats 1000000 in
theorem intact_some (g b o c cap : Nat) (zs xs : List Int) (w : World) (hc : c ≤ 20000000000000) (hW : Wi w g xs) (hx : xs.length = c + 2) (hE : ∀ i, i < c → xs.getD i 0 = zs.getD i 0) (e1 : xs.getD c 0 = -771) (e2 : xs.getD (c + 1) 0 = -772)
    (hb : b < w.heap.size) (h2 : ∀ i, i < c → w.cell? ⟨b, o + i, none⟩ = some (.int .i64 (zs.getD i 0))) :
    Calls Tryd.prog 12 #[.slice (some ⟨g, 0, none⟩) c (c + 2), .slice (some ⟨b, o, none⟩) c cap] w fun e w' => e = .returned (.bool true) ∧ Below w.heap.size w w' := by
  have hg := hW.1
  have en := eql_nil (some ⟨b, o, none⟩) c cap
  have H1 := Lib.hid (show ∀ i, i < c → w.cell? ⟨g, 0 + i, none⟩ = some (.int .i64 (zs.getD i 0)) from fun i hi => by rw [Nat.zero_add, (hW.2 i (by omega)).1, hE i hi])
  have H2 := Lib.hid h2
  have d1 := (hW.2 c (by omega)).1
  have d2 := (hW.2 (c + 1) (by omega)).1
  rw [e1] at d1
  rw [e2] at d2
  clear hW hE h2
  go_enter Tryd.func12, Tryd.ntmps12
  go_wp2_with (go_at_call 24; refine (same_some _ _ _ _ _ _ _ zs _ hc hg hb H1.out H2.out).mono ?_; rintro e w1 ⟨rfl, b1⟩; rw [← b1.cell (p := ⟨g, c, none⟩) hg] at d1; rw [← b1.cell (p := ⟨g, c + 1, none⟩) hg] at d2)
  go_ret
  exact ⟨rfl, b1⟩
end Go.Proofs.YtpeglcnenagkbaaDoor
