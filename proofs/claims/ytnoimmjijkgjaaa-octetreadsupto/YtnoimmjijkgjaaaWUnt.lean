/-
  WALK: untouched.
-/
import Derived.Test.YtnoimmjijkgjaaaWPutL
namespace Go.Proofs.Ytnoimmjijkgjaaa
open Go.RowKit
set_option linter.unusedVariables false
set_option linter.unusedSimpArgs false

set_option maxRecDepth 100000 in
set_option maxHeartbeats 2000000 in
theorem untouched_any (g n cg B : Nat) (ys xs : List Int) (a : Option Addr) (cap : Nat) (w : World) (ho : Own w B (.slice (some ⟨g, 0, none⟩) (n + 90) cg) (n + 90) ys) (hb : ∀ c ∈ ys, 0 ≤ c ∧ c ≤ 255) (ht : ys.take n = xs) (hM : Marked n ys) (h : BL w a n xs) (hn : n ≤ 140737488351232) :
    Calls Try.prog 8 #[.slice (some ⟨g, 0, none⟩) (n + 90) cg, .slice a n cap] w fun e w' => e = .returned (.bool true) ∧ ∃ r, w' = w.drewN r := by
  have HO := Lib.hid ho
  have HM := Lib.hid hM
  have T1 := Lib.hid (((own_bl ho hb (by omega)).1).upTo n (by omega))
  have T2 := Lib.hid h
  have hcap := (own_bl ho hb (by omega)).2.2
  subst ht
  have KS := Lib.hid (fun W (g1 : BL W (some ⟨g, 0, none⟩) n (ys.take n)) (g' : BL W a n (ys.take n)) => same_any (some ⟨g, 0, none⟩) a n n cg cap _ _ W g1 g')
  rw [decide_eq_true rfl] at KS
  clear ho hM h hb
  go_enter Try.func8, Try.ntmps8
  go_wp2
  go_loopw [5] (fun t wr => ∃ i : Nat, i ≤ 90 ∧ t = .int .i64 (i : Int) ∧ ∃ r, wr = w.drewN r) (fun t _ => 90 - (intOf t).toNat)
  case atStart => exact ⟨0, by omega, rfl, 0, rfl⟩
  case round =>
    obtain ⟨i, hi, rfl, r, rfl⟩ := hrel
    by_cases hlt : i < 90
    · have ic : (i : Int) < 90 := by omega
      have d1 := (own_cell HO.out (n + i) (by omega)).1
      rw [HM.out i hlt] at d1
      have t1 : IntKind.i64.wrap ((n : Int) + (i : Int)) = ((n + i : Nat) : Int) := by simp [IntKind.wrap, IntKind.bits, IntKind.signed]; omega
      have t1' : (n : Int) + (i : Int) = ((n + i : Nat) : Int) := by omega
      have t2 : IntKind.i64.wrap (100 + (i : Int)) = 100 + (i : Int) := by simp [IntKind.wrap, IntKind.bits, IntKind.signed]; omega
      have t3 : IntKind.u8.wrap (100 + (i : Int)) = 100 + (i : Int) := by simp [IntKind.wrap, IntKind.bits, IntKind.signed]; omega
      have nb : n + i < n + 90 := by omega
      generalize n + i = u at *
      go_wp2
      go_roundw
      case rel => exact ⟨i + 1, by omega, by go_num, _, rfl⟩
      case measure => simp [intOf]; omega
    · obtain rfl : i = 90 := by omega
      go_wp2_with (go_at_call 12; refine (KS.out _ (by exact BL.heap (by rfl) T1.out) (by exact BL.heap (by rfl) T2.out)).mono ?_; rintro e w3 ⟨rfl, i3, rfl⟩)
      go_ret
      exact ⟨rfl, _, by first | rfl | simp only [World.drewN_drewN]⟩
end Go.Proofs.Ytnoimmjijkgjaaa
