/-
  WALK: the document's answer (payoffref01): Mul; NumProducts.
-/
import Derived.Test.YtjlnbhmiahegmaaWRefTimesB
import Derived.Test.YtjlnbhmiahegmaaWForms
namespace Go.Proofs.Ytjlnbhmiahegmaa
open Go.RowKit
set_option maxRecDepth 100000

theorem refMul_any (a b : Int) (ha : inR a) (hb : inR b) (w : World) :
    Calls Try.prog 42 #[.int .i64 a, .int .i64 b] w fun e w' => e = .returned (.tuple #[.int .i64 (fitV (a * b)), .int .i64 (fitF (a * b))]) ∧ Below w.heap.size w w' := by
  go_enter Try.func42, Try.ntmps42
  go_wp2_with fail
  refine (from_any a ha _).mono ?_
  rintro e w1 ⟨x, rfl, hb1, hx⟩
  go_wp2_with fail
  refine (from_any b hb _).mono ?_
  rintro e w2 ⟨y, rfl, hb2, hy⟩
  go_wp2_with fail
  refine (timesB_any _ _ a b w2 (hx.later hb2) hy (ten100' a ha) (ten100' b hb)).mono ?_
  rintro e w3 ⟨z, rfl, hb3, hz⟩
  go_wp2_with fail
  refine (out_any _ _ w3 hz).mono ?_
  rintro e w4 ⟨rfl, hb4⟩
  go_wp2_with fail
  go_ret2
  exact ⟨rfl, chain (chain (chain hb1 (Nat.le_refl _) hb2) (Nat.le_refl _) hb3) (Nat.le_refl _) hb4⟩

end Go.Proofs.Ytjlnbhmiahegmaa
