/-
  WALK: the document's answer (payoffref01): Mul; NumProducts.
-/
import Derived.Test.YtookmgjnacbdkaaWRefTimesB
import Derived.Test.YtookmgjnacbdkaaWForms
namespace Go.Proofs.Ytookmgjnacbdkaa
open Go.RowKit

theorem refMul_any (a b : Int) (ha : inR a) (hb : inR b) (w : World) :
    Calls Try.prog 18 #[.int .i64 a, .int .i64 b] w fun e w' => e = .returned (.tuple #[.int .i64 (fitV (a * b)), .int .i64 (fitF (a * b))]) ∧ Below w.heap.size w w' := by
  go_enter Try.func18, Try.ntmps18
  go_wp2_with fail
  refine (from_any a ha _).mono ?_
  rintro e w1 ⟨x, rfl, hb1, hx⟩
  go_wp2_with fail
  refine (from_any b hb _).mono ?_
  rintro e w2 ⟨y, rfl, hb2, hy⟩
  go_wp2_with fail
  refine (timesB_any _ _ a b w2 (hx.later hb2) hy (ten100' a ha) (ten100' b hb)).mono ?_
  rintro e w3 ⟨z, rfl, hb3, hz⟩
  go_wp2_with fail
  refine (out_any _ _ w3 hz).mono ?_
  rintro e w4 ⟨rfl, hb4⟩
  go_wp2_with fail
  go_ret2
  exact ⟨rfl, chain (chain (chain hb1 (Nat.le_refl _) hb2) (Nat.le_refl _) hb3) (Nat.le_refl _) hb4⟩

theorem numProducts_walk (a b : Int) (ha : inR a) (hb : inR b) (w : World) :
    Calls Try.prog 8 #[.int .i64 a, .int .i64 b] w fun e w' => e = .returned (.bool true) ∧ Below w.heap.size w w' := by
  go_enter Try.func8, Try.ntmps8
  go_wp2_with fail
  refine (mul_any a b ha hb _).mono ?_; rintro e w1 ⟨rfl, rfl⟩
  go_wp2_with fail
  refine (refMul_any a b ha hb _).mono ?_; rintro e w2 ⟨rfl, hb2⟩
  go_wp2_with fail
  go_ret
  exact ⟨rfl, hb2⟩

end Go.Proofs.Ytookmgjnacbdkaa
