/-
  THE CONTRACTS IN THE FORMS THAT THE LAWS' WALKS TAKE: decided, the sum written as one pleases.
-/
import Derived.Test.YtjlnbhmiahegmaaWDiv
namespace Go.Proofs.Ytjlnbhmiahegmaa
open Go.RowKit

theorem add_in {a b c : Int} (ha : inR a) (hb : inR b) (hc : a + b = c) (h : inR c) (w : World) :
    Calls Try.prog 72 #[.int .i64 a, .int .i64 b] w fun e w' => e = .returned (.tuple #[.int .i64 c, .int .i64 0]) ∧ w' = w := by
  have := add_any a b ha hb w
  rw [hc, fitV_in h, fitF_in h] at this
  exact this
theorem add_out {a b : Int} (ha : inR a) (hb : inR b) (h : ¬ inR (a + b)) (w : World) :
    Calls Try.prog 72 #[.int .i64 a, .int .i64 b] w fun e w' => e = .returned (.tuple #[.int .i64 0, .int .i64 1]) ∧ w' = w := by
  have := add_any a b ha hb w
  rw [fitV_out h, fitF_out h] at this
  exact this
theorem add_as {a b c : Int} (ha : inR a) (hb : inR b) (hc : a + b = c) (w : World) :
    Calls Try.prog 72 #[.int .i64 a, .int .i64 b] w fun e w' => e = .returned (.tuple #[.int .i64 (fitV c), .int .i64 (fitF c)]) ∧ w' = w := by
  rw [← hc]; exact add_any a b ha hb w
theorem sub_in {a b c : Int} (ha : inR a) (hb : inR b) (hc : a - b = c) (h : inR c) (w : World) :
    Calls Try.prog 73 #[.int .i64 a, .int .i64 b] w fun e w' => e = .returned (.tuple #[.int .i64 c, .int .i64 0]) ∧ w' = w := by
  have := sub_any a b ha hb w
  rw [hc, fitV_in h, fitF_in h] at this
  exact this
theorem mul_as {a b c : Int} (ha : inR a) (hb : inR b) (hc : a * b = c) (w : World) :
    Calls Try.prog 74 #[.int .i64 a, .int .i64 b] w fun e w' => e = .returned (.tuple #[.int .i64 (fitV c), .int .i64 (fitF c)]) ∧ w' = w := by
  rw [← hc]; exact mul_any a b ha hb w
theorem mul_in {a b c : Int} (ha : inR a) (hb : inR b) (hc : a * b = c) (h : inR c) (w : World) :
    Calls Try.prog 74 #[.int .i64 a, .int .i64 b] w fun e w' => e = .returned (.tuple #[.int .i64 c, .int .i64 0]) ∧ w' = w := by
  have := mul_any a b ha hb w
  rw [hc, fitV_in h, fitF_in h] at this
  exact this
theorem neg_in {a : Int} (ha : inR a) (h : inR (-a)) (w : World) :
    Calls Try.prog 70 #[.int .i64 a] w fun e w' => e = .returned (.tuple #[.int .i64 (-a), .int .i64 0]) ∧ w' = w := by
  have := neg_any a ha w
  rw [fitV_in h, fitF_in h] at this
  exact this
theorem neg_out {a : Int} (ha : inR a) (h : ¬ inR (-a)) (w : World) :
    Calls Try.prog 70 #[.int .i64 a] w fun e w' => e = .returned (.tuple #[.int .i64 0, .int .i64 1]) ∧ w' = w := by
  have := neg_any a ha w
  rw [fitV_out h, fitF_out h] at this
  exact this

end Go.Proofs.Ytjlnbhmiahegmaa
