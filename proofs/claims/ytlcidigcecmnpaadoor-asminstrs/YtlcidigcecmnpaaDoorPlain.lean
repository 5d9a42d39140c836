/-
  PLAIN ARITHMETIC of layer 1: no Go in sight. What fits 64 bits, and the sign tests by bits.
-/
import Derived.WalkKit
import Derived.Laws.BitsAllLaws
namespace Go.Proofs.YtlcidigcecmnpaaDoor
open Go.RowKit

/-- A fact, kept out of the walk's sight. -/
theorem veil {p : Prop} (h : p) : Hid p := h
theorem unveil {p : Prop} (h : Hid p) : p := h

/-- A number of 64 bits. -/
def inR (n : Int) : Prop := -9223372036854775808 ≤ n ∧ n ≤ 9223372036854775807
/-- The number that a checked call tells, and its fault. -/
def fitV (n : Int) : Int := if -9223372036854775808 ≤ n ∧ n ≤ 9223372036854775807 then n else 0
def fitF (n : Int) : Int := if -9223372036854775808 ≤ n ∧ n ≤ 9223372036854775807 then 0 else 1

theorem fitV_in {n : Int} (h : inR n) : fitV n = n := by unfold inR at h; unfold fitV; rw [if_pos h]
theorem fitF_in {n : Int} (h : inR n) : fitF n = 0 := by unfold inR at h; unfold fitF; rw [if_pos h]
theorem fitV_out {n : Int} (h : ¬ inR n) : fitV n = 0 := by unfold inR at h; unfold fitV; rw [if_neg h]
theorem fitF_out {n : Int} (h : ¬ inR n) : fitF n = 1 := by unfold inR at h; unfold fitF; rw [if_neg h]
theorem fitV_bd (n : Int) : inR (fitV n) := by unfold fitV inR; split <;> omega
theorem fitF_bd (n : Int) : 0 ≤ fitF n ∧ fitF n ≤ 1 := by unfold fitF; split <;> omega
theorem wf_inR {n : Int} (h : (Lit.int .i64 n).wf = true) : inR n := by
  simp [Lit.wf, IntKind.min, IntKind.max, IntKind.bits, IntKind.signed] at h
  unfold inR; omega

/-! ### the sign, by bits -/
theorem msb_ofInt (n : Int) (h : inR n) : (BitVec.ofInt 64 n).msb = decide (n < 0) := by
  unfold inR at h
  rw [BitVec.msb_eq_decide, BitVec.toNat_ofInt]
  by_cases hn : n < 0
  · rw [decide_eq_true hn, decide_eq_true]; omega
  · rw [decide_eq_false hn, decide_eq_false]; omega
theorem wrap_neg (x : BitVec 64) : (IntKind.i64.wrap (x.toNat : Int) < 0) ↔ x.msb = true := by
  have hx := x.isLt
  rw [IntKind.wrap_i64, BitVec.msb_eq_decide]
  simp only [decide_eq_true_eq]
  omega
theorem wrap_inR (n : Int) : inR (IntKind.i64.wrap n) := by
  rw [IntKind.wrap_i64]; unfold inR; omega
theorem wrap64_inR (n : Int) : inR (wrap64 n) := by unfold wrap64 inR; omega
theorem wrap64_id {n : Int} (h : inR n) : wrap64 n = n := by unfold wrap64; unfold inR at h; omega
theorem xor_inR (a b : Int) : inR (bits .xor .i64 a b) := wrap_inR _
theorem and_inR (a b : Int) : inR (bits .and .i64 a b) := wrap_inR _
theorem xor_neg (a b : Int) (ha : inR a) (hb : inR b) : (bits .xor .i64 a b < 0) ↔ (a < 0 ∧ 0 ≤ b ∨ 0 ≤ a ∧ b < 0) := by
  refine (wrap_neg (BitVec.ofInt 64 a ^^^ BitVec.ofInt 64 b)).trans ?_
  rw [BitVec.msb_xor, msb_ofInt a ha, msb_ofInt b hb]
  by_cases h1 : a < 0 <;> by_cases h2 : b < 0 <;> simp [h1, h2] <;> omega
theorem and_neg (a b : Int) (ha : inR a) (hb : inR b) : (bits .and .i64 a b < 0) ↔ (a < 0 ∧ b < 0) := by
  refine (wrap_neg (BitVec.ofInt 64 a &&& BitVec.ofInt 64 b)).trans ?_
  rw [BitVec.msb_and, msb_ofInt a ha, msb_ofInt b hb]
  by_cases h1 : a < 0 <;> by_cases h2 : b < 0 <;> simp [h1, h2]

/-- Add's test. -/
theorem add_test (a b : Int) (ha : inR a) (hb : inR b) :
    (bits .and .i64 (bits .xor .i64 a (wrap64 (a + b))) (bits .xor .i64 b (wrap64 (a + b))) < 0) ↔ ¬ inR (a + b) := by
  rw [and_neg _ _ (xor_inR _ _) (xor_inR _ _), xor_neg a _ ha (wrap64_inR _), xor_neg b _ hb (wrap64_inR _)]
  unfold inR at *; unfold wrap64; omega
/-- Sub's test. -/
theorem sub_test (a b : Int) (ha : inR a) (hb : inR b) :
    (bits .and .i64 (bits .xor .i64 a b) (bits .xor .i64 a (wrap64 (a - b))) < 0) ↔ ¬ inR (a - b) := by
  rw [and_neg _ _ (xor_inR _ _) (xor_inR _ _), xor_neg a _ ha hb, xor_neg a _ ha (wrap64_inR _)]
  unfold inR at *; unfold wrap64; omega

end Go.Proofs.YtlcidigcecmnpaaDoor
