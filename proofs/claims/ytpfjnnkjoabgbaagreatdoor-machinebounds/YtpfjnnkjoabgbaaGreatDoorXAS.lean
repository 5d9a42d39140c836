import Derived.Test.YtpfjnnkjoabgbaaGreatDoorXAN
import Derived.WalkKit
import Derived.Laws.BitsAllLaws
import Derived.Test.YtpfjnnkjoabgbaaGreatDoorRows
import Derived.WalkSpells
import Derived.Lib.Mul64
namespace Go.Proofs.YtpfjnnkjoabgbaaGreatDoor
set_option linter.unusedVariables false
set_option linter.unusedSimpArgs false
/-- What is known (t) holds of a state (s): the same stack, and the slots that it names are kept so. -/
def Cov (s t : Vs) : Prop := t.st = s.st ∧ ∀ y, t.sl y ≠ 0 → s.sl y = t.sl y
theorem Cov.refl (s : Vs) : Cov s s := ⟨rfl, fun _ _ => rfl⟩
theorem Cov.trans {s t u : Vs} (h : Cov s t) (g : Cov t u) : Cov s u := ⟨g.1.trans h.1, fun y hy => by
  have e := g.2 y hy
  rw [← e]
  exact h.2 y (by rw [e]; exact hy)⟩
theorem meet_cov {s t : Vs} (h : t.st = s.st) : Cov s ⟨t.st, vMeet t.sl s.sl⟩ ∧ Cov t ⟨t.st, vMeet t.sl s.sl⟩ := by
  refine ⟨⟨h, fun y hy => ?_⟩, ⟨rfl, fun y hy => ?_⟩⟩
  · simp only [vMeet] at hy ⊢
    by_cases e : t.sl y = s.sl y
    · rw [if_pos e, e]
    · rw [if_neg e] at hy; exact absurd rfl hy
  · simp only [vMeet] at hy ⊢
    by_cases e : t.sl y = s.sl y
    · rw [if_pos e]
    · rw [if_neg e] at hy; exact absurd rfl hy
theorem vHand_cov {t : Option Vs} {s : Vs} (h : (vHand t s).1 = 0) : ∃ u, (vHand t s).2 = some u ∧ Cov s u ∧ ∀ t0, t = some t0 → Cov t0 u := by
  unfold vHand at h ⊢
  cases t with
  | none => exact ⟨s, rfl, Cov.refl s, fun t0 e => by cases e⟩
  | some t =>
    simp only at h ⊢
    split at h
    · simp at h
    split at h
    · simp at h
    rename_i n1 n2
    rw [if_neg n1, if_neg n2]
    have e : t.st = s.st := by simpa using n2
    obtain ⟨c1, c2⟩ := meet_cov e
    exact ⟨_, rfl, c1, fun t0 q => by cases q; exact c2⟩
/-- Each state is still known, or less of it. -/
def Gro (l m : Nat → Option Vs) : Prop := ∀ j t, l j = some t → ∃ u, m j = some u ∧ Cov t u
theorem Gro.refl (l : Nat → Option Vs) : Gro l l := fun j t h => ⟨t, h, Cov.refl t⟩
theorem Gro.trans {l m n : Nat → Option Vs} (h : Gro l m) (g : Gro m n) : Gro l n := fun j t e => by
  obtain ⟨u, e1, c1⟩ := h j t e
  obtain ⟨v, e2, c2⟩ := g j u e1
  exact ⟨v, e2, c1.trans c2⟩
theorem vSet_gro {l : Nat → Option Vs} {k : Nat} {s : Vs} (h : (vHand (l k) s).1 = 0) : Gro l (vSet l k (vHand (l k) s).2) := by
  intro j t e
  obtain ⟨u, e1, c1, c2⟩ := vHand_cov h
  unfold vSet
  by_cases q : j = k
  · subst q
    rw [if_pos rfl]
    exact ⟨u, e1, c2 t e⟩
  · rw [if_neg q]
    exact ⟨t, e, Cov.refl t⟩
theorem vSet_self {l : Nat → Option Vs} {k : Nat} : vSet l k (l k) = l := by
  funext j
  unfold vSet
  split
  · rename_i e; rw [e]
  · rfl
theorem vNx_gro {i : In} {l : Nat → Option Vs} {k : Nat} {s : Vs} (h : (vNx i (l k) s).1 = 0) : Gro l (vSet l k (vNx i (l k) s).2) ∧ (¬ (i.o = 26 ∨ i.o = 0) → ∃ u, (vNx i (l k) s).2 = some u ∧ Cov s u) := by
  unfold vNx at h ⊢
  by_cases e : i.o = 26 ∨ i.o = 0
  · rw [if_pos e]
    simp only
    rw [vSet_self]
    exact ⟨Gro.refl l, fun q => absurd e q⟩
  · rw [if_neg e] at h ⊢
    obtain ⟨u, e1, c1, c2⟩ := vHand_cov h
    exact ⟨vSet_gro h, fun _ => ⟨u, e1, c1⟩⟩
theorem vOn_gro {n k : Nat} {i : In} {s : Vs} {l : Nat → Option Vs} (h : (vOn n i k s l).1 = 0) : Gro l (vOn n i k s l).2 ∧ (¬ (i.o = 26 ∨ i.o = 0) → ∃ u, (vOn n i k s l).2 (k + 1) = some u ∧ Cov s u) ∧ (isJ i → k + 1 + i.a.toNat < n ∧ ∃ u, (vOn n i k s l).2 (k + 1 + i.a.toNat) = some u ∧ Cov s u) := by
  unfold vOn at h ⊢
  by_cases a : isJ i ∧ n ≤ k + 1 + i.a.toNat
  · rw [if_pos a] at h
    simp at h
  rw [if_neg a] at h ⊢
  by_cases b : (vNx i (l (k + 1)) s).1 ≠ 0
  · rw [if_pos b] at h
    exact absurd h b
  rw [if_neg b] at h ⊢
  have b0 : (vNx i (l (k + 1)) s).1 = 0 := by simpa using b
  obtain ⟨g1, g2⟩ := vNx_gro b0
  generalize vNx i (l (k + 1)) s = x at *
  have at1 : (vSet l (k + 1) x.2) (k + 1) = x.2 := by simp [vSet]
  by_cases c : isJ i
  · rw [if_pos c] at h ⊢
    simp only at h ⊢
    generalize hm : vSet l (k + 1) x.2 = m at *
    obtain ⟨u, e1, c1, c2⟩ := vHand_cov h
    refine ⟨g1.trans (vSet_gro h), fun q => ?_, fun _ => ⟨by simp only [not_and] at a; have := a c; omega, u, ?_, c1⟩⟩
    · obtain ⟨v, e2, c3⟩ := g2 q
      obtain ⟨z, e3, c4⟩ := vSet_gro h (k + 1) v (by rw [at1, e2])
      exact ⟨z, e3, c3.trans c4⟩
    · simp only [vSet, if_true]
      exact e1
  · rw [if_neg c]
    simp only
    refine ⟨g1, fun q => ?_, fun q => absurd q c⟩
    obtain ⟨v, e2, c3⟩ := g2 q
    exact ⟨v, by rw [at1, e2], c3⟩
theorem vPass_gro {day : Int} {n k : Nat} {i : In} {l : Nat → Option Vs} (h : (vPass day n i k l).1 = 0) : Gro l (vPass day n i k l).2 ∧ ∃ s, l k = some s ∧ (vDo day s i).1 = 0 ∧ (¬ (i.o = 26 ∨ i.o = 0) → ∃ u, (vPass day n i k l).2 (k + 1) = some u ∧ Cov (vDo day s i).2 u) ∧ (isJ i → k + 1 + i.a.toNat < n ∧ ∃ u, (vPass day n i k l).2 (k + 1 + i.a.toNat) = some u ∧ Cov (vDo day s i).2 u) := by
  unfold vPass at h ⊢
  cases hk : l k with
  | none => rw [hk] at h; simp at h
  | some s =>
    rw [hk] at h
    simp only at h ⊢
    by_cases e : (vDo day s i).1 ≠ 0
    · rw [if_pos e] at h
      exact absurd h e
    · rw [if_neg e] at h ⊢
      obtain ⟨g, a, b⟩ := vOn_gro h
      exact ⟨g, s, rfl, by simpa using e, a, b⟩
theorem vRun_gro {day : Int} {code : List In} {k : Nat} : ∀ m, k ≤ m → (vRun day code m).1 = 0 → Gro (vRun day code k).2.2 (vRun day code m).2.2
  | 0, hm, _ => by rw [show k = 0 by omega]; exact Gro.refl _
  | m + 1, hm, h => by
    by_cases e : k = m + 1
    · rw [e]; exact Gro.refl _
    · have h0 := vRun_before h (Nat.le_succ m)
      have ih := vRun_gro m (by omega) h0 (day := day) (code := code) (k := k)
      have e1 := vRun_succ h0
      rw [e1] at h ⊢
      exact ih.trans (vPass_gro h).1
/-- The states that are known of code that is taken. -/
def vL (day : Int) (code : List In) : Nat → Option Vs := (vRun day code code.length).2.2
theorem vL_start {day : Int} {code : List In} (h : (vRun day code code.length).1 = 0) : ∃ t, vL day code 0 = some t ∧ Cov ⟨[], fun _ => 0⟩ t := by
  obtain ⟨u, e, c⟩ := vRun_gro (day := day) (code := code) (k := 0) code.length (by omega) h 0 ⟨[], fun _ => 0⟩ (by simp [vRun, vStart])
  exact ⟨u, e, c⟩
/-- An instruction of code that is taken, in a state that is known. -/
theorem vL_step {day : Int} {code : List In} (h : (vRun day code code.length).1 = 0) {k : Nat} (hk : k < code.length) :
    ∃ s, vL day code k = some s ∧ (vDo day s (code.getD k default)).1 = 0 ∧ (¬ ((code.getD k default).o = 26 ∨ (code.getD k default).o = 0) → ∃ u, vL day code (k + 1) = some u ∧ Cov (vDo day s (code.getD k default)).2 u) ∧
      (isJ (code.getD k default) → k + 1 + (code.getD k default).a.toNat < code.length ∧ ∃ u, vL day code (k + 1 + (code.getD k default).a.toNat) = some u ∧ Cov (vDo day s (code.getD k default)).2 u) := by
  have h1 := vRun_before h (show k + 1 ≤ code.length by omega)
  have h0 := vRun_before h (show k ≤ code.length by omega)
  have e1 := vRun_succ h0
  have g := vRun_gro (day := day) (code := code) (k := k + 1) code.length (by omega) h
  have o := vRun_old (day := day) (code := code) (k := k + 1) (j := k) (by omega) code.length (by omega)
  rw [e1] at h1 g o
  simp only at h1 g o
  obtain ⟨_, s, s1, s2, s3, s4⟩ := vPass_gro h1
  rw [vPass_old (Nat.le_refl k)] at o
  refine ⟨s, by unfold vL; rw [o]; exact s1, s2, fun q => ?_, fun q => ?_⟩
  · obtain ⟨u, u1, u2⟩ := s3 q
    obtain ⟨v, v1, v2⟩ := g _ _ u1
    exact ⟨v, v1, u2.trans v2⟩
  · obtain ⟨z, u, u1, u2⟩ := s4 q
    obtain ⟨v, v1, v2⟩ := g _ _ u1
    exact ⟨z, v, v1, u2.trans v2⟩
end Go.Proofs.YtpfjnnkjoabgbaaGreatDoor

namespace Go.Proofs.YtpfjnnkjoabgbaaGreatDoor
open Go.RowKit

/-- A fact, kept out of the walk's sight. -/
theorem veil {p : Prop} (h : p) : Hid p := h
theorem unveil {p : Prop} (h : Hid p) : p := h

/-- A number of 64 bits. -/
def inR (n : Int) : Prop := -9223372036854775808 ≤ n ∧ n ≤ 9223372036854775807
/-- The number that a checked call tells, and its fault. -/
def fitV (n : Int) : Int := if -9223372036854775808 ≤ n ∧ n ≤ 9223372036854775807 then n else 0
def fitF (n : Int) : Int := if -9223372036854775808 ≤ n ∧ n ≤ 9223372036854775807 then 0 else 1

theorem fitV_in {n : Int} (h : inR n) : fitV n = n := by unfold inR at h; unfold fitV; rw [if_pos h]
theorem fitF_in {n : Int} (h : inR n) : fitF n = 0 := by unfold inR at h; unfold fitF; rw [if_pos h]
theorem fitV_out {n : Int} (h : ¬ inR n) : fitV n = 0 := by unfold inR at h; unfold fitV; rw [if_neg h]
theorem fitF_out {n : Int} (h : ¬ inR n) : fitF n = 1 := by unfold inR at h; unfold fitF; rw [if_neg h]
theorem fitV_bd (n : Int) : inR (fitV n) := by unfold fitV inR; split <;> omega
theorem wf_inR {n : Int} (h : (Lit.int .i64 n).wf = true) : inR n := by
  simp [Lit.wf, IntKind.min, IntKind.max, IntKind.bits, IntKind.signed] at h
  unfold inR; omega

/-! ### the sign, by bits -/
theorem msb_ofInt (n : Int) (h : inR n) : (BitVec.ofInt 64 n).msb = decide (n < 0) := by
  unfold inR at h
  rw [BitVec.msb_eq_decide, BitVec.toNat_ofInt]
  by_cases hn : n < 0
  · rw [decide_eq_true hn, decide_eq_true]; omega
  · rw [decide_eq_false hn, decide_eq_false]; omega
theorem wrap_neg (x : BitVec 64) : (IntKind.i64.wrap (x.toNat : Int) < 0) ↔ x.msb = true := by
  have hx := x.isLt
  rw [IntKind.wrap_i64, BitVec.msb_eq_decide]
  simp only [decide_eq_true_eq]
  omega
theorem wrap_inR (n : Int) : inR (IntKind.i64.wrap n) := by
  rw [IntKind.wrap_i64]; unfold inR; omega
theorem wrap64_inR (n : Int) : inR (wrap64 n) := by unfold wrap64 inR; omega
theorem wrap64_id {n : Int} (h : inR n) : wrap64 n = n := by unfold wrap64; unfold inR at h; omega
theorem xor_inR (a b : Int) : inR (bits .xor .i64 a b) := wrap_inR _
theorem xor_neg (a b : Int) (ha : inR a) (hb : inR b) : (bits .xor .i64 a b < 0) ↔ (a < 0 ∧ 0 ≤ b ∨ 0 ≤ a ∧ b < 0) := by
  refine (wrap_neg (BitVec.ofInt 64 a ^^^ BitVec.ofInt 64 b)).trans ?_
  rw [BitVec.msb_xor, msb_ofInt a ha, msb_ofInt b hb]
  by_cases h1 : a < 0 <;> by_cases h2 : b < 0 <;> simp [h1, h2] <;> omega
theorem and_neg (a b : Int) (ha : inR a) (hb : inR b) : (bits .and .i64 a b < 0) ↔ (a < 0 ∧ b < 0) := by
  refine (wrap_neg (BitVec.ofInt 64 a &&& BitVec.ofInt 64 b)).trans ?_
  rw [BitVec.msb_and, msb_ofInt a ha, msb_ofInt b hb]
  by_cases h1 : a < 0 <;> by_cases h2 : b < 0 <;> simp [h1, h2]

/-- Add's test. -/
theorem add_test (a b : Int) (ha : inR a) (hb : inR b) :
    (bits .and .i64 (bits .xor .i64 a (wrap64 (a + b))) (bits .xor .i64 b (wrap64 (a + b))) < 0) ↔ ¬ inR (a + b) := by
  rw [and_neg _ _ (xor_inR _ _) (xor_inR _ _), xor_neg a _ ha (wrap64_inR _), xor_neg b _ hb (wrap64_inR _)]
  unfold inR at *; unfold wrap64; omega
/-- Sub's test. -/
theorem sub_test (a b : Int) (ha : inR a) (hb : inR b) :
    (bits .and .i64 (bits .xor .i64 a b) (bits .xor .i64 a (wrap64 (a - b))) < 0) ↔ ¬ inR (a - b) := by
  rw [and_neg _ _ (xor_inR _ _) (xor_inR _ _), xor_neg a _ ha hb, xor_neg a _ ha (wrap64_inR _)]
  unfold inR at *; unfold wrap64; omega

end Go.Proofs.YtpfjnnkjoabgbaaGreatDoor

namespace Go.Proofs.YtpfjnnkjoabgbaaGreatDoor
open Go.RowKit

/-- A number without its sign. -/
def absI (a : Int) : Int := if a < 0 then -a else a
theorem absI_neg {a : Int} (h : a < 0) : absI a = -a := by unfold absI; rw [if_pos h]
theorem absI_pos {a : Int} (h : ¬ a < 0) : absI a = a := by unfold absI; rw [if_neg h]
theorem absI_bd (a : Int) (h : inR a) : 0 ≤ absI a ∧ absI a ≤ 9223372036854775808 := by
  unfold inR at h; unfold absI; split <;> omega
/-- The number of that size and sign. -/
def sgn (neg : Bool) (n : Int) : Int := if neg then -n else n
/-- Do the signs of two differ? -/
def dif (a b : Int) : Bool := decide (a < 0) != decide (b < 0)

theorem sgn_mul (a b : Int) : sgn (dif a b) (absI a * absI b) = a * b := by
  unfold sgn dif absI
  by_cases h1 : a < 0 <;> by_cases h2 : b < 0 <;> simp [h1, h2, Int.neg_mul, Int.mul_neg]
/-- A product whose upper half is not 0 fits nowhere. -/
theorem mul_high (a b : Int) (h : 18446744073709551616 ≤ absI a * absI b) : ¬ inR (a * b) := by
  rw [← sgn_mul a b]; unfold sgn inR; split <;> omega
theorem sgn_in {neg : Bool} {n : Int} (h0 : 0 ≤ n) : inR (sgn neg n) ↔ (if neg then n ≤ 9223372036854775808 else n < 9223372036854775808) := by
  cases neg <;> simp [sgn, inR] <;> omega

end Go.Proofs.YtpfjnnkjoabgbaaGreatDoor

namespace Go.Proofs.YtpfjnnkjoabgbaaGreatDoor
open Go.RowKit

theorem add_any (a b : Int) (ha : inR a) (hb : inR b) (w : World) :
    Calls Tryz.prog 112 #[.int .i64 a, .int .i64 b] w fun e w' => e = .returned (.tuple #[.int .i64 (fitV (a + b)), .int .i64 (fitF (a + b))]) ∧ w' = w := by
  have ht := add_test a b ha hb
  by_cases h : inR (a + b)
  · rw [fitV_in h, fitF_in h]
    rw [wrap64_id h] at ht
    have h1 : ¬ (bits .and .i64 (bits .xor .i64 a (a + b)) (bits .xor .i64 b (a + b)) < 0) := fun c => ht.1 c h
    clear ht
    unfold inR at h
    obtain ⟨h2, h3⟩ := h
    go_enter Tryz.func112, Tryz.ntmps112
    go_wp2
    go_ret2
    exact ⟨rfl, rfl⟩
  · rw [fitV_out h, fitF_out h]
    have h1 := ht.2 h
    clear ht h
    go_enter Tryz.func112, Tryz.ntmps112
    go_wp2
    go_ret2
    exact ⟨rfl, rfl⟩

theorem sub_any (a b : Int) (ha : inR a) (hb : inR b) (w : World) :
    Calls Tryz.prog 114 #[.int .i64 a, .int .i64 b] w fun e w' => e = .returned (.tuple #[.int .i64 (fitV (a - b)), .int .i64 (fitF (a - b))]) ∧ w' = w := by
  have ht := sub_test a b ha hb
  by_cases h : inR (a - b)
  · rw [fitV_in h, fitF_in h]
    rw [wrap64_id h] at ht
    have h1 : ¬ (bits .and .i64 (bits .xor .i64 a b) (bits .xor .i64 a (a - b)) < 0) := fun c => ht.1 c h
    clear ht
    unfold inR at h
    obtain ⟨h2, h3⟩ := h
    go_enter Tryz.func114, Tryz.ntmps114
    go_wp2
    go_ret2
    exact ⟨rfl, rfl⟩
  · rw [fitV_out h, fitF_out h]
    have h1 := ht.2 h
    clear ht h
    go_enter Tryz.func114, Tryz.ntmps114
    go_wp2
    go_ret2
    exact ⟨rfl, rfl⟩

theorem neg_any (a : Int) (ha : inR a) (w : World) :
    Calls Tryz.prog 116 #[.int .i64 a] w fun e w' => e = .returned (.tuple #[.int .i64 (fitV (-a)), .int .i64 (fitF (-a))]) ∧ w' = w := by
  have hs := sub_any 0 a (by unfold inR; omega) ha w
  rw [Int.zero_sub] at hs
  go_enter Tryz.func116, Tryz.ntmps116
  go_wp2_with (go_at_call 114; refine hs.mono ?_; rintro e w' ⟨rfl, rfl⟩)
  go_ret2
  exact ⟨rfl, rfl⟩

end Go.Proofs.YtpfjnnkjoabgbaaGreatDoor

namespace Go.Proofs.YtpfjnnkjoabgbaaGreatDoor
open Go.RowKit

theorem ret_i {k : IntKind} {a b : Int} (h : a = b) : Ending.returned (.int k a) = .returned (.int k b) := by rw [h]
theorem ret_ii {k l : IntKind} {a b c d : Int} (h : a = b) (g : c = d) : Ending.returned (.tuple #[.int k a, .int l c]) = .returned (.tuple #[.int k b, .int l d]) := by rw [h, g]
theorem neg_u64 (a : Int) (h : a < 0) (h1 : -9223372036854775808 ≤ a) : IntKind.u64.wrap (-IntKind.u64.wrap a) = -a := by
  rw [IntKind.wrap_u64, IntKind.wrap_u64]; omega
theorem neg_i64 (n : Int) (h0 : 0 ≤ n) (h : n ≤ 9223372036854775808) : wrap64 (IntKind.u64.wrap (-n)) = -n := by
  rw [IntKind.wrap_u64]; unfold wrap64; omega

theorem sizeOf_any (a : Int) (ha : inR a) (w : World) :
    Calls Tryz.prog 138 #[.int .i64 a] w fun e w' => e = .returned (.int .u64 (absI a)) ∧ w' = w := by
  unfold inR at ha
  obtain ⟨h1, h2⟩ := ha
  by_cases h : a < 0
  · rw [absI_neg h]
    go_enter Tryz.func138, Tryz.ntmps138
    go_wp2
    go_ret
    exact ⟨ret_i (neg_u64 a h h1), rfl⟩
  · rw [absI_pos h]
    go_enter Tryz.func138, Tryz.ntmps138
    go_wp2
    go_ret
    exact ⟨rfl, rfl⟩

theorem signed_any (n : Int) (neg : Bool) (h0 : 0 ≤ n) (h1 : n < 18446744073709551616) (w : World) :
    Calls Tryz.prog 139 #[.int .u64 n, .bool neg] w fun e w' => e = .returned (.tuple #[.int .i64 (fitV (sgn neg n)), .int .i64 (fitF (sgn neg n))]) ∧ w' = w := by
  have hs := sgn_in (neg := neg) h0
  cases neg
  · by_cases h : n < 9223372036854775808
    · have hi : inR (sgn false n) := hs.2 (by simpa using h)
      rw [fitV_in hi, fitF_in hi]
      show Calls Tryz.prog 139 #[.int .u64 n, .bool false] w fun e w' => e = .returned (.tuple #[.int .i64 n, .int .i64 0]) ∧ w' = w
      clear hs hi
      go_enter Tryz.func139, Tryz.ntmps139
      go_wp2
      go_ret2
      exact ⟨rfl, rfl⟩
    · have hi : ¬ inR (sgn false n) := fun c => h (by simpa using hs.1 c)
      rw [fitV_out hi, fitF_out hi]
      clear hs hi
      go_enter Tryz.func139, Tryz.ntmps139
      go_wp2
      go_ret2
      exact ⟨rfl, rfl⟩
  · by_cases h : n ≤ 9223372036854775808
    · have hi : inR (sgn true n) := hs.2 (by simpa using h)
      rw [fitV_in hi, fitF_in hi]
      show Calls Tryz.prog 139 #[.int .u64 n, .bool true] w fun e w' => e = .returned (.tuple #[.int .i64 (-n), .int .i64 0]) ∧ w' = w
      clear hs hi
      go_enter Tryz.func139, Tryz.ntmps139
      go_wp2
      go_ret2
      exact ⟨ret_ii (neg_i64 n h0 h) rfl, rfl⟩
    · have hi : ¬ inR (sgn true n) := fun c => h (by simpa using hs.1 c)
      rw [fitV_out hi, fitF_out hi]
      clear hs hi
      go_enter Tryz.func139, Tryz.ntmps139
      go_wp2
      go_ret2
      exact ⟨rfl, rfl⟩

/-- The two halves of a product. -/
def mulHi (x y : Int) : Int := x * y / 18446744073709551616
def mulLo (x y : Int) : Int := x * y % 18446744073709551616

theorem mask32 (a : Nat) (ha : a < 18446744073709551616) : bits .and .u64 (a : Int) 4294967295 = ((a % 4294967296 : Nat) : Int) := by
  have h := u64_and_nat a 4294967295 ha (by omega)
  rw [show a &&& 4294967295 = a % 4294967296 from Nat.and_two_pow_sub_one_eq_mod a 32] at h
  exact h
theorem keep64 (a : Nat) (ha : a < 18446744073709551616) : IntKind.u64.wrap (a : Int) = (a : Int) := by rw [IntKind.wrap_u64]; omega
theorem cut64 (a : Nat) : IntKind.u64.wrap (a : Int) = ((a % 18446744073709551616 : Nat) : Int) := by rw [IntKind.wrap_u64]; omega
theorem half (a : Nat) : (a : Int) / 4294967296 = ((a / 4294967296 : Nat) : Int) := by omega

set_option maxHeartbeats 1000000 in
theorem mul64_nat (x y : Nat) (hx : x < 18446744073709551616) (hy : y < 18446744073709551616) (w : World) :
    Calls Tryz.prog 137 #[.int .u64 x, .int .u64 y] w fun e w' => e = .returned (.tuple #[.int .u64 ((x * y / 18446744073709551616 : Nat) : Int), .int .u64 ((x * y % 18446744073709551616 : Nat) : Int)]) ∧ w' = w := by
  obtain ⟨k1, k2, k3, hhi⟩ := Lib.mul64_hi x y hx hy
  have m1 := Lib.half_mul_le (a := x / 4294967296) (b := y / 4294967296) (by omega) (by omega)
  have m2 := Lib.half_mul_le (a := x / 4294967296) (b := y % 4294967296) (by omega) (by omega)
  have m3 := Lib.half_mul_le (a := x % 4294967296) (b := y / 4294967296) (by omega) (by omega)
  have n1 := Nat.lt_of_le_of_lt m1 (show 18446744065119617025 < 18446744073709551616 by decide)
  have n2 := Nat.lt_of_le_of_lt m2 (show 18446744065119617025 < 18446744073709551616 by decide)
  have n3 := Nat.lt_of_le_of_lt m3 (show 18446744065119617025 < 18446744073709551616 by decide)
  have n4 : x / 4294967296 * (y / 4294967296) + (x / 4294967296 * (y % 4294967296) + x % 4294967296 * (y % 4294967296) / 4294967296) / 4294967296 < 18446744073709551616 := by omega
  have n5 : x / 4294967296 * (y / 4294967296) + (x / 4294967296 * (y % 4294967296) + x % 4294967296 * (y % 4294967296) / 4294967296) / 4294967296 + ((x / 4294967296 * (y % 4294967296) + x % 4294967296 * (y % 4294967296) / 4294967296) % 4294967296 + x % 4294967296 * (y / 4294967296)) / 4294967296 < 18446744073709551616 := by omega
  go_enter Tryz.func137, Tryz.ntmps137
  go_wp2
  simp only [mask32 x hx, mask32 y hy, half, ← Int.natCast_mul, ← Int.natCast_add, keep64 _ k1, keep64 _ n2, keep64 _ k2, mask32 _ k2, keep64 _ n3, keep64 _ k3, keep64 _ n1, keep64 _ n4, keep64 _ n5, cut64 (x * y)]
  rw [hhi]
  go_ret2
  exact ⟨rfl, rfl⟩

theorem mul64_any (x y : Int) (hx : 0 ≤ x) (hx' : x < 18446744073709551616) (hy : 0 ≤ y) (hy' : y < 18446744073709551616) (w : World) :
    Calls Tryz.prog 137 #[.int .u64 x, .int .u64 y] w fun e w' => e = .returned (.tuple #[.int .u64 (mulHi x y), .int .u64 (mulLo x y)]) ∧ w' = w := by
  obtain ⟨x, rfl⟩ := Int.eq_ofNat_of_zero_le hx
  obtain ⟨y, rfl⟩ := Int.eq_ofNat_of_zero_le hy
  refine (mul64_nat x y (by omega) (by omega) w).mono ?_
  rintro e w' ⟨rfl, rfl⟩
  exact ⟨ret_ii (by unfold mulHi; simp) (by unfold mulLo; simp), rfl⟩

/-! ### num.Mul -/
theorem mulHi_zero (x y : Int) (hx : 0 ≤ x) (hy : 0 ≤ y) : mulHi x y = 0 ↔ x * y < 18446744073709551616 := by
  have := Int.mul_nonneg hx hy
  unfold mulHi; omega
theorem mulLo_of {x y : Int} (h0 : 0 ≤ x * y) (h : x * y < 18446744073709551616) : mulLo x y = x * y := by unfold mulLo; omega

theorem mul_any (a b : Int) (ha : inR a) (hb : inR b) (w : World) :
    Calls Tryz.prog 115 #[.int .i64 a, .int .i64 b] w fun e w' => e = .returned (.tuple #[.int .i64 (fitV (a * b)), .int .i64 (fitF (a * b))]) ∧ w' = w := by
  have ba := absI_bd a ha
  have bb := absI_bd b hb
  have hz := mulHi_zero (absI a) (absI b) ba.1 bb.1
  have hnn := Int.mul_nonneg ba.1 bb.1
  by_cases h : absI a * absI b < 18446744073709551616
  · have h0 : (mulHi (absI a) (absI b) != 0) = false := by simp [hz.2 h]
    have hlo := mulLo_of hnn h
    have hs := fun w => signed_any (mulLo (absI a) (absI b)) (dif a b) (by omega) (by omega) w
    have hfin : fitV (sgn (dif a b) (mulLo (absI a) (absI b))) = fitV (a * b) ∧ fitF (sgn (dif a b) (mulLo (absI a) (absI b))) = fitF (a * b) := by rw [hlo, sgn_mul]; exact ⟨rfl, rfl⟩
    have H := veil hfin
    have S := veil hs
    clear hfin hlo hz h hnn hs
    go_enter Tryz.func115, Tryz.ntmps115
    go_wp2_with fail
    refine (sizeOf_any a ha _).mono ?_
    rintro e w' ⟨rfl, rfl⟩
    go_wp2_with fail
    refine (sizeOf_any b hb _).mono ?_
    rintro e w' ⟨rfl, rfl⟩
    go_wp2_with fail
    refine (mul64_any _ _ ba.1 (by omega) bb.1 (by omega) _).mono ?_
    rintro e w' ⟨rfl, rfl⟩
    go_wp2_with fail
    refine (unveil S _).mono ?_
    rintro e w' ⟨rfl, rfl⟩
    go_wp2_with fail
    go_ret2
    exact ⟨ret_ii (unveil H).1 (unveil H).2, rfl⟩
  · have h0 : (mulHi (absI a) (absI b) != 0) = true := by simp [hz, h]
    have hn := mul_high a b (by omega)
    rw [fitV_out hn, fitF_out hn]
    clear hz hn hnn h
    go_enter Tryz.func115, Tryz.ntmps115
    go_wp2_with fail
    refine (sizeOf_any a ha _).mono ?_
    rintro e w' ⟨rfl, rfl⟩
    go_wp2_with fail
    refine (sizeOf_any b hb _).mono ?_
    rintro e w' ⟨rfl, rfl⟩
    go_wp2_with fail
    refine (mul64_any _ _ ba.1 (by omega) bb.1 (by omega) _).mono ?_
    rintro e w' ⟨rfl, rfl⟩
    go_wp2_with fail
    go_ret2
    exact ⟨rfl, rfl⟩

end Go.Proofs.YtpfjnnkjoabgbaaGreatDoor

namespace Go.Proofs.YtpfjnnkjoabgbaaGreatDoor
open Go.RowKit

/-- What holds of the divisor's halves, of the rest so far and of the next half. -/
structure Kn (y y1 y0 u d : Int) : Prop where
  hy : y = y1 * 4294967296 + y0
  a1 : 2147483648 ≤ y1
  a2 : y1 < 4294967296
  b1 : 0 ≤ y0
  b2 : y0 < 4294967296
  u1 : 0 ≤ u
  u2 : u < y
  d1 : 0 ≤ d
  d2 : d < 4294967296

theorem kn_mul {y y1 y0 u d : Int} (K : Kn y y1 y0 u d) (q : Int) : q * y = q * y1 * 4294967296 + q * y0 := by
  rw [K.hy, Int.mul_add, Int.mul_assoc]
/-- The true digit. -/
theorem kn_small {y y1 y0 u d Q : Int} (K : Kn y y1 y0 u d) (hQ : Q * y ≤ u * 4294967296 + d) : Q < 4294967296 := by
  obtain ⟨hy, a1, a2, b1, b2, u1, u2, d1, d2⟩ := K
  refine Int.lt_of_not_ge fun h => ?_
  have h1 : 4294967296 * y ≤ Q * y := Int.mul_le_mul_of_nonneg_right h (by omega)
  omega
theorem kn_lt {y y1 y0 u d Q q r : Int} (K : Kn y y1 y0 u d) (hQ : Q * y ≤ u * 4294967296 + d) (hqr : q * y1 + r = u) (h : 4294967296 * r + d < q * y0) : Q + 1 ≤ q := by
  have hm := kn_mul K q
  obtain ⟨hy, a1, a2, b1, b2, u1, u2, d1, d2⟩ := K
  refine Int.not_lt.1 fun hc => ?_
  have h1 : q * y ≤ Q * y := Int.mul_le_mul_of_nonneg_right (by omega) (by omega)
  omega
theorem kn_le {y y1 y0 u d Q q r : Int} (K : Kn y y1 y0 u d) (hQ : u * 4294967296 + d < (Q + 1) * y) (hqr : q * y1 + r = u) (h : q * y0 ≤ 4294967296 * r + d) : q ≤ Q := by
  have hm := kn_mul K q
  obtain ⟨hy, a1, a2, b1, b2, u1, u2, d1, d2⟩ := K
  refine Int.not_lt.1 fun hc => ?_
  have h1 : (Q + 1) * y ≤ q * y := Int.mul_le_mul_of_nonneg_right (by omega) (by omega)
  omega
theorem kn_break {y y1 y0 u d q r : Int} (K : Kn y y1 y0 u d) (q0 : 0 ≤ q) (hq : q ≤ 4294967296) (hr : 4294967296 ≤ r) : q * y0 ≤ 4294967296 * r + d := by
  obtain ⟨hy, a1, a2, b1, b2, u1, u2, d1, d2⟩ := K
  have h1 : q * y0 ≤ q * 4294967295 := Int.mul_le_mul_of_nonneg_left (by omega) q0
  omega
theorem kn_guess {y y1 y0 u d Q : Int} (K : Kn y y1 y0 u d) (hQ : Q * y ≤ u * 4294967296 + d) :
    Q ≤ u / y1 ∧ u / y1 ≤ 4294967297 ∧ 0 ≤ u / y1 ∧ u / y1 * y1 ≤ u ∧ 0 ≤ u / y1 * y1 ∧ u - u / y1 * y1 < 4294967296 ∧ 0 ≤ u - u / y1 * y1 := by
  have hm := kn_mul K (u / y1 + 1)
  obtain ⟨hy, a1, a2, b1, b2, u1, u2, d1, d2⟩ := K
  have e1 : u / y1 * y1 ≤ u := Int.ediv_mul_le u (by omega)
  have e2 : u < (u / y1 + 1) * y1 := Int.lt_ediv_add_one_mul_self u (by omega)
  have e3 : 0 ≤ u / y1 := Int.ediv_nonneg u1 (by omega)
  generalize u / y1 = q at *
  have e4 : (q + 1) * y1 = q * y1 + y1 := by rw [Int.add_mul, Int.one_mul]
  have e5 : 0 ≤ q * y1 := Int.mul_nonneg e3 (by omega)
  have e6 : 0 ≤ (q + 1) * y0 := Int.mul_nonneg (by omega) b1
  refine ⟨?_, ?_, e3, e1, e5, by omega, by omega⟩
  · refine Int.not_lt.1 fun hc => ?_
    have h1 : (q + 1) * y ≤ Q * y := Int.mul_le_mul_of_nonneg_right (by omega) (by omega)
    omega
  · refine Int.not_lt.1 fun hc => ?_
    have h1 : 4294967298 * y1 ≤ q * y1 := Int.mul_le_mul_of_nonneg_right (by omega) (by omega)
    omega
/-- A guess that holds in the loop. -/
def Guess (y1 u Q q r : Int) : Prop := q * y1 + r = u ∧ 0 ≤ r ∧ r < 4294967296 ∧ Q ≤ q ∧ q ≤ 4294967297
theorem kn_next {y1 u q r : Int} (h : q * y1 + r = u) : (q - 1) * y1 + (r + y1) = u := by
  rw [Int.sub_mul, Int.one_mul]; omega
theorem kn_prod {y y1 y0 u d q : Int} (K : Kn y y1 y0 u d) (q0 : 0 ≤ q) (h : q < 4294967296) : 0 ≤ q * y0 ∧ q * y0 < 18446744073709551616 := by
  obtain ⟨hy, a1, a2, b1, b2, u1, u2, d1, d2⟩ := K
  refine ⟨Int.mul_nonneg q0 b1, ?_⟩
  have h1 : q * y0 ≤ q * 4294967295 := Int.mul_le_mul_of_nonneg_left (by omega) q0
  omega

/-- The digit and what is left. -/
theorem kn_digit {y y1 y0 u d : Int} (K : Kn y y1 y0 u d) :
    (u * 4294967296 + d) / y * y ≤ u * 4294967296 + d ∧ u * 4294967296 + d < ((u * 4294967296 + d) / y + 1) * y ∧ 0 ≤ (u * 4294967296 + d) / y ∧
    (u * 4294967296 + d) / y < 4294967296 ∧ u * 4294967296 + d - (u * 4294967296 + d) / y * y = (u * 4294967296 + d) % y ∧ 0 ≤ (u * 4294967296 + d) % y ∧ (u * 4294967296 + d) % y < y := by
  have K' := K
  obtain ⟨hy, a1, a2, b1, b2, u1, u2, d1, d2⟩ := K
  have e1 : (u * 4294967296 + d) / y * y ≤ u * 4294967296 + d := Int.ediv_mul_le _ (by omega)
  have e2 := Int.lt_ediv_add_one_mul_self (u * 4294967296 + d) (show 0 < y by omega)
  have e3 := Int.emod_add_mul_ediv (u * 4294967296 + d) y
  have e4 : y * ((u * 4294967296 + d) / y) = (u * 4294967296 + d) / y * y := Int.mul_comm _ _
  exact ⟨e1, e2, Int.ediv_nonneg (by omega) (by omega), kn_small K' e1, by omega, Int.emod_nonneg _ (by omega), Int.emod_lt_of_pos _ (by omega)⟩

/-- Two digits one behind the other are the whole quotient. -/
theorem kn_whole {y u d1 d0 : Int} (hy : 0 < y) :
    ((u * 4294967296 + d1) / y * 4294967296 + ((u * 4294967296 + d1) % y * 4294967296 + d0) / y) = (u * 18446744073709551616 + (d1 * 4294967296 + d0)) / y ∧
    ((u * 4294967296 + d1) % y * 4294967296 + d0) % y = (u * 18446744073709551616 + (d1 * 4294967296 + d0)) % y := by
  have e1 := Int.emod_add_mul_ediv (u * 4294967296 + d1) y
  generalize (u * 4294967296 + d1) / y = q1 at *
  generalize (u * 4294967296 + d1) % y = r1 at *
  have e2 : u * 18446744073709551616 + (d1 * 4294967296 + d0) = (r1 * 4294967296 + d0) + y * (q1 * 4294967296) := by
    have : y * (q1 * 4294967296) = y * q1 * 4294967296 := (Int.mul_assoc _ _ _).symm
    omega
  rw [e2, Int.add_mul_ediv_left _ _ (by omega), Int.add_mul_emod_self_left]
  exact ⟨by omega, rfl⟩

/-- A fraction of two numbers that were shifted alike. -/
theorem kn_shift {n y s : Int} (hs : 0 < s) : n * s / (y * s) = n / y ∧ n * s % (y * s) / s = n % y := by
  refine ⟨Int.mul_ediv_mul_of_pos_left n y hs, ?_⟩
  rw [Int.mul_comm n s, Int.mul_comm y s, Int.mul_emod_mul_of_pos n y hs, Int.mul_ediv_cancel_left _ (by omega)]

/-- The numbers shifted: S and T are 2 to the s and 2 to the 64 - s. -/
theorem kn_up {hi lo y S T : Int} (hS : 0 < S) (hT : 0 < T) (hST : S * T = 18446744073709551616) (h0 : 0 ≤ hi) (h1 : hi < y) (l0 : 0 ≤ lo) (l1 : lo < 18446744073709551616) (y2 : y * S < 18446744073709551616) :
    0 ≤ hi * S ∧ hi * S + S ≤ y * S ∧ 0 ≤ lo / T ∧ lo / T < S ∧ lo * S % 18446744073709551616 = lo % T * S ∧ 0 ≤ lo % T * S ∧ lo % T * S < 18446744073709551616 ∧
    (hi * S + lo / T) * 18446744073709551616 + lo % T * S = (hi * 18446744073709551616 + lo) * S := by
  have e1 : (hi + 1) * S ≤ y * S := Int.mul_le_mul_of_nonneg_right (by omega) (by omega)
  have e2 : (hi + 1) * S = hi * S + S := by rw [Int.add_mul, Int.one_mul]
  have e3 : lo / T < S := Int.ediv_lt_of_lt_mul hT (by omega)
  have e4 : 0 ≤ lo / T := Int.ediv_nonneg l0 (by omega)
  have e5 := Int.emod_add_mul_ediv lo T
  have e6 : 0 ≤ lo % T := Int.emod_nonneg _ (by omega)
  have e7 : lo % T < T := Int.emod_lt_of_pos _ hT
  have e8 : 0 ≤ hi * S := Int.mul_nonneg h0 (by omega)
  generalize lo / T = a at *
  generalize lo % T = b at *
  have e9 : 0 ≤ b * S := Int.mul_nonneg e6 (by omega)
  have e10 : (b + 1) * S ≤ T * S := Int.mul_le_mul_of_nonneg_right (by omega) (by omega)
  have e11 : (b + 1) * S = b * S + S := by rw [Int.add_mul, Int.one_mul]
  have e12 : T * S = 18446744073709551616 := by rw [Int.mul_comm]; exact hST
  have e13 : lo * S = a * 18446744073709551616 + b * S := by
    rw [← e5, Int.add_mul, ← e12, Int.mul_comm T a, Int.mul_assoc]; omega
  refine ⟨e8, by omega, e4, e3, by omega, e9, by omega, ?_⟩
  have e14 : (hi * 18446744073709551616 + lo) * S = hi * S * 18446744073709551616 + lo * S := by
    rw [Int.add_mul, Int.mul_assoc, Int.mul_assoc, Int.mul_comm 18446744073709551616 S]
  omega

theorem pow_split (s : Nat) (h : s ≤ 64) : (2 : Int) ^ s * 2 ^ (64 - s) = 18446744073709551616 := by
  rw [← Int.pow_add, show s + (64 - s) = 64 by omega]; decide
theorem pow_pos2 (s : Nat) : (0 : Int) < 2 ^ s := Int.pow_pos (by decide)

end Go.Proofs.YtpfjnnkjoabgbaaGreatDoor
