/-
  WALK: lastUpTo: the greatest business day of a stretch up to a day.
-/
import Derived.Test.YtpeglcnenagkbaaDoorWOpen
import Derived.Test.YtpeglcnenagkbaaDoorShelf
import Derived.Lib.BitFns
import Derived.BigQuiet
import Derived.Deep.QuietTactic
namespace Go.Proofs.YtpeglcnenagkbaaDoor
open Go.RowKit
set_option linter.unusedVariables false
set_option linter.unusedSimpArgs false

theorem bitLen_spec (x : Nat) : x ≠ 0 → x < 18446744073709551616 → 1 ≤ Lib.bitLen x ∧ x.testBit (Lib.bitLen x - 1) = true ∧ ∀ i, Lib.bitLen x ≤ i → x.testBit i = false := by
  induction x using Nat.strongRecOn with
  | ind x ih =>
    intro h0 h1
    have hh := Lib.bitLen_half x h0 (by simpa using h1)
    by_cases h2 : x / 2 = 0
    · have : x = 1 := by omega
      subst this
      have e : Lib.bitLen 1 = 1 := by decide
      rw [e]
      refine ⟨by omega, by decide, fun i hi => ?_⟩
      rw [show (1 : Nat) = 2 ^ 0 from rfl, Nat.testBit_two_pow]; simp; omega
    · obtain ⟨a, b, c⟩ := ih (x / 2) (by omega) h2 (by omega)
      rw [hh]
      refine ⟨by omega, ?_, fun i hi => ?_⟩
      · rw [show 1 + Lib.bitLen (x / 2) - 1 = (Lib.bitLen (x / 2) - 1) + 1 by omega, Nat.testBit_succ]; exact b
      · obtain ⟨j, rfl⟩ : ∃ j, i = j + 1 := ⟨i - 1, by omega⟩
        rw [Nat.testBit_succ]; exact c j (by omega)
theorem testBit_zero_all {x : Nat} (h : x < 18446744073709551616) (hz : ∀ i, i < 64 → x.testBit i = false) : x = 0 := by
  apply Nat.eq_of_testBit_eq
  intro i
  rw [Nat.zero_testBit]
  by_cases q : i < 64
  · exact hz i q
  · exact Nat.testBit_lt_two_pow (Nat.lt_of_lt_of_le h (by
      have : 2 ^ 64 ≤ 2 ^ i := Nat.pow_le_pow_right (by omega) (by omega)
      simpa using this))
theorem and_mask (v t : Nat) (hv : v < 18446744073709551616) (ht : t < 64) : ∃ u : Nat, bits .and .u64 (v : Int) ((2 ^ (t + 1) - 1 : Nat) : Int) = (u : Int) ∧ u < 18446744073709551616 ∧ ∀ i, u.testBit i = (v.testBit i && decide (i ≤ t)) := by
  have hp : 2 ^ (t + 1) ≤ 2 ^ 64 := Nat.pow_le_pow_right (by omega) (by omega)
  have hp' : 2 ^ (t + 1) ≤ 18446744073709551616 := by simpa using hp
  have h1 : 1 ≤ 2 ^ (t + 1) := Nat.one_le_two_pow
  rw [u64_and_nat v (2 ^ (t + 1) - 1) hv (by omega)]
  refine ⟨_, rfl, Nat.lt_of_le_of_lt Nat.and_le_left hv, fun i => ?_⟩
  rw [Nat.testBit_and, Nat.testBit_two_pow_sub_one]
  congr 1
  rw [Bool.eq_iff_iff]; simp only [decide_eq_true_eq]; omega

theorem shr_mask (t : Nat) (ht : t < 64) : (18446744073709551615 : Int) / 2 ^ (63 - t) = ((2 ^ (t + 1) - 1 : Nat) : Int) := by
  have key : ∀ t : Fin 64, (18446744073709551615 : Int) / 2 ^ (63 - t.val) = ((2 ^ (t.val + 1) - 1 : Nat) : Int) := by decide +kernel
  exact key ⟨t, ht⟩

theorem ret_ib {k : IntKind} {a b : Int} {c : Bool} (h : a = b) : Ending.returned (.tuple #[.int k a, .bool c]) = .returned (.tuple #[.int k b, .bool c]) := by rw [h]
theorem below_q {B : Nat} {a w : World} (h : Below B a w) (n : Nat) : Below B a (w.drewN n) := ⟨h.os, h.tape, h.output, h.size, h.block⟩
/-- How lastUpTo ends. -/
def LastE (ws : List Nat) (first d : Int) (e : Ending) : Prop := ∃ (r : Int) (b : Bool), e = .returned (.tuple #[.int .i64 r, .bool b]) ∧
  ((b = false ∧ r = 0 ∧ ∀ m : Nat, (m : Int) ≤ d - first → Bit ws m = false) ∨ (b = true ∧ ∃ m : Nat, r = first + m ∧ (m : Int) ≤ d - first ∧ Bit ws m = true ∧ ∀ m' : Nat, m < m' → (m' : Int) ≤ d - first → Bit ws m' = false))

set_option maxHeartbeats 2000000 in
set_option maxRecDepth 100000 in
theorem lastUpTo_any (g n cap : Nat) (first d : Int) (ws : List Nat) (w : World) (hn : ws.length = n) (hw : Wd w g ws) (h64 : ∀ i, ws.getD i 0 < 18446744073709551616) (h0 : 0 ≤ first) (h1 : first ≤ d) (h2 : d ≤ 1000000) (hj : ((d - first) / 64).toNat < n) (hn2 : n ≤ 100000) :
    Calls Tryd.prog 55 #[.agg #[.int .i64 first, .slice (some ⟨g, 0, none⟩) n cap], .int .i64 d] w fun e w' => LastE ws first d e ∧ Below w.heap.size w w' := by
  obtain ⟨j, ej⟩ : ∃ j : Nat, (d - first) / 64 = j := ⟨((d - first) / 64).toNat, by omega⟩
  obtain ⟨t, et⟩ : ∃ t : Nat, (d - first) % 64 = t := ⟨((d - first) % 64).toNat, by omega⟩
  have ht : t < 64 := by omega
  have hdf : 0 ≤ d - first := by omega
  have hjn : j < n := by omega
  have ST := Lib.hid (p := d - first = 64 * (j : Int) + t) (by omega)
  have sm := shr_mask t ht
  have HG := Lib.hid (hw.grow (.cells #[.int .i64 first, .slice (some ⟨g, 0, none⟩) n cap] 58))
  have H6 := Lib.hid h64
  clear hw h64 hj
  go_enter Tryd.func55, Tryd.ntmps55
  go_wp2
  go_loop [7, 8] (fun q i => ∃ (k T : Nat), k ≤ j + 1 ∧ T < 64 ∧ i = .int .i64 ((k : Int) - 1) ∧ q = .int .u64 ((2 ^ (T + 1) - 1 : Nat) : Int) ∧ (k = j + 1 → T = t) ∧ (k ≤ j → T = 63) ∧ RowKit.Hid (∀ m : Nat, 64 * k ≤ m → m ≤ 64 * j + t → Bit ws m = false)) (fun _ i => (intOf i + 1).toNat)
  case atStart => exact ⟨j + 1, t, by omega, ht, by first | go_num | (rw [ej]; go_num), rfl, fun _ => rfl, fun h => absurd h (by omega), fun m a b => absurd a (by omega)⟩
  case round =>
    obtain ⟨k, T, k1, T1, rfl, rfl, kT, kT2, hN⟩ := hrel
    cases k with
    | zero =>
      go_wp2
      go_ret2
      exact ⟨⟨0, false, rfl, .inl ⟨rfl, rfl, fun m hm => hN.out m (by omega) (by have := ST.out; omega)⟩⟩, (Below.refl _ _).alloc (Nat.le_refl _) _⟩
    | succ k =>
      have hkn : k < n := by omega
      have kn : (k : Int) < n := by omega
      have wc := (HG.out.2 k (by omega)).1
      obtain ⟨u, u1, u2, u3⟩ := and_mask (ws.getD k 0) T (H6.out k) T1
      have BB := Lib.hid (p := ∀ i, i < 64 → Bit ws (64 * k + i) = (ws.getD k 0).testBit i) (fun i hi => by unfold Bit; rw [show (64 * k + i) / 64 = k by omega, show (64 * k + i) % 64 = i by omega])
      have U3 := Lib.hid u3
      generalize ws.getD k 0 = v at *
      generalize ((2 ^ (T + 1) - 1 : Nat) : Int) = MM at *
      clear u3
      by_cases hu : u = 0
      · subst hu
        have NB := Lib.hid (p := ∀ m : Nat, 64 * k ≤ m → m ≤ 64 * j + t → Bit ws m = false) (fun m a b => by
          by_cases q : 64 * (k + 1) ≤ m
          · exact hN.out m q b
          · have hm : m = 64 * k + (m - 64 * k) := by omega
            have e := BB.out (m - 64 * k) (by omega)
            rw [← hm] at e
            rw [e]
            have z := U3.out (m - 64 * k)
            rw [Nat.zero_testBit, decide_eq_true (show m - 64 * k ≤ T by
              by_cases r : k + 1 = j + 1
              · have := kT r; omega
              · have := kT2 (by omega); omega), Bool.and_true] at z
            exact z.symm)
        go_wp2
        go_round
        case rel => exact ⟨k, 63, by omega, by omega, by go_num, rfl, fun h => absurd h (by omega), fun _ => rfl, NB.out⟩
        case measure => first | (simp [intOf]; done) | (simp [intOf]; omega)
      · have hu' : ¬ (u : Int) = 0 := by omega
        obtain ⟨l1, l2, l3⟩ := bitLen_spec u hu u2
        have l4 : Lib.bitLen u ≤ 64 := by
          by_cases q : Lib.bitLen u ≤ 64
          · exact q
          · have := U3.out (Lib.bitLen u - 1)
            rw [l2] at this
            rw [decide_eq_false (by omega), Bool.and_false] at this
            cases this
        have L2 := Lib.hid l2
        have L3 := Lib.hid l3
        clear l2 l3
        have LN := Lib.hid (fun w => Tryd.bits_Len64 (u : Int) w (by omega) (by omega))
        simp only [Int.toNat_natCast] at LN
        generalize Lib.bitLen u = L at *
        go_wp2
        go_quiet ((go_at_call 64; exact Calls.quiet_of_same (LN.out _)))
        go_wp2
        go_ret2
        refine ⟨⟨first + (64 * k + (L - 1) : Nat), true, ret_ib (by omega), .inr ⟨rfl, 64 * k + (L - 1), rfl, ?_, ?_, fun m' a b => ?_⟩⟩, below_q ((Below.refl _ _).alloc (Nat.le_refl _) _) _⟩
        · have st := ST.out
          have z := U3.out (L - 1)
          rw [L2.out] at z
          have z2 : L - 1 ≤ T := by
            by_cases r : L - 1 ≤ T
            · exact r
            · rw [decide_eq_false r, Bool.and_false] at z; cases z
          by_cases r : k + 1 = j + 1
          · have := kT r; omega
          · have := kT2 (by omega); omega
        · rw [BB.out (L - 1) (by omega)]
          have z := U3.out (L - 1)
          rw [L2.out] at z
          exact ((Bool.and_eq_true _ _).mp z.symm).1
        · have st := ST.out
          by_cases q : 64 * (k + 1) ≤ m'
          · exact hN.out m' q (by omega)
          · have hm : m' = 64 * k + (m' - 64 * k) := by omega
            have e := BB.out (m' - 64 * k) (by omega)
            rw [← hm] at e
            rw [e]
            have z := U3.out (m' - 64 * k)
            rw [L3.out (m' - 64 * k) (by omega), decide_eq_true (show m' - 64 * k ≤ T by
              by_cases r : k + 1 = j + 1
              · have := kT r; omega
              · have := kT2 (by omega); omega), Bool.and_true] at z
            exact z.symm
end Go.Proofs.YtpeglcnenagkbaaDoor
