/-
  WALK: begins (the document's).
-/
import Derived.Test.YtmbnbediedpgmaaPlainParse
namespace Go.Proofs.Ytmbnbediedpgmaa
open Go.RowKit
set_option linter.unusedVariables false
set_option linter.unusedSimpArgs false

/-- Is it a beginning of a number up to a limit? -/
def begB (t : ByteArray) (lim : Nat) : Bool := if at8 t 0 = 48 then decide (t.size = 1) else (preD t 0 lim t.size).isSome
theorem beg_no {t : ByteArray} {lim i : Nat} (h0 : at8 t 0 ≠ 48) (hi : i < t.size) (h : preD t 0 lim (i + 1) = none) : begB t lim = false := by
  unfold begB
  rw [if_neg h0]
  have := preD_down (s := t) (fr := 0) (lim := lim) (t.size - (i + 1)) (i + 1) h
  rw [show i + 1 + (t.size - (i + 1)) = t.size by omega] at this
  rw [this]; rfl

set_option maxHeartbeats 2000000 in
theorem begins_any (t : ByteArray) (lim : Nat) (l9 : 9 ≤ lim) (l64 : lim ≤ 9223372036854775808) (w : World) (h1 : 1 ≤ t.size) (h2 : t.size ≤ 1048576) :
    Calls Try.prog 36 #[.string t, .int .u64 lim] w fun e w' => e = .returned (.bool (begB t lim)) ∧ w' = w := by
  obtain ⟨B, hB⟩ : ∃ B, begB t lim = B := ⟨_, rfl⟩
  have HB := Lib.hid hB
  rw [hB]; clear hB
  have E0 := at8_lt (s := t) (i := 0) (by omega)
  obtain ⟨c0, hc0⟩ : ∃ c : Nat, t[0].toNat = c := ⟨_, rfl⟩
  rw [hc0] at E0
  have z0 : 0 < t.size := by omega
  have z1 : (0 : Int) < (t.size : Int) := by omega
  by_cases h48 : (c0 : Int) = 48
  · have HR := Lib.hid (p := B = decide (t.size = 1)) (by rw [← HB.out]; unfold begB; rw [E0, if_pos h48])
    have h48' : c0 = 48 := by omega
    clear h48
    subst h48'
    clear E0
    go_enter Try.func36, Try.ntmps36
    go_wp2
    go_ret
    refine ⟨ret_b ?_, rfl⟩
    rw [HR.out]
    first | rfl | (apply decide_eq_decide.2; omega) | (simp; omega)
  · have N0 := Lib.hid (show at8 t 0 ≠ 48 by rw [E0]; exact h48)
    have hb : ((c0 : Int) == 48) = false := by simpa using h48
    clear E0
    go_enter Try.func36, Try.ntmps36
    go_wp2
    go_loop [5, 6] (fun a b => ∃ i n : Nat, i ≤ t.size ∧ a = .int .u64 n ∧ b = .int .i64 i ∧ preD t 0 lim i = some n) (fun _ b => t.size - (intOf b).toNat)
    case atStart => exact ⟨0, 0, by omega, rfl, rfl, rfl⟩
    case round =>
      obtain ⟨i, n, hi, rfl, rfl, hp⟩ := hrel
      have nle := preD_le l9 hp
      have HP := Lib.hid hp
      clear hp
      by_cases hk : i < t.size
      · have kc : (i : Int) < (t.size : Int) := by omega
        obtain ⟨c, hc⟩ : ∃ c : Nat, t[i].toNat = c := ⟨_, rfl⟩
        have c255 : c ≤ 255 := by have := t[i].toNat_lt; omega
        have E := Lib.hid (show at8 t i = c by rw [at8_lt hk, hc])
        have NO := Lib.hid (p := preD t 0 lim (i + 1) = none → false = B) (fun h => by rw [← HB.out, beg_no N0.out hk h])
        have PZ := Lib.hid (p := preD t 0 lim (i + 1) = stepD lim n (at8 t i)) (by have := preD_succ HP.out; rwa [Nat.zero_add] at this)
        by_cases c48 : (c : Int) < 48
        · have NN := Lib.hid (p := preD t 0 lim (i + 1) = none) (by rw [PZ.out, E.out]; unfold stepD; rw [if_neg (fun k => by have := k.1; unfold isD at this; omega)])
          go_wp2
          go_ret
          exact ⟨ret_b (NO.out NN.out), rfl⟩
        · by_cases c57 : (57 : Int) < (c : Int)
          · have NN := Lib.hid (p := preD t 0 lim (i + 1) = none) (by rw [PZ.out, E.out]; unfold stepD; rw [if_neg (fun k => by have := k.1; unfold isD at this; omega)])
            go_wp2
            go_ret
            exact ⟨ret_b (NO.out NN.out), rfl⟩
          · have ID := Lib.hid (show isD (at8 t i) by rw [E.out]; unfold isD; omega)
            have DG := Lib.hid (show ((dg (at8 t i) : Nat) : Int) = (c : Int) - 48 by rw [(dg_bd ID.out).2, E.out])
            have w1 : IntKind.u8.wrap ((c : Int) - 48) = (c : Int) - 48 := by simp [IntKind.wrap, IntKind.bits, IntKind.signed]; omega
            have w2 : IntKind.u64.wrap ((lim : Int) - ((c : Int) - 48)) = (lim : Int) - ((c : Int) - 48) := by rw [IntKind.wrap_u64]; omega
            have w6 : IntKind.u64.wrap ((c : Int) - 48) = (c : Int) - 48 := by rw [IntKind.wrap_u64]; omega
            by_cases ov : ((lim : Int) - ((c : Int) - 48)) / 10 < (n : Int)
            · have NN := Lib.hid (p := preD t 0 lim (i + 1) = none) (by
                rw [PZ.out]; unfold stepD; rw [if_neg (fun k => by have := DG.out; have := k.2; omega)])
              go_wp2
              go_ret
              exact ⟨ret_b (NO.out NN.out), rfl⟩
            · have w3 : IntKind.u64.wrap (10 * (n : Int)) = 10 * (n : Int) := by rw [IntKind.wrap_u64]; omega
              have w4 : IntKind.u64.wrap (10 * (n : Int) + ((c : Int) - 48)) = 10 * (n : Int) + ((c : Int) - 48) := by rw [IntKind.wrap_u64]; omega
              have w5 : IntKind.i64.wrap ((i : Int) + 1) = (i : Int) + 1 := by simp [IntKind.wrap, IntKind.bits, IntKind.signed]; omega
              have NX := Lib.hid (show preD t 0 lim (i + 1) = some (10 * n + dg (at8 t i)) by
                rw [PZ.out]; unfold stepD; rw [if_pos ⟨ID.out, by have := DG.out; omega⟩])
              go_wp2
              go_round
              case rel => exact ⟨i + 1, 10 * n + dg (at8 t i), by omega, by congr 1; have := DG.out; omega, by go_num, NX.out⟩
              case measure => simp [intOf]; omega
      · obtain rfl : i = t.size := by omega
        have YES := Lib.hid (p := true = B) (by rw [← HB.out]; unfold begB; rw [if_neg N0.out, HP.out]; rfl)
        go_wp2
        go_ret
        exact ⟨ret_b YES.out, rfl⟩
end Go.Proofs.Ytmbnbediedpgmaa
