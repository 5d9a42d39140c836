/-
  WALK: value (the document's).
-/
import Derived.Test.YtmbnbediedpgmaaWNumber
namespace Go.Proofs.Ytmbnbediedpgmaa
open Go.RowKit
set_option linter.unusedVariables false
set_option linter.unusedSimpArgs false

theorem preD_up {s : ByteArray} {fr lim : Nat} : ∀ {j n : Nat}, preD s fr lim j = some n → ∀ i, i ≤ j → ∃ m, preD s fr lim i = some m := fun {j n} h i hi => by
  cases hp : preD s fr lim i with
  | some m => exact ⟨m, rfl⟩
  | none =>
    have := preD_down (j - i) i hp
    rw [show i + (j - i) = j by omega, h] at this
    cases this
theorem nd_pre {s : ByteArray} {at_ lim k n : Nat} (l9 : 9 ≤ lim) (h : ND s at_ lim k n true) : at_ < k ∧ preD s at_ lim (k - at_) = some n := by
  rcases h with ⟨a, b, c, _⟩ | ⟨a, j, b, c, d⟩
  · subst b c
    refine ⟨by omega, ?_⟩
    rw [show at_ + 1 - at_ = 1 by omega, preD_succ (n := 0) rfl, Nat.add_zero, a]
    unfold stepD
    rw [if_pos ⟨by unfold isD; omega, by omega⟩]
    rfl
  · have hj : 0 < j := of_decide_eq_true d.symm
    subst c
    exact ⟨by omega, by rw [show at_ + j - at_ = j by omega]; exact b.1⟩

set_option maxHeartbeats 2000000 in
theorem value_pos (t : ByteArray) (lim n : Nat) (l9 : 9 ≤ lim) (l63 : lim ≤ 9223372036854775807) (w : World) (h1 : 1 ≤ t.size) (h2 : t.size ≤ 1048576) (h : preD t 0 lim t.size = some n) :
    Calls Try.prog 34 #[.string t] w fun e w' => e = .returned (.int .i64 (n : Int)) ∧ w' = w := by
  have H := Lib.hid h
  have dig : ∀ i, i < t.size → isD (at8 t i) := fun i hi => by
    obtain ⟨m, hm⟩ := preD_up h i (by omega)
    obtain ⟨m', hm'⟩ := preD_up h (i + 1) (by omega)
    rw [preD_succ hm, Nat.zero_add] at hm'
    exact (step_le l9 hm').2.1
  have DIG := Lib.hid dig
  have E0 := dig 0 (by omega)
  rw [at8_lt (by omega)] at E0
  obtain ⟨c0, hc0⟩ : ∃ c : Nat, t[0].toNat = c := ⟨_, rfl⟩
  have z0 : 0 < t.size := by omega
  have z1 : (0 : Int) < (t.size : Int) := by omega
  have e45 : ((c0 : Int) == 45) = false := by rw [hc0] at E0; unfold isD at E0; simp; omega
  have e46 : ¬ c0 = 45 := by rw [hc0] at E0; unfold isD at E0; omega
  clear h dig E0
  go_enter Try.func34, Try.ntmps34
  go_wp2
  go_loop [4, 5] (fun a b => ∃ i m : Nat, i ≤ t.size ∧ a = .int .i64 m ∧ b = .int .i64 i ∧ preD t 0 lim i = some m) (fun _ b => t.size - (intOf b).toNat)
  case atStart => exact ⟨0, 0, by omega, rfl, rfl, rfl⟩
  case round =>
    obtain ⟨i, m, hi, rfl, rfl, hp⟩ := hrel
    have HP := Lib.hid hp
    by_cases hk : i < t.size
    · have kc : (i : Int) < (t.size : Int) := by omega
      obtain ⟨c, hc⟩ : ∃ c : Nat, t[i].toNat = c := ⟨_, rfl⟩
      have E := Lib.hid (show at8 t i = c by rw [at8_lt hk, hc])
      have ID := DIG.out i hk
      rw [E.out] at ID
      unfold isD at ID
      obtain ⟨m', hm'⟩ := preD_up H.out (i + 1) (by omega)
      have NX := Lib.hid hm'
      rw [preD_succ hp, Nat.zero_add, E.out] at hm'
      obtain ⟨ml, _, me⟩ := step_le l9 hm'
      have me' : (m' : Int) = 10 * m + ((c : Int) - 48) := by
        have := (dg_bd (c := (c : Int)) (by unfold isD; omega)).2; omega
      have c45 : ((c : Int) == 45) = false := by simp; omega
      have c46 : ¬ c = 45 := by omega
      have w1 : IntKind.u8.wrap ((c : Int) - 48) = (c : Int) - 48 := by simp [IntKind.wrap, IntKind.bits, IntKind.signed]; omega
      have w2 : IntKind.i64.wrap ((c : Int) - 48) = (c : Int) - 48 := by rw [IntKind.wrap_i64]; omega
      have w3 : IntKind.i64.wrap (10 * (m : Int)) = 10 * (m : Int) := by rw [IntKind.wrap_i64]; omega
      have w4 : IntKind.i64.wrap (10 * (m : Int) + ((c : Int) - 48)) = 10 * (m : Int) + ((c : Int) - 48) := by rw [IntKind.wrap_i64]; omega
      have w5 : IntKind.i64.wrap ((i : Int) + 1) = (i : Int) + 1 := by rw [IntKind.wrap_i64]; omega
      have ME := Lib.hid me'
      clear hp hm' me me'
      go_wp2
      go_round
      case rel => exact ⟨i + 1, m', by omega, by congr 1; exact ME.out.symm, by go_num, NX.out⟩
      case measure => simp [intOf]; omega
    · obtain rfl : i = t.size := by omega
      have e : m = n := by have := hp.symm.trans H.out; simpa using this
      subst e
      clear hp
      go_wp2
      go_ret
      exact ⟨rfl, rfl⟩

set_option maxHeartbeats 2000000 in
theorem value_neg (t : ByteArray) (j n : Nat) (w : World) (h1 : t.size = j + 1) (h2 : t.size ≤ 1048576) (h0 : at8 t 0 = 45) (h : preD t 1 9223372036854775808 j = some n) :
    Calls Try.prog 34 #[.string t] w fun e w' => e = .returned (.int .i64 (-(n : Int))) ∧ w' = w := by
  have H := Lib.hid h
  have dig : ∀ i, i < j → isD (at8 t (1 + i)) := fun i hi => by
    obtain ⟨m, hm⟩ := preD_up h i (by omega)
    obtain ⟨m', hm'⟩ := preD_up h (i + 1) (by omega)
    rw [preD_succ hm] at hm'
    exact (step_le (by omega) hm').2.1
  have DIG := Lib.hid dig
  have z0 : 0 < t.size := by omega
  have hc0 : t[0].toNat = 45 := by have := at8_lt z0; rw [h0] at this; omega
  have z1 : (0 : Int) < (t.size : Int) := by omega
  clear h dig h0
  go_enter Try.func34, Try.ntmps34
  go_wp2
  go_loop [4, 5] (fun a b => ∃ i m : Nat, i ≤ t.size ∧ a = .int .i64 (-(m : Int)) ∧ b = .int .i64 i ∧ ((i = 0 ∧ m = 0) ∨ (1 ≤ i ∧ preD t 1 9223372036854775808 (i - 1) = some m))) (fun _ b => t.size - (intOf b).toNat)
  case atStart => exact ⟨0, 0, by omega, rfl, rfl, .inl ⟨rfl, rfl⟩⟩
  case round =>
    obtain ⟨i, m, hi, rfl, rfl, hp⟩ := hrel
    have HP := Lib.hid hp
    by_cases hk : i < t.size
    · have kc : (i : Int) < (t.size : Int) := by omega
      have w5 : IntKind.i64.wrap ((i : Int) + 1) = (i : Int) + 1 := by rw [IntKind.wrap_i64]; omega
      rcases hp with ⟨hi0, hm0⟩ | ⟨hi1, hp⟩
      · subst hi0 hm0
        go_wp2
        go_round
        case rel => exact ⟨1, 0, by omega, by first | rfl | simp, by first | rfl | simp, .inr ⟨by omega, rfl⟩⟩
        case measure => simp [intOf]; omega
      · obtain ⟨c, hc⟩ : ∃ c : Nat, t[i].toNat = c := ⟨_, rfl⟩
        have E := Lib.hid (show at8 t i = c by rw [at8_lt hk, hc])
        have ID := DIG.out (i - 1) (by omega)
        rw [show 1 + (i - 1) = i by omega, E.out] at ID
        unfold isD at ID
        obtain ⟨m', hm'⟩ := preD_up H.out (i - 1 + 1) (by omega)
        have NX := Lib.hid hm'
        rw [preD_succ hp, show 1 + (i - 1) = i by omega, E.out] at hm'
        obtain ⟨ml, _, me⟩ := step_le (by omega) hm'
        have me' : (m' : Int) = 10 * m + ((c : Int) - 48) := by
          have := (dg_bd (c := (c : Int)) (by unfold isD; omega)).2; omega
        have c45 : ((c : Int) == 45) = false := by simp; omega
        have c46 : ¬ c = 45 := by omega
        have w1 : IntKind.u8.wrap ((c : Int) - 48) = (c : Int) - 48 := by simp [IntKind.wrap, IntKind.bits, IntKind.signed]; omega
        have w2 : IntKind.i64.wrap ((c : Int) - 48) = (c : Int) - 48 := by rw [IntKind.wrap_i64]; omega
        have w3 : IntKind.i64.wrap (10 * -(m : Int)) = 10 * -(m : Int) := by rw [IntKind.wrap_i64]; omega
        have w3' : IntKind.i64.wrap (-(10 * (m : Int))) = -(10 * (m : Int)) := by rw [IntKind.wrap_i64]; omega
        have w4 : IntKind.i64.wrap (10 * -(m : Int) - ((c : Int) - 48)) = 10 * -(m : Int) - ((c : Int) - 48) := by rw [IntKind.wrap_i64]; omega
        have w4' : IntKind.i64.wrap (-(10 * (m : Int)) - ((c : Int) - 48)) = -(10 * (m : Int)) - ((c : Int) - 48) := by rw [IntKind.wrap_i64]; omega
        have ME := Lib.hid me'
        clear hp hm' me me'
        go_wp2
        go_round
        case rel => exact ⟨i + 1, m', by omega, by congr 1; have := ME.out; omega, by go_num, .inr ⟨by omega, by rw [show i + 1 - 1 = i - 1 + 1 by omega]; exact NX.out⟩⟩
        case measure => simp [intOf]; omega
    · obtain rfl : i = t.size := by omega
      have e : m = n := by
        rcases hp with ⟨a, _⟩ | ⟨_, a⟩
        · omega
        · rw [show t.size - 1 = j by omega] at a
          have := a.symm.trans H.out; simpa using this
      subst e
      clear hp
      go_wp2
      go_ret
      exact ⟨rfl, rfl⟩
end Go.Proofs.Ytmbnbediedpgmaa
