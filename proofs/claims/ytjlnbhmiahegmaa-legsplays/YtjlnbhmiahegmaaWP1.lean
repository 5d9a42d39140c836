/-
  WALKS: currencies; actions that may be played.
-/
import Derived.Test.YtjlnbhmiahegmaaPlainPlay
import Derived.Test.YtjlnbhmiahegmaaWXHb
namespace Go.Proofs.Ytjlnbhmiahegmaa
open Go.RowKit
set_option linter.unusedVariables false
set_option linter.unusedSimpArgs false

theorem cur_three {s : ByteArray} (h : s.size = 3) : curB s = (capB ((s[0]'(by omega)).toNat : Int) && capB ((s[1]'(by omega)).toNat : Int) && capB ((s[2]'(by omega)).toNat : Int)) := by
  have e : (List.range 3).all (fun i => capB (at8 s i)) = (capB (at8 s 0) && (capB (at8 s 1) && (capB (at8 s 2) && true))) := rfl
  unfold curB
  rw [decide_eq_true h, Bool.true_and, e, at8_lt (show 0 < s.size by omega), at8_lt (show 1 < s.size by omega), at8_lt (show 2 < s.size by omega), Bool.and_true, Bool.and_assoc]
theorem lcap_any (c : Int) (w : World) : Calls Try.prog 85 #[.int .u8 c] w fun e w' => e = .returned (.bool (capB c)) ∧ w' = w := by
  go_enter Try.func85, Try.ntmps85
  go_wp2
  all_goals go_ret
  all_goals refine ⟨ret_b ?_, rfl⟩
  all_goals (unfold capB; first | (simp_all; done) | (simp_all; omega))
set_option maxHeartbeats 1000000 in
theorem lcur_any (s : ByteArray) (w : World) : Calls Try.prog 64 #[.string s] w fun e w' => e = .returned (.bool (curB s)) ∧ w' = w := by
  by_cases h3 : s.size = 3
  · have h3' : (s.size : Int) = 3 := by omega
    have hb : ((s.size : Int) == 3) = true := by rw [h3]; rfl
    have z0 : 0 < s.size := by omega
    have z1 : 1 < s.size := by omega
    have z2 : 2 < s.size := by omega
    have EC : curB s = (capB ((s[0]'z0).toNat : Int) && capB ((s[1]'z1).toNat : Int) && capB ((s[2]'z2).toNat : Int)) := cur_three h3
    rw [EC]
    clear EC
    have K0 := Lib.hid (fun W => lcap_any ((s[0].toNat : Nat) : Int) W)
    have K1 := Lib.hid (fun W => lcap_any ((s[1].toNat : Nat) : Int) W)
    have K2 := Lib.hid (fun W => lcap_any ((s[2].toNat : Nat) : Int) W)
    cases c0 : capB ((s[0].toNat : Nat) : Int) with
    | false =>
      rw [c0] at K0
      clear h3 h3'
      go_enter Try.func64, Try.ntmps64
      go_wp2_with (go_at_call 85; refine (K0.out _).mono ?_; rintro e w1 ⟨rfl, rfl⟩)
      go_ret
      exact ⟨rfl, rfl⟩
    | true =>
      rw [c0] at K0
      cases c1 : capB ((s[1].toNat : Nat) : Int) with
      | false =>
        rw [c1] at K1
        clear h3 h3'
        go_enter Try.func64, Try.ntmps64
        go_wp2_with (first
          | (go_at_call 85; have qq := K0; refine (K0.out _).mono ?_; rintro e w1 ⟨rfl, rfl⟩; clear K0)
          | (go_at_call 85; refine (K1.out _).mono ?_; rintro e w1 ⟨rfl, rfl⟩))
        go_ret
        exact ⟨rfl, rfl⟩
      | true =>
        rw [c1] at K1
        generalize capB ((s[2].toNat : Nat) : Int) = b2 at *
        clear h3 h3'
        go_enter Try.func64, Try.ntmps64
        go_wp2_with (first
          | (go_at_call 85; have qq := K0; refine (K0.out _).mono ?_; rintro e w1 ⟨rfl, rfl⟩; clear K0)
          | (go_at_call 85; have qq := K1; refine (K1.out _).mono ?_; rintro e w1 ⟨rfl, rfl⟩; clear K1)
          | (go_at_call 85; refine (K2.out _).mono ?_; rintro e w1 ⟨rfl, rfl⟩))
        go_ret
        exact ⟨rfl, rfl⟩
  · have h3' : ¬ (s.size : Int) = 3 := by omega
    have hb : ((s.size : Int) == 3) = false := by rw [beq_eq_false_iff_ne]; exact h3'
    rw [cur_size h3]
    clear h3
    go_enter Try.func64, Try.ntmps64
    go_wp2
    go_ret
    exact ⟨rfl, rfl⟩
theorem rcap_any (c : Int) (w : World) : Calls Try.prog 67 #[.int .u8 c] w fun e w' => e = .returned (.bool (capB c)) ∧ w' = w := by
  go_enter Try.func67, Try.ntmps67
  go_wp2
  all_goals go_ret
  all_goals refine ⟨ret_b ?_, rfl⟩
  all_goals (unfold capB; first | (simp_all; done) | (simp_all; omega))
set_option maxHeartbeats 1000000 in
theorem rcur_any (s : ByteArray) (w : World) : Calls Try.prog 50 #[.string s] w fun e w' => e = .returned (.bool (curB s)) ∧ w' = w := by
  by_cases h3 : s.size = 3
  · have h3' : (s.size : Int) = 3 := by omega
    have hb : ((s.size : Int) == 3) = true := by rw [h3]; rfl
    have z0 : 0 < s.size := by omega
    have z1 : 1 < s.size := by omega
    have z2 : 2 < s.size := by omega
    have EC : curB s = (capB ((s[0]'z0).toNat : Int) && capB ((s[1]'z1).toNat : Int) && capB ((s[2]'z2).toNat : Int)) := cur_three h3
    rw [EC]
    clear EC
    have K0 := Lib.hid (fun W => rcap_any ((s[0].toNat : Nat) : Int) W)
    have K1 := Lib.hid (fun W => rcap_any ((s[1].toNat : Nat) : Int) W)
    have K2 := Lib.hid (fun W => rcap_any ((s[2].toNat : Nat) : Int) W)
    cases c0 : capB ((s[0].toNat : Nat) : Int) with
    | false =>
      rw [c0] at K0
      clear h3 h3'
      go_enter Try.func50, Try.ntmps50
      go_wp2_with (go_at_call 67; refine (K0.out _).mono ?_; rintro e w1 ⟨rfl, rfl⟩)
      go_ret
      exact ⟨rfl, rfl⟩
    | true =>
      rw [c0] at K0
      cases c1 : capB ((s[1].toNat : Nat) : Int) with
      | false =>
        rw [c1] at K1
        clear h3 h3'
        go_enter Try.func50, Try.ntmps50
        go_wp2_with (first
          | (go_at_call 67; have qq := K0; refine (K0.out _).mono ?_; rintro e w1 ⟨rfl, rfl⟩; clear K0)
          | (go_at_call 67; refine (K1.out _).mono ?_; rintro e w1 ⟨rfl, rfl⟩))
        go_ret
        exact ⟨rfl, rfl⟩
      | true =>
        rw [c1] at K1
        generalize capB ((s[2].toNat : Nat) : Int) = b2 at *
        clear h3 h3'
        go_enter Try.func50, Try.ntmps50
        go_wp2_with (first
          | (go_at_call 67; have qq := K0; refine (K0.out _).mono ?_; rintro e w1 ⟨rfl, rfl⟩; clear K0)
          | (go_at_call 67; have qq := K1; refine (K1.out _).mono ?_; rintro e w1 ⟨rfl, rfl⟩; clear K1)
          | (go_at_call 67; refine (K2.out _).mono ?_; rintro e w1 ⟨rfl, rfl⟩))
        go_ret
        exact ⟨rfl, rfl⟩
  · have h3' : ¬ (s.size : Int) = 3 := by omega
    have hb : ((s.size : Int) == 3) = false := by rw [beq_eq_false_iff_ne]; exact h3'
    rw [cur_size h3]
    clear h3
    go_enter Try.func50, Try.ntmps50
    go_wp2
    go_ret
    exact ⟨rfl, rfl⟩
end Go.Proofs.Ytjlnbhmiahegmaa
