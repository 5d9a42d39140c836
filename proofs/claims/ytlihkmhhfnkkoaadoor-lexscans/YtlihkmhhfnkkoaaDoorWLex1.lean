/-
  WALKS: the scanner's bytes: isSmall, isCapital, isDigit, isBlank, isOfRun, unitOf, isMark, fitsDate.
-/
import Derived.Test.YtlihkmhhfnkkoaaDoorPlainLex
import Derived.Test.YtlihkmhhfnkkoaaDoorRows
import Derived.Below
import Derived.BigCall
import Derived.BigGuard
import Derived.BigQuiet
import Derived.Deep.QuietTactic
import Derived.WalkKit
import Derived.WalkSpells
import Derived.Lib.Hide
namespace Go.Proofs.YtlihkmhhfnkkoaaDoor
open Go.RowKit Lx
set_option linter.unusedVariables false
set_option linter.unusedSimpArgs false

theorem smN_no1 {c : Nat} (h : ¬ 97 ≤ c) : smN c = false := by unfold smN; rw [decide_eq_false h]; rfl
theorem smN_at {c : Nat} (h : 97 ≤ c) : smN c = decide (c ≤ 122) := by unfold smN; rw [decide_eq_true h]; rfl
theorem isSmall_any (c : Nat) (w : World) : Calls Tryd.prog 14 #[.int .u8 (c : Int)] w fun e w' => e = .returned (.bool (smN c)) ∧ w' = w := by
  by_cases h1 : 97 ≤ c
  · have h1' : (97 : Int) ≤ (c : Int) := by omega
    by_cases h2 : c ≤ 122
    · have h2' : (c : Int) ≤ 122 := by omega
      rw [smN_at h1, decide_eq_true h2]
      clear h1 h2
      go_enter Tryd.func14, Tryd.ntmps14
      go_wp2
      go_ret
      exact ⟨rfl, rfl⟩
    · have h2' : ¬ (c : Int) ≤ 122 := by omega
      rw [smN_at h1, decide_eq_false h2]
      clear h1 h2
      go_enter Tryd.func14, Tryd.ntmps14
      go_wp2
      go_ret
      exact ⟨rfl, rfl⟩
  · have h1' : decide ((97 : Int) ≤ (c : Int)) = false := decide_eq_false (by omega)
    rw [smN_no1 h1]
    clear h1
    go_enter Tryd.func14, Tryd.ntmps14
    go_wp2
    go_ret
    exact ⟨rfl, rfl⟩
theorem cpN_no1 {c : Nat} (h : ¬ 65 ≤ c) : cpN c = false := by unfold cpN; rw [decide_eq_false h]; rfl
theorem cpN_at {c : Nat} (h : 65 ≤ c) : cpN c = decide (c ≤ 90) := by unfold cpN; rw [decide_eq_true h]; rfl
theorem isCapital_any (c : Nat) (w : World) : Calls Tryd.prog 16 #[.int .u8 (c : Int)] w fun e w' => e = .returned (.bool (cpN c)) ∧ w' = w := by
  by_cases h1 : 65 ≤ c
  · have h1' : (65 : Int) ≤ (c : Int) := by omega
    by_cases h2 : c ≤ 90
    · have h2' : (c : Int) ≤ 90 := by omega
      rw [cpN_at h1, decide_eq_true h2]
      clear h1 h2
      go_enter Tryd.func16, Tryd.ntmps16
      go_wp2
      go_ret
      exact ⟨rfl, rfl⟩
    · have h2' : ¬ (c : Int) ≤ 90 := by omega
      rw [cpN_at h1, decide_eq_false h2]
      clear h1 h2
      go_enter Tryd.func16, Tryd.ntmps16
      go_wp2
      go_ret
      exact ⟨rfl, rfl⟩
  · have h1' : decide ((65 : Int) ≤ (c : Int)) = false := decide_eq_false (by omega)
    rw [cpN_no1 h1]
    clear h1
    go_enter Tryd.func16, Tryd.ntmps16
    go_wp2
    go_ret
    exact ⟨rfl, rfl⟩
theorem dgN_no1 {c : Nat} (h : ¬ 48 ≤ c) : dgN c = false := by unfold dgN; rw [decide_eq_false h]; rfl
theorem dgN_at {c : Nat} (h : 48 ≤ c) : dgN c = decide (c ≤ 57) := by unfold dgN; rw [decide_eq_true h]; rfl
theorem isDigit_any (c : Nat) (w : World) : Calls Tryd.prog 11 #[.int .u8 (c : Int)] w fun e w' => e = .returned (.bool (dgN c)) ∧ w' = w := by
  by_cases h1 : 48 ≤ c
  · have h1' : (48 : Int) ≤ (c : Int) := by omega
    by_cases h2 : c ≤ 57
    · have h2' : (c : Int) ≤ 57 := by omega
      rw [dgN_at h1, decide_eq_true h2]
      clear h1 h2
      go_enter Tryd.func11, Tryd.ntmps11
      go_wp2
      go_ret
      exact ⟨rfl, rfl⟩
    · have h2' : ¬ (c : Int) ≤ 57 := by omega
      rw [dgN_at h1, decide_eq_false h2]
      clear h1 h2
      go_enter Tryd.func11, Tryd.ntmps11
      go_wp2
      go_ret
      exact ⟨rfl, rfl⟩
  · have h1' : decide ((48 : Int) ≤ (c : Int)) = false := decide_eq_false (by omega)
    rw [dgN_no1 h1]
    clear h1
    go_enter Tryd.func11, Tryd.ntmps11
    go_wp2
    go_ret
    exact ⟨rfl, rfl⟩
theorem castI {c k : Nat} (h : ¬ c = k) : ¬ (c : Int) = (k : Int) := by omega
theorem isBlank_lex (c : Nat) (w : World) : Calls Tryd.prog 7 #[.int .u8 (c : Int)] w fun e w' => e = .returned (.bool (blN c)) ∧ w' = w := by
  by_cases h1 : c = 32
  · subst h1
    go_enter Tryd.func7, Tryd.ntmps7
    go_wp2
    go_ret
    exact ⟨rfl, rfl⟩
  · by_cases h2 : c = 9
    · subst h2
      go_enter Tryd.func7, Tryd.ntmps7
      go_wp2
      go_ret
      exact ⟨rfl, rfl⟩
    · by_cases h3 : c = 10
      · subst h3
        go_enter Tryd.func7, Tryd.ntmps7
        go_wp2
        go_ret
        exact ⟨rfl, rfl⟩
      · by_cases h4 : c = 13
        · subst h4
          go_enter Tryd.func7, Tryd.ntmps7
          go_wp2
          go_ret
          exact ⟨rfl, rfl⟩
        · have e : blN c = false := by unfold blN; rw [decide_eq_false h1, decide_eq_false h2, decide_eq_false h3, decide_eq_false h4]; rfl
          rw [e]
          have k1 : ((c : Int) == 32) = false := by rw [beq_eq_false_iff_ne]; exact castI h1
          have k2 : ((c : Int) == 9) = false := by rw [beq_eq_false_iff_ne]; exact castI h2
          have k3 : ((c : Int) == 10) = false := by rw [beq_eq_false_iff_ne]; exact castI h3
          have k4 : ((c : Int) == 13) = false := by rw [beq_eq_false_iff_ne]; exact castI h4
          clear h1 h2 h3 h4 e
          go_enter Tryd.func7, Tryd.ntmps7
          go_wp2
          go_ret
          exact ⟨rfl, rfl⟩
theorem isOfRun_any (c : Nat) (w : World) : Calls Tryd.prog 23 #[.int .u8 (c : Int)] w fun e w' => e = .returned (.bool (rnN c)) ∧ w' = w := by
  have KS := Lib.hid (fun W => isSmall_any c W)
  have KC := Lib.hid (fun W => isCapital_any c W)
  have KD := Lib.hid (fun W => isDigit_any c W)
  cases hs : smN c with
  | true =>
    rw [hs] at KS
    rw [show rnN c = true by unfold rnN; rw [hs]; rfl]
    clear hs
    go_enter Tryd.func23, Tryd.ntmps23
    go_wp2_with (go_at_call 14; refine (KS.out _).mono ?_; rintro e w1 ⟨rfl, rfl⟩)
    go_ret
    exact ⟨rfl, rfl⟩
  | false =>
    rw [hs] at KS
    cases hc : cpN c with
    | true =>
      rw [hc] at KC
      rw [show rnN c = true by unfold rnN; rw [hs, hc]; rfl]
      clear hs hc
      go_enter Tryd.func23, Tryd.ntmps23
      go_wp2_with (first
        | (go_at_call 14; refine (KS.out _).mono ?_; rintro e w1 ⟨rfl, rfl⟩)
        | (go_at_call 16; refine (KC.out _).mono ?_; rintro e w1 ⟨rfl, rfl⟩))
      go_ret
      exact ⟨rfl, rfl⟩
    | false =>
      rw [hc] at KC
      cases hd : dgN c with
      | true =>
        rw [hd] at KD
        rw [show rnN c = true by unfold rnN; rw [hs, hc, hd]; rfl]
        clear hs hc hd
        go_enter Tryd.func23, Tryd.ntmps23
        go_wp2_with (first
          | (go_at_call 14; refine (KS.out _).mono ?_; rintro e w1 ⟨rfl, rfl⟩)
          | (go_at_call 16; refine (KC.out _).mono ?_; rintro e w1 ⟨rfl, rfl⟩)
          | (go_at_call 11; refine (KD.out _).mono ?_; rintro e w1 ⟨rfl, rfl⟩))
        go_ret
        exact ⟨rfl, rfl⟩
      | false =>
        rw [hd] at KD
        by_cases h9 : c = 95
        · subst h9
          rw [show rnN 95 = true from rfl]
          clear hs hc hd
          go_enter Tryd.func23, Tryd.ntmps23
          go_wp2_with (first
            | (go_at_call 14; refine (KS.out _).mono ?_; rintro e w1 ⟨rfl, rfl⟩)
            | (go_at_call 16; refine (KC.out _).mono ?_; rintro e w1 ⟨rfl, rfl⟩)
            | (go_at_call 11; refine (KD.out _).mono ?_; rintro e w1 ⟨rfl, rfl⟩))
          go_ret
          exact ⟨rfl, rfl⟩
        · rw [show rnN c = false by unfold rnN; rw [hs, hc, hd, decide_eq_false h9]; rfl]
          have h9' : ((c : Int) == 95) = false := by rw [beq_eq_false_iff_ne]; exact castI h9
          clear hs hc hd h9
          go_enter Tryd.func23, Tryd.ntmps23
          go_wp2_with (first
            | (go_at_call 14; refine (KS.out _).mono ?_; rintro e w1 ⟨rfl, rfl⟩)
            | (go_at_call 16; refine (KC.out _).mono ?_; rintro e w1 ⟨rfl, rfl⟩)
            | (go_at_call 11; refine (KD.out _).mono ?_; rintro e w1 ⟨rfl, rfl⟩))
          go_ret
          exact ⟨rfl, rfl⟩
theorem unitOf_any (c : Nat) (w : World) : Calls Tryd.prog 25 #[.int .u8 (c : Int)] w fun e w' => e = .returned (.int .i64 (unN c)) ∧ w' = w := by
  by_cases h1 : c = 100
  · subst h1
    go_enter Tryd.func25, Tryd.ntmps25
    go_wp2
    go_ret
    exact ⟨rfl, rfl⟩
  · by_cases h2 : c = 119
    · subst h2
      go_enter Tryd.func25, Tryd.ntmps25
      go_wp2
      go_ret
      exact ⟨rfl, rfl⟩
    · by_cases h3 : c = 109
      · subst h3
        go_enter Tryd.func25, Tryd.ntmps25
        go_wp2
        go_ret
        exact ⟨rfl, rfl⟩
      · by_cases h4 : c = 121
        · subst h4
          go_enter Tryd.func25, Tryd.ntmps25
          go_wp2
          go_ret
          exact ⟨rfl, rfl⟩
        · have e : unN c = 0 := by unfold unN; rw [if_neg h1, if_neg h2, if_neg h3, if_neg h4]
          rw [e]
          have k1 : ¬ (c : Int) = 100 := castI h1
          have k2 : ¬ (c : Int) = 119 := castI h2
          have k3 : ¬ (c : Int) = 109 := castI h3
          have k4 : ¬ (c : Int) = 121 := castI h4
          clear h1 h2 h3 h4 e
          go_enter Tryd.func25, Tryd.ntmps25
          go_wp2
          go_ret
          exact ⟨rfl, rfl⟩
theorem fitsDate_any (c f : Nat) (w : World) : Calls Tryd.prog 22 #[.int .u8 (c : Int), .int .u8 (f : Int)] w fun e w' => e = .returned (.bool (fitN c f)) ∧ w' = w := by
  by_cases h1 : f = 48
  · subst h1
    have KD := Lib.hid (fun W => isDigit_any c W)
    rw [show fitN c 48 = dgN c from rfl]
    go_enter Tryd.func22, Tryd.ntmps22
    go_wp2_with (go_at_call 11; refine (KD.out _).mono ?_; rintro e w1 ⟨rfl, rfl⟩)
    go_ret
    exact ⟨rfl, rfl⟩
  · have h1' : ¬ (f : Int) = 48 := castI h1
    by_cases h2 : c = f
    · subst h2
      rw [show fitN c c = true by unfold fitN; rw [if_neg h1]; simp]
      clear h1
      go_enter Tryd.func22, Tryd.ntmps22
      go_wp2
      go_ret
      exact ⟨rfl, rfl⟩
    · rw [show fitN c f = false by unfold fitN; rw [if_neg h1]; simp [h2]]
      have h2' : ¬ (c : Int) = (f : Int) := castI h2
      have h3 : ((c : Int) == (f : Int)) = false := by rw [beq_eq_false_iff_ne]; exact h2'
      clear h1 h2
      go_enter Tryd.func22, Tryd.ntmps22
      go_wp2
      go_ret
      exact ⟨by first | rfl | simp [h2'], rfl⟩
set_option maxHeartbeats 1000000 in
theorem isMark_any (c : Nat) (w : World) : Calls Tryd.prog 28 #[.int .u8 (c : Int)] w fun e w' => e = .returned (.bool (mkN c)) ∧ w' = w := by
  by_cases h : c ∈ mkL
  · rw [show mkN c = true from decide_eq_true h]
    simp only [mkL, List.mem_cons, List.not_mem_nil, or_false] at h
    rcases h with rfl|rfl|rfl|rfl|rfl|rfl|rfl|rfl|rfl|rfl|rfl|rfl|rfl|rfl|rfl|rfl|rfl|rfl|rfl
    all_goals
      go_enter Tryd.func28, Tryd.ntmps28
      go_wp2
      go_ret
      exact ⟨rfl, rfl⟩
  · rw [show mkN c = false from decide_eq_false h]
    simp only [mkL, List.mem_cons, List.not_mem_nil, or_false, not_or] at h
    obtain ⟨h1, h2, h3, h4, h5, h6, h7, h8, h9, h10, h11, h12, h13, h14, h15, h16, h17, h18, h19⟩ := h
    replace h1 := castI h1
    replace h2 := castI h2
    replace h3 := castI h3
    replace h4 := castI h4
    replace h5 := castI h5
    replace h6 := castI h6
    replace h7 := castI h7
    replace h8 := castI h8
    replace h9 := castI h9
    replace h10 := castI h10
    replace h11 := castI h11
    replace h12 := castI h12
    replace h13 := castI h13
    replace h14 := castI h14
    replace h15 := castI h15
    replace h16 := castI h16
    replace h17 := castI h17
    replace h18 := castI h18
    replace h19 := castI h19
    go_enter Tryd.func28, Tryd.ntmps28
    go_wp2
    go_ret
    exact ⟨rfl, rfl⟩
end Go.Proofs.YtlihkmhhfnkkoaaDoor
