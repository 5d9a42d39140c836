/-
  WALKS: beginsWithDate, beginsWithPair, markToken.
-/
import Derived.Test.YtlihkmhhfnkkoaaDoorWLex2
namespace Go.Proofs.YtlihkmhhfnkkoaaDoor
open Go.RowKit Lx
set_option linter.unusedVariables false
set_option linter.unusedSimpArgs false

theorem fits_step (l : L) (k : Nat) (hk : k < 10) (hl : k < l.length) : fits (form.drop k) (l.drop k) = (fitN (nthN l k) (form.getD k 0) && fits (form.drop (k + 1)) (l.drop (k + 1))) := by
  have hf : k < form.length := hk
  rw [List.drop_eq_getElem_cons hf, List.drop_eq_getElem_cons hl]
  have e1 : nthN l k = (l[k]).toNat := by simp [nthN, List.getD, hl]
  have e2 : form.getD k 0 = form[k] := by simp [List.getD, hf]
  rw [e1, e2]
  rfl
theorem fits_short {l : L} (h : l.length < 10) : fits form l = false := by
  cases hx : fits form l with
  | false => rfl
  | true => have : 10 ≤ l.length := fits_len hx; omega
theorem fits_end (l : L) : fits (form.drop 10) (l.drop 10) = (decide (l.length ≤ 10) || !rnN (nthN l 10)) := by
  rw [show form.drop 10 = [] from rfl]
  rcases Nat.lt_or_ge 10 l.length with h | h
  · rw [List.drop_eq_getElem_cons h, decide_eq_false (by omega), Bool.false_or]
    have e1 : nthN l 10 = (l[10]).toNat := by simp [nthN, List.getD, h]
    rw [e1]; rfl
  · rw [List.drop_eq_nil_of_le h, decide_eq_true h]; rfl
theorem below_q {w : World} (n : Nat) : Below w.heap.size w (w.drewN n) := ⟨rfl, rfl, rfl, Nat.le_refl _, fun _ _ => rfl⟩
theorem drew_drew (w : World) (a b : Nat) : ∃ c, (w.drewN a).drewN b = w.drewN c := ⟨a + b, by simp [World.drewN]; omega⟩
set_option maxHeartbeats 4000000 in
theorem beginsWithDate_any (s : ByteArray) (w : World) (hs : s.size ≤ 9223372036854775806) :
    Calls Tryd.prog 9 #[.string s] w fun e w' => e = .returned (.bool (fits form (lst s))) ∧ ∃ n, w' = w.drewN n := by
  obtain ⟨R, hR⟩ : ∃ R, fits form (lst s) = R := ⟨_, rfl⟩
  rw [hR]
  by_cases h10 : s.size < 10
  · have e : R = false := by rw [← hR]; exact fits_short (by rw [lst_len]; exact h10)
    have h10' : (s.size : Int) < 10 := by omega
    subst e
    clear hR h10
    go_enter Tryd.func9, Tryd.ntmps9
    go_wp2
    go_ret
    exact ⟨rfl, 0, rfl⟩
  · have h10' : ¬ (s.size : Int) < 10 := by omega
    have HS := Lib.hid (p := ∀ k, k < 10 → fits (form.drop k) ((lst s).drop k) = (fitN (nthN (lst s) k) (form.getD k 0) && fits (form.drop (k + 1)) ((lst s).drop (k + 1)))) (fun k hk => fits_step (lst s) k hk (by rw [lst_len]; omega))
    have HE := Lib.hid (fits_end (lst s))
    rw [lst_len] at HE
    have HR := Lib.hid hR
    clear hR
    go_enter Tryd.func9, Tryd.ntmps9
    go_wp2
    go_loopw [7] (fun t wr => ∃ k : Nat, k ≤ 10 ∧ t = .int .i64 k ∧ RowKit.Hid (fits (form.drop k) ((lst s).drop k) = R) ∧ ∃ n, wr = w.drewN n) (fun t _ => 10 - intV t)
    case atStart => exact ⟨0, by omega, rfl, HR.out, 0, rfl⟩
    case round =>
      obtain ⟨k, hk, rfl, hN, n, hw⟩ := hrel
      have HW := Lib.hid hw
      clear hw
      by_cases hlt : k < 10
      · have hks : k < s.size := by omega
        have ST := HS.out k hlt
        rw [hN.out, nth_lst hks] at ST
        obtain ⟨f, hf⟩ : ∃ f, form.getD k 0 = f := ⟨_, rfl⟩
        rw [hf] at ST
        obtain ⟨c, hc⟩ : ∃ c : Nat, s[k].toNat = c := ⟨_, rfl⟩
        rw [hc] at ST
        have KF := Lib.hid (fun W => fitsDate_any c f W)
        have ME := Lib.hid (p := 10 - intV (.int .i64 ((k : Int) + 1)) < 10 - intV (.int .i64 (k : Int))) (by simp only [intV]; omega)
        cases hb : fitN c f with
        | true =>
          rw [hb, Bool.true_and] at ST
          rw [hb] at KF
          have YS := Lib.hid ST.symm
          clear ST hN hb HS
          rcases (show k = 0 ∨ k = 1 ∨ k = 2 ∨ k = 3 ∨ k = 4 ∨ k = 5 ∨ k = 6 ∨ k = 7 ∨ k = 8 ∨ k = 9 by omega) with rfl|rfl|rfl|rfl|rfl|rfl|rfl|rfl|rfl|rfl
          all_goals
            subst hf
            go_wp2
            go_quiet ((go_at_call 22; exact Calls.quiet_of_same (KF.out _)))
            go_wp2
            go_roundw
            case rel => exact ⟨_, by decide, rfl, YS.out, by rw [HW.out]; exact drew_drew _ _ _⟩
            case measure => exact ME.out
        | false =>
          rw [hb, Bool.false_and] at ST
          rw [hb] at KF
          subst ST
          clear hN hb HS
          rcases (show k = 0 ∨ k = 1 ∨ k = 2 ∨ k = 3 ∨ k = 4 ∨ k = 5 ∨ k = 6 ∨ k = 7 ∨ k = 8 ∨ k = 9 by omega) with rfl|rfl|rfl|rfl|rfl|rfl|rfl|rfl|rfl|rfl
          all_goals
            subst hf
            go_wp2
            go_quiet ((go_at_call 22; exact Calls.quiet_of_same (KF.out _)))
            go_wp2
            go_ret
            exact ⟨rfl, by rw [HW.out]; exact drew_drew _ _ _⟩
      · obtain rfl : k = 10 := by omega
        have EE := HE.out
        rw [hN.out] at EE
        by_cases h11 : s.size = 10
        · have h11' : (s.size : Int) = 10 := by omega
          rw [decide_eq_true (show s.size ≤ 10 by omega), Bool.true_or] at EE
          subst EE
          clear hN
          go_wp2
          go_ret
          exact ⟨rfl, n, HW.out⟩
        · have h11' : ((s.size : Int) == 10) = false := by rw [beq_eq_false_iff_ne]; omega
          have h11'' : ¬ (s.size : Int) = 10 := by omega
          have h12 : 10 < s.size := by omega
          rw [decide_eq_false (by omega), Bool.false_or, nth_lst h12] at EE
          have KR := Lib.hid (fun W => isOfRun_any (s[10].toNat) W)
          cases hb : rnN (s[10].toNat) with
          | true =>
            rw [hb] at KR EE
            subst EE
            clear hN hb
            go_wp2_with (go_at_call 23; refine (KR.out _).mono ?_; rintro e w1 ⟨rfl, rfl⟩)
            go_ret
            exact ⟨rfl, n, HW.out⟩
          | false =>
            rw [hb] at KR EE
            subst EE
            clear hN hb
            go_wp2_with (go_at_call 23; refine (KR.out _).mono ?_; rintro e w1 ⟨rfl, rfl⟩)
            go_ret
            exact ⟨rfl, n, HW.out⟩
end Go.Proofs.YtlihkmhhfnkkoaaDoor
