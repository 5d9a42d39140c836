/-
  WALKS: the document's digits, number, length.
-/
import Derived.Test.YtlihkmhhfnkkoaaDoorWRefLex1
import Derived.Test.YtlihkmhhfnkkoaaDoorPlainRef6
namespace Go.Proofs.YtlihkmhhfnkkoaaDoor
open Go.RowKit Lx
set_option linter.unusedVariables false
set_option linter.unusedSimpArgs false

theorem allD_yes {l : L} (h : ∀ i, i < l.length → dgN (nthN l i) = true) : allD l = true := by
  rw [allD_iff]
  intro x hx
  obtain ⟨i, hi, rfl⟩ := List.mem_iff_getElem.1 hx
  have := h i hi
  simpa [nthN, List.getD, hi] using this
theorem allD_no {l : L} {i : Nat} (hi : i < l.length) (h : dgN (nthN l i) = false) : allD l = false := by
  cases hq : allD l with
  | false => rfl
  | true =>
    have := allD_iff.1 hq l[i] (List.getElem_mem hi)
    have e : nthN l i = (l[i]).toNat := by simp [nthN, List.getD, hi]
    rw [e] at h; rw [h] at this; cases this
set_option maxHeartbeats 1000000 in
theorem rdigits_any (s : ByteArray) (w : World) (hs : s.size ≤ 9223372036854775807) :
    Calls Tryd.prog 44 #[.string s] w fun e w' => e = .returned (.bool (allD (lst s) && decide (0 < s.size))) ∧ w' = w := by
  obtain ⟨R, hR⟩ : ∃ R, (allD (lst s) && decide (0 < s.size)) = R := ⟨_, rfl⟩
  have HN := Lib.hid (p := ∀ k, k < s.size → dgN (nthN (lst s) k) = false → false = R) (fun k hk h => by rw [← hR, allD_no (by rw [lst_len]; exact hk) h]; rfl)
  have HY := Lib.hid (p := (∀ i, i < s.size → dgN (nthN (lst s) i) = true) → decide (0 < s.size) = R) (fun h => by rw [← hR, allD_yes (by rw [lst_len]; exact h)]; rfl)
  rw [hR]
  clear hR
  go_enter Tryd.func44, Tryd.ntmps44
  go_wp2
  go_loop [3] (fun t => ∃ k : Nat, k ≤ s.size ∧ t = .int .i64 k ∧ RowKit.Hid (∀ i, i < k → dgN (nthN (lst s) i) = true)) (fun t => s.size - intV t)
  case atStart => exact ⟨0, by omega, rfl, fun i hi => absurd hi (by omega)⟩
  case round =>
    obtain ⟨k, hk, rfl, hN⟩ := hrel
    by_cases hlt : k < s.size
    · have kc : (k : Int) < (s.size : Int) := by omega
      have E := nth_lst hlt
      have KD := Lib.hid (fun W => rdigit_any (s[k].toNat) W)
      have kw : IntKind.i64.wrap ((k : Int) + 1) = (k : Int) + 1 := by simp [IntKind.wrap, IntKind.bits, IntKind.signed]; omega
      have ME := Lib.hid (p := s.size - intV (.int .i64 ((k : Int) + 1)) < s.size - intV (.int .i64 (k : Int))) (by simp only [intV]; omega)
      cases hd : dgN (s[k].toNat) with
      | true =>
        rw [hd] at KD
        have NX := Lib.hid (p := ∀ i, i < k + 1 → dgN (nthN (lst s) i) = true) (fun i hi => by
          rcases (show i < k ∨ i = k by omega) with q | q
          · exact hN.out i q
          · rw [q, E]; exact hd)
        clear E hd hN
        go_wp2_with (go_at_call 34; refine (KD.out _).mono ?_; rintro e w1 ⟨rfl, rfl⟩)
        go_round
        case rel => exact ⟨k + 1, by omega, by simp, NX.out⟩
        case measure => exact ME.out
      | false =>
        rw [hd] at KD
        have Y := Lib.hid (HN.out k hlt (by rw [E]; exact hd))
        clear E hd hN
        go_wp2_with (go_at_call 34; refine (KD.out _).mono ?_; rintro e w1 ⟨rfl, rfl⟩)
        go_ret
        exact ⟨congrArg (fun b => Ending.returned (.bool b)) Y.out, rfl⟩
    · obtain rfl : k = s.size := by omega
      have Y := Lib.hid (HY.out hN.out)
      clear hN
      go_wp2
      go_ret
      exact ⟨by rw [← Y.out]; simp, rfl⟩
theorem nv_next (s : ByteArray) (k : Nat) (hk : k < s.size) (a : Nat) : nvN a ((lst s).drop k) = nvN (10 * a + (s[k].toNat - 48)) ((lst s).drop (k + 1)) := by
  have hl : k < (lst s).length := by rw [lst_len]; exact hk
  have e : ((lst s)[k]'hl).toNat = (s[k]'hk).toNat := by
    have := nth_lst hk
    simp only [nthN] at this
    rw [List.getD_eq_getElem?_getD, List.getElem?_eq_getElem hl, Option.getD_some] at this
    exact this
  rw [List.drop_eq_getElem_cons hl, nvN_cons, e]
set_option maxHeartbeats 1000000 in
theorem rnumber_any (s : ByteArray) (w : World) (hs : s.size ≤ 9223372036854775807) (hd : allD (lst s) = true) :
    Calls Tryd.prog 31 #[.string s] w fun e w' => e = .returned (.int .i64 (numR (lst s))) ∧ w' = w := by
  obtain ⟨R, hR⟩ : ∃ R, numR (lst s) = R := ⟨_, rfl⟩
  have HB := Lib.hid (p := ¬ nvN 0 (lst s) < 9223372036854775808 → (-1 : Int) = R) (fun h => by rw [← hR]; unfold numR; rw [if_neg h])
  have HG := Lib.hid (p := ∀ a : Nat, nvN 0 (lst s) = a → a < 9223372036854775808 → (a : Int) = R) (fun a h h' => by rw [← hR]; unfold numR; rw [h, if_pos h'])
  have HD := Lib.hid (p := ∀ k (hk : k < s.size), 48 ≤ s[k].toNat ∧ s[k].toNat ≤ 57) (fun k hk => by
    have hl : k < (lst s).length := by rw [lst_len]; exact hk
    have h1 := allD_iff.1 hd (lst s)[k] (List.getElem_mem hl)
    have e : nthN (lst s) k = ((lst s)[k]).toNat := by simp [nthN, List.getD, hl]
    rw [← e, nth_lst hk] at h1
    simpa [dgN] using h1)
  rw [hR]
  clear hR hd
  go_enter Tryd.func31, Tryd.ntmps31
  go_wp2
  go_loop [3, 4] (fun x t => ∃ (k a : Nat), k ≤ s.size ∧ a < 9223372036854775808 ∧ x = .int .i64 (a : Int) ∧ t = .int .i64 (k : Int) ∧ RowKit.Hid (nvN a ((lst s).drop k) = nvN 0 (lst s))) (fun _ t => s.size - intV t)
  case atStart => exact ⟨0, 0, by omega, by omega, rfl, rfl, rfl⟩
  case round =>
    obtain ⟨k, a, hk, ha, rfl, rfl, hN⟩ := hrel
    by_cases hlt : k < s.size
    · have kc : (k : Int) < (s.size : Int) := by omega
      obtain ⟨d0, d1⟩ := HD.out k hlt
      have E := nv_next s k hlt a
      rw [hN.out] at E
      have kw : IntKind.i64.wrap ((k : Int) + 1) = (k : Int) + 1 := by simp [IntKind.wrap, IntKind.bits, IntKind.signed]; omega
      have ME := Lib.hid (p := s.size - intV (.int .i64 ((k : Int) + 1)) < s.size - intV (.int .i64 (k : Int))) (by simp only [intV]; omega)
      obtain ⟨c, hc⟩ : ∃ c : Nat, s[k].toNat = c := ⟨_, rfl⟩
      rw [hc] at d0 d1 E
      by_cases hb : 10 * a + (c - 48) < 9223372036854775808
      · have NX := Lib.hid E.symm
        clear E hN
        go_wp2
        go_round
        case rel => exact ⟨k + 1, 10 * a + (c - 48), by omega, hb, by rw [show ((10 * a + (c - 48) : Nat) : Int) = 10 * (a : Int) + ((c : Int) - 48) by omega], by simp, NX.out⟩
        case measure => exact ME.out
      · have Y := Lib.hid (HB.out (by have := nvN_ge ((lst s).drop (k + 1)) (10 * a + (c - 48)); omega))
        clear E hN
        go_wp2
        go_ret
        exact ⟨congrArg (fun b => Ending.returned (.int .i64 b)) Y.out, rfl⟩
    · obtain rfl : k = s.size := by omega
      have E := hN.out
      rw [List.drop_eq_nil_of_le (by rw [lst_len]; exact Nat.le_refl _)] at E
      have Y := Lib.hid (HG.out a E.symm ha)
      clear hN E
      go_wp2
      go_ret
      exact ⟨congrArg (fun b => Ending.returned (.int .i64 b)) Y.out, rfl⟩
end Go.Proofs.YtlihkmhhfnkkoaaDoor
