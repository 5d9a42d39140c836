/-
  WALK: the document's dated.
-/
import Derived.Test.YtlihkmhhfnkkoaaDoorWRefLex3
namespace Go.Proofs.YtlihkmhhfnkkoaaDoor
open Go.RowKit Lx
set_option linter.unusedVariables false
set_option linter.unusedSimpArgs false

theorem ten_of {r : L} (h : 10 ≤ r.length) : ∃ a0 a1 a2 a3 a4 a5 a6 a7 a8 a9 q, r = a0 :: a1 :: a2 :: a3 :: a4 :: a5 :: a6 :: a7 :: a8 :: a9 :: q := by
  match r, h with
  | a0 :: a1 :: a2 :: a3 :: a4 :: a5 :: a6 :: a7 :: a8 :: a9 :: q, _ => exact ⟨a0, a1, a2, a3, a4, a5, a6, a7, a8, a9, q, rfl⟩
theorem at_drop {s : ByteArray} {at_ i : Nat} {c : UInt8} (h : at_ + i < s.size) (e : ((lst s).drop at_).getD i 0 = c) : s[at_ + i].toNat = c.toNat := by
  rw [← nth_lst h, ← e]
  simp [nthN, List.getD]
theorem mid_drop (s : ByteArray) (at_ a b : Nat) (hb : at_ + b ≤ s.size) (ha : a ≤ b) : ((lst s).take (at_ + b)).drop (at_ + a) = (((lst s).drop at_).drop a).take (b - a) := by
  rw [List.drop_take, List.drop_drop, show at_ + b - (at_ + a) = b - a by omega]
theorem dig_bs (l : L) (hl : l.length ≤ 100) (h0 : 0 < l.length) (w : World) : Calls Tryd.prog 44 #[.string (bs l)] w fun e w' => e = .returned (.bool (allD l)) ∧ w' = w := by
  have := rdigits_any (bs l) w (by rw [bs_size]; omega)
  rw [lst_bs, bs_size, decide_eq_true h0, Bool.and_true] at this
  exact this
set_option maxHeartbeats 2000000 in
theorem rdated_any (s : ByteArray) (at_ : Nat) (w : World) (hs : s.size ≤ 65536) (ha : at_ ≤ s.size) :
    Calls Tryd.prog 30 #[.string s, .int .i64 (at_ : Int)] w fun e w' => e = .returned (.bool (fits form ((lst s).drop at_))) ∧ w' = w := by
  by_cases h10 : s.size < at_ + 10
  · rw [fits_short (by rw [List.length_drop, lst_len]; omega)]
    have q : (s.size : Int) < (at_ : Int) + 10 := by omega
    clear h10
    go_enter Tryd.func30, Tryd.ntmps30
    go_wp2
    go_ret
    exact ⟨rfl, rfl⟩
  · have q : decide ((s.size : Int) < (at_ : Int) + 10) = false := decide_eq_false (by omega)
    obtain ⟨a0, a1, a2, a3, a4, a5, a6, a7, a8, a9, r, hr⟩ := ten_of (r := (lst s).drop at_) (by rw [List.length_drop, lst_len]; omega)
    rw [hr, fits_parts]
    have z4 : at_ + 4 < s.size := by omega
    have z7 : at_ + 7 < s.size := by omega
    have e4 : s[at_ + 4].toNat = a4.toNat := at_drop z4 (by rw [hr]; rfl)
    have e7 : s[at_ + 7].toNat = a7.toNat := at_drop z7 (by rw [hr]; rfl)
    have s1 := cutMidR s (at_ : Int) ((at_ : Int) + 4) (by omega) (by omega) (by omega)
    have s2 := cutMidR s ((at_ : Int) + 5) ((at_ : Int) + 7) (by omega) (by omega) (by omega)
    have s3 := cutMidR s ((at_ : Int) + 8) ((at_ : Int) + 10) (by omega) (by omega) (by omega)
    rw [Int.toNat_natCast, show ((at_ : Int) + 4).toNat = at_ + 4 by omega, show ((lst s).take (at_ + 4)).drop at_ = [a0, a1, a2, a3] by have := mid_drop s at_ 0 4 (by omega) (by omega); rw [Nat.add_zero] at this; rw [this, hr]; rfl] at s1
    rw [show ((at_ : Int) + 5).toNat = at_ + 5 by omega, show ((at_ : Int) + 7).toNat = at_ + 7 by omega, mid_drop s at_ 5 7 (by omega) (by omega), hr, show (List.take (7 - 5) (List.drop 5 (a0 :: a1 :: a2 :: a3 :: a4 :: a5 :: a6 :: a7 :: a8 :: a9 :: r))) = [a5, a6] from rfl] at s2
    rw [show ((at_ : Int) + 8).toNat = at_ + 8 by omega, show ((at_ : Int) + 10).toNat = at_ + 10 by omega, mid_drop s at_ 8 10 (by omega) (by omega), hr, show (List.take (10 - 8) (List.drop 8 (a0 :: a1 :: a2 :: a3 :: a4 :: a5 :: a6 :: a7 :: a8 :: a9 :: r))) = [a8, a9] from rfl] at s3
    have K1 := Lib.hid (fun W => dig_bs [a0, a1, a2, a3] (by simp) (by simp) W)
    have K2 := Lib.hid (fun W => dig_bs [a5, a6] (by simp) (by simp) W)
    have K3 := Lib.hid (fun W => dig_bs [a8, a9] (by simp) (by simp) W)
    have TL : fits [] r = (decide (s.size ≤ at_ + 10) || !rnN (nthN (lst s) (at_ + 10))) := by
      have := fits_end ((lst s).drop at_)
      rw [List.length_drop, lst_len, hr] at this
      rw [show (form.drop 10) = [] from rfl, show (a0 :: a1 :: a2 :: a3 :: a4 :: a5 :: a6 :: a7 :: a8 :: a9 :: r).drop 10 = r from rfl] at this
      rw [this, ← hr]
      have e : nthN ((lst s).drop at_) 10 = nthN (lst s) (at_ + 10) := by simp [nthN, List.getD]
      rw [e]
      congr 1
      by_cases hx : s.size ≤ at_ + 10
      · rw [decide_eq_true hx, decide_eq_true (by omega)]
      · rw [decide_eq_false hx, decide_eq_false (by omega)]
    rw [TL]
    generalize bs [a0, a1, a2, a3] = b1 at *
    generalize bs [a5, a6] = b2 at *
    generalize bs [a8, a9] = b3 at *
    generalize allD [a0, a1, a2, a3] = v1 at *
    generalize allD [a5, a6] = v2 at *
    generalize allD [a8, a9] = v3 at *
    clear hr TL
    have w4 : IntKind.i64.wrap ((at_ : Int) + 4) = (at_ : Int) + 4 := by simp [IntKind.wrap, IntKind.bits, IntKind.signed]; omega
    by_cases h4 : a4.toNat = 45
    · rw [decide_eq_true h4, Bool.true_and]
      have p4 : ((s[at_ + 4].toNat : Int) != 45) = false := by rw [e4, h4]; rfl
      by_cases h7 : a7.toNat = 45
      · rw [decide_eq_true h7, Bool.true_and]
        have p7 : ((s[at_ + 7].toNat : Int) != 45) = false := by rw [e7, h7]; rfl
        clear e4 e7 h4 h7
        by_cases hx : s.size ≤ at_ + 10
        · rw [decide_eq_true hx, Bool.true_or, Bool.true_and]
          have px : decide ((at_ : Int) + 10 < (s.size : Int)) = false := decide_eq_false (by omega)
          have P1 := Lib.hid (p := (1 : Nat) = 1) rfl
          have P2 := Lib.hid (p := (1 : Nat) = 1) rfl
          cases v1 with
          | false =>
            go_enter Tryd.func30, Tryd.ntmps30
            go_wp2_with (first | (go_at_call 44; have qq := P1; refine (K1.out _).mono ?_; rintro e w' ⟨rfl, rfl⟩; clear P1))
            go_ret
            exact ⟨rfl, rfl⟩
          | true =>
            cases v2 with
            | false =>
              go_enter Tryd.func30, Tryd.ntmps30
              go_wp2_with (first | (go_at_call 44; have qq := P1; refine (K1.out _).mono ?_; rintro e w' ⟨rfl, rfl⟩; clear P1) | (go_at_call 44; have qq := P2; refine (K2.out _).mono ?_; rintro e w' ⟨rfl, rfl⟩; clear P2))
              go_ret
              exact ⟨rfl, rfl⟩
            | true =>
              go_enter Tryd.func30, Tryd.ntmps30
              go_wp2_with (first | (go_at_call 44; have qq := P1; refine (K1.out _).mono ?_; rintro e w' ⟨rfl, rfl⟩; clear P1) | (go_at_call 44; have qq := P2; refine (K2.out _).mono ?_; rintro e w' ⟨rfl, rfl⟩; clear P2) | (go_at_call 44; refine (K3.out _).mono ?_; rintro e w' ⟨rfl, rfl⟩))
              go_ret
              exact ⟨rfl, rfl⟩
        · rw [decide_eq_false hx, Bool.false_or]
          have z10 : at_ + 10 < s.size := by omega
          have px : (at_ : Int) + 10 < (s.size : Int) := by omega
          rw [nth_lst z10]
          have KR := Lib.hid (fun W => rruns_any (s[at_ + 10].toNat) W)
          cases hrn : rnN (s[at_ + 10].toNat) with
          | true =>
            rw [hrn] at KR
            clear hrn
            go_enter Tryd.func30, Tryd.ntmps30
            go_wp2_with (go_at_call 43; refine (KR.out _).mono ?_; rintro e w' ⟨rfl, rfl⟩)
            go_ret
            exact ⟨rfl, rfl⟩
          | false =>
            rw [hrn] at KR
            clear hrn
            rw [Bool.not_false, Bool.true_and]
            have P1 := Lib.hid (p := (1 : Nat) = 1) rfl
            have P2 := Lib.hid (p := (1 : Nat) = 1) rfl
            cases v1 with
            | false =>
              go_enter Tryd.func30, Tryd.ntmps30
              go_wp2_with (first | (go_at_call 43; refine (KR.out _).mono ?_; rintro e w' ⟨rfl, rfl⟩) | (go_at_call 44; have qq := P1; refine (K1.out _).mono ?_; rintro e w' ⟨rfl, rfl⟩; clear P1))
              go_ret
              exact ⟨rfl, rfl⟩
            | true =>
              cases v2 with
              | false =>
                go_enter Tryd.func30, Tryd.ntmps30
                go_wp2_with (first | (go_at_call 43; refine (KR.out _).mono ?_; rintro e w' ⟨rfl, rfl⟩) | (go_at_call 44; have qq := P1; refine (K1.out _).mono ?_; rintro e w' ⟨rfl, rfl⟩; clear P1) | (go_at_call 44; have qq := P2; refine (K2.out _).mono ?_; rintro e w' ⟨rfl, rfl⟩; clear P2))
                go_ret
                exact ⟨rfl, rfl⟩
              | true =>
                go_enter Tryd.func30, Tryd.ntmps30
                go_wp2_with (first | (go_at_call 43; refine (KR.out _).mono ?_; rintro e w' ⟨rfl, rfl⟩) | (go_at_call 44; have qq := P1; refine (K1.out _).mono ?_; rintro e w' ⟨rfl, rfl⟩; clear P1) | (go_at_call 44; have qq := P2; refine (K2.out _).mono ?_; rintro e w' ⟨rfl, rfl⟩; clear P2) | (go_at_call 44; refine (K3.out _).mono ?_; rintro e w' ⟨rfl, rfl⟩))
                go_ret
                exact ⟨rfl, rfl⟩
      · rw [decide_eq_false h7, Bool.false_and]
        have p7 : ((s[at_ + 7].toNat : Int) != 45) = true := by rw [bne_iff_ne, e7]; omega
        clear e4 e7 h4 h7
        go_enter Tryd.func30, Tryd.ntmps30
        go_wp2
        go_ret
        exact ⟨rfl, rfl⟩
    · rw [decide_eq_false h4, Bool.false_and]
      have p4 : ((s[at_ + 4].toNat : Int) != 45) = true := by rw [bne_iff_ne, e4]; omega
      clear e4 e7 h4
      go_enter Tryd.func30, Tryd.ntmps30
      go_wp2
      go_ret
      exact ⟨rfl, rfl⟩
end Go.Proofs.YtlihkmhhfnkkoaaDoor
