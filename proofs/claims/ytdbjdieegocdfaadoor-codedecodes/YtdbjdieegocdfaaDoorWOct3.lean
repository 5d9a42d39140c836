/-
  WALK: varint (made by wip/gen/gen_varint.py).
-/
import Derived.Test.YtdbjdieegocdfaaDoorWOct2
namespace Go.Proofs.YtdbjdieegocdfaaDoor
open Go.RowKit
set_option linter.unusedVariables false
set_option linter.unusedSimpArgs false

theorem ret3 {a a' : Nat} {b b' : Nat} {c c' : Int} (h : (a, b, c) = (a', b', c')) : Ending.returned (.tuple #[.int .u64 (a : Int), .int .i64 (b : Int), .int .i64 c]) = .returned (.tuple #[.int .u64 (a' : Int), .int .i64 (b' : Int), .int .i64 c']) := by
  injection h with h1 h2; injection h2 with h2 h3; subst h1 h2 h3; rfl
theorem ret3' {a : Nat} {b : Nat} {c : Int} {r : Nat × Nat × Int} (h : r = (a, b, c)) : Ending.returned (.tuple #[.int .u64 (a : Int), .int .i64 (b : Int), .int .i64 c]) = .returned (.tuple #[.int .u64 (r.1 : Int), .int .i64 (r.2.1 : Int), .int .i64 r.2.2]) := by rw [h]

set_option maxRecDepth 100000 in
theorem varint_nil (a : Option Addr) (cap : Nat) (w : World) :
    Calls Tryd.prog 39 #[.slice a 0 cap] w fun e w' => e = .returned (.tuple #[.int .u64 ((rd []).1 : Int), .int .i64 ((rd []).2.1 : Int), .int .i64 (rd []).2.2]) ∧ w' = w := by
  go_enter Tryd.func39, Tryd.ntmps39
  go_wp2
  go_loop [14] (fun t => t = .int .i64 0) (fun t => 0)
  case atStart => rfl
  case round =>
    subst hrel
    go_wp2
    go_ret3
    exact ⟨ret3' (by decide), rfl⟩

set_option maxRecDepth 100000 in
set_option maxHeartbeats 4000000 in
theorem varint_short (b o : Nat) (n cap : Nat) (xs : List Int) (w : World) (hcap : n ≤ cap) (h0 : 0 < n) (h10 : n ≤ 10) (h1 : xs.length = n) (h2 : n ≤ 140737488355328) (h3 : ∀ c ∈ xs, 0 ≤ c ∧ c ≤ 255) (hb : b < w.heap.size) (hc : ∀ i, i < n → w.cell? ⟨b, o + i, none⟩ = some (.int .u8 (xs.getD i 0))) :
    Calls Tryd.prog 39 #[.slice (some ⟨b, o, none⟩) n cap] w fun e w' => e = .returned (.tuple #[.int .u64 ((rd xs).1 : Int), .int .i64 ((rd xs).2.1 : Int), .int .i64 (rd xs).2.2]) ∧ w' = w := by
  have ST := Lib.hid (acc_start xs)
  have HC := Lib.hid hc
  have H1 := Lib.hid h1
  have H3 := Lib.hid h3
  have i10 : (n : Int) ≤ 10 := by omega
  have c0 : ¬ cap = 0 := by omega
  have hc10 : n ≤ cap := by omega
  clear hc h1 h3
  go_enter Tryd.func39, Tryd.ntmps39
  go_wp2
  go_loop [5, 14] (fun s t => ∃ (k X : Nat), k ≤ n ∧ s = .int .u64 (X : Int) ∧ t = .int .i64 (k : Int) ∧ X < 18446744073709551616 ∧ RowKit.Hid (k < 10 → X < 128 ^ k ∧ rd xs = acc X k (rdf k (xs.drop k))) ∧ RowKit.Hid (k = 10 → rd xs = (0, 0, 42))) (fun _ t => n - (intOf t).toNat)
  case atStart => exact ⟨0, 0, by omega, rfl, rfl, by omega, fun _ => ⟨by simp, by simpa using ST.out⟩, fun h => by omega⟩
  case round =>
    obtain ⟨k, X, hk, rfl, rfl, hX, hI, hE⟩ := hrel
    by_cases hlt : k < n
    · have hl : k < xs.length := by rw [H1.out]; omega
      have hcell := HC.out k (by omega)
      obtain ⟨c, hcc⟩ : ∃ c : Int, xs.getD k 0 = c := ⟨_, rfl⟩
      have hc01 := H3.out c (by rw [← hcc]; simp [List.getD, hl])
      obtain ⟨i1, i2⟩ := hI.out (by omega)
      rw [hcc] at hcell
      have kc : (k : Int) < (n : Int) := by omega
      have SH := Lib.hid (p := ∀ d : Nat, IntKind.u64.wrap ((d : Int) * 2 ^ (7 * k)) = (((128 ^ k * d) % 18446744073709551616 : Nat) : Int)) (fun d => by
        have e : (d : Int) * 2 ^ (7 * k) = ((128 ^ k * d : Nat) : Int) := by
          rw [show (128 : Nat) ^ k = 2 ^ (7 * k) by rw [Nat.pow_mul]]
          rw [Nat.mul_comm]; simp [Int.mul_comm]
        rw [e]
        simp [IntKind.wrap, IntKind.bits, IntKind.signed])
      have I1 := Lib.hid i1
      have I2 := Lib.hid i2
      obtain ⟨d, rfl⟩ : ∃ d : Nat, c = (d : Int) := ⟨c.toNat, by omega⟩
      clear i1 i2
      by_cases h128 : d < 128
      · have g1 : (d : Int) < 128 := by omega
        have LAST := Lib.hid (acc_last (X := X) (by omega : k < 10) hl hcc g1)
        clear hcc hl
        by_cases bad : (0 < k ∧ d = 0) ∨ (k = 9 ∧ 1 < d)
        · have BAD := Lib.hid (p := rd xs = (0, 0, 42)) (by rw [I2.out, LAST.out, if_pos (by omega)])
          rcases bad with ⟨b1, rfl⟩ | ⟨rfl, b2⟩
          · have b1' : (0 : Int) < (k : Int) := by omega
            go_wp2
            go_ret3
            exact ⟨ret3' BAD.out, rfl⟩
          · have b2' : (1 : Int) < (d : Int) := by omega
            have b3 : ((d : Int) == 0) = false := by simp; omega
            go_wp2
            go_ret3
            exact ⟨ret3' BAD.out, rfl⟩
        · have GOOD := Lib.hid (p := rd xs = (X + 128 ^ k * d, k + 1, 0)) (by rw [I2.out, LAST.out, if_neg (by omega)]; simp)
          have hp : 128 ^ k * d < 18446744073709551616 := by
            rcases Nat.lt_or_ge k 9 with q | q
            · have : 128 ^ k ≤ 128 ^ 8 := Nat.pow_le_pow_right (by omega) (by omega)
              have h1 : 128 ^ k * d ≤ 128 ^ 8 * 127 := Nat.mul_le_mul this (by omega)
              exact Nat.lt_of_le_of_lt h1 (by decide)
            · have : k = 9 := by omega
              subst this
              have : d ≤ 1 := by omega
              have h1 : 128 ^ 9 * d ≤ 128 ^ 9 * 1 := Nat.mul_le_mul (Nat.le_refl _) this
              exact Nat.lt_of_le_of_lt h1 (by decide)
          have s1 := SH.out d
          rw [Nat.mod_eq_of_lt hp] at s1
          have o1 := or_step X k d I1.out hp hX
          generalize hP : 128 ^ k * d = P at *
          have PE := Lib.hid hP
          clear hP
          rcases Nat.eq_zero_or_pos k with k0 | k0
          · have k1 : ¬ (0 : Int) < (k : Int) := by omega
            have k9' : ((k : Int) == 9) = false := by simp; omega
            have k9'' : ¬ (k : Int) = 9 := by omega
            clear k0
            go_wp2
            go_ret3
            exact ⟨ret3' GOOD.out, rfl⟩
          · have d0 : ((d : Int) == 0) = false := by simp; omega
            have k1 : (0 : Int) < (k : Int) := by omega
            rcases (show k = 9 ∨ ¬ k = 9 by omega) with k9 | k9
            · subst k9
              have o2 : bits .or .u64 (X : Int) ((d : Int) * 9223372036854775808) = ((X + P : Nat) : Int) := by
                rw [← o1]; congr 1
                have := PE.out
                rw [show (128 : Nat) ^ 9 = 9223372036854775808 by decide] at this
                omega
              have d1 : ¬ (1 : Int) < (d : Int) := by omega
              go_wp2
              go_ret3
              exact ⟨ret3' GOOD.out, rfl⟩
            · have k9' : ((k : Int) == 9) = false := by simp; omega
              have k9'' : ¬ (k : Int) = 9 := by omega
              go_wp2
              go_ret3
              exact ⟨ret3' GOOD.out, rfl⟩
      · have g1 : ¬ (d : Int) < 128 := by omega
        have STEP := Lib.hid (acc_step (X := X) (by omega : k < 10) hl hcc (by omega))
        have u1 : IntKind.u8.wrap ((d : Int) - 128) = ((d - 128 : Nat) : Int) := by simp [IntKind.wrap, IntKind.bits, IntKind.signed]; omega
        have s1 := SH.out (d - 128)
        obtain ⟨U, hU, hU2, hU3⟩ : ∃ U : Nat, bits .or .u64 (X : Int) (((128 ^ k * (d - 128)) % 18446744073709551616 : Nat) : Int) = (U : Int) ∧ U < 18446744073709551616 ∧ (k < 9 → U = X + 128 ^ k * (d - 128) ∧ U < 128 ^ (k + 1)) := by
          rw [u64_or_nat X _ hX (by omega)]
          refine ⟨_, rfl, ?_, fun q => ?_⟩
          · have := Nat.or_lt_two_pow (n := 64) (x := X) (y := (128 ^ k * (d - 128)) % 18446744073709551616) (by simpa using hX) (by simpa using Nat.mod_lt _ (by omega))
            simpa using this
          · have hp : 128 ^ k * (d - 128) < 18446744073709551616 := by
              have : 128 ^ k ≤ 128 ^ 8 := Nat.pow_le_pow_right (by omega) (by omega)
              have h1 : 128 ^ k * (d - 128) ≤ 128 ^ 8 * 127 := Nat.mul_le_mul this (by omega)
              exact Nat.lt_of_le_of_lt h1 (by decide)
            have o1 := or_step X k (d - 128) I1.out hp hX
            rw [u64_or_nat X _ hX hp] at o1
            rw [Nat.mod_eq_of_lt hp]
            have o2 : X ||| 128 ^ k * (d - 128) = X + 128 ^ k * (d - 128) := by exact_mod_cast o1
            refine ⟨o2, ?_⟩
            rw [o2, Nat.pow_succ]
            have h1 : 128 ^ k * (d - 128) ≤ 128 ^ k * 127 := Nat.mul_le_mul (Nat.le_refl _) (by omega)
            have := I1.out
            omega
        have NX := Lib.hid (p := k + 1 < 10 → U < 128 ^ (k + 1) ∧ rd xs = acc U (k + 1) (rdf (k + 1) (xs.drop (k + 1)))) (fun q => by
          obtain ⟨q1, q2⟩ := hU3 (by omega)
          refine ⟨q2, ?_⟩
          rw [I2.out, STEP.out, q1, show ((d : Int)).toNat % 128 = d - 128 by omega])
        have NE := Lib.hid (p := k + 1 = 10 → rd xs = (0, 0, 42)) (fun q => by
          rw [I2.out, STEP.out, rdf_end q]; rfl)
        clear hU3 hcc hl
        generalize hS : (128 ^ k * (d - 128)) % 18446744073709551616 = S at *
        generalize hD : d - 128 = D at *
        clear hS
        go_wp2
        go_round
        case rel => exact ⟨k + 1, U, by omega, rfl, by go_num, hU2, NX.out, NE.out⟩
        case measure => simp [intOf]; omega
    · obtain rfl : k = n := by omega
      have R := Lib.hid (p := rd xs = (0, 0, if k = 10 then 42 else 41)) (by
        by_cases q : k = 10
        · rw [if_pos q]; exact hE.out q
        · rw [if_neg q, (hI.out (by omega)).2, List.drop_of_length_le (by rw [H1.out]; omega), rdf_nil (by omega)]; rfl)
      by_cases q : k = 10
      · have q2 : ¬ (k : Int) < 10 := by omega
        rw [if_pos q] at R
        go_wp2
        go_ret3
        exact ⟨ret3' R.out, rfl⟩
      · have q2 : (k : Int) < 10 := by omega
        rw [if_neg q] at R
        go_wp2
        go_ret3
        exact ⟨ret3' R.out, rfl⟩


set_option maxRecDepth 100000 in
set_option maxHeartbeats 4000000 in
theorem varint_long (b o : Nat) (n cap : Nat) (xs : List Int) (w : World) (hcap : n ≤ cap) (h0 : 0 < n) (h10 : 10 < n) (h1 : xs.length = n) (h2 : n ≤ 140737488355328) (h3 : ∀ c ∈ xs, 0 ≤ c ∧ c ≤ 255) (hb : b < w.heap.size) (hc : ∀ i, i < n → w.cell? ⟨b, o + i, none⟩ = some (.int .u8 (xs.getD i 0))) :
    Calls Tryd.prog 39 #[.slice (some ⟨b, o, none⟩) n cap] w fun e w' => e = .returned (.tuple #[.int .u64 ((rd xs).1 : Int), .int .i64 ((rd xs).2.1 : Int), .int .i64 (rd xs).2.2]) ∧ w' = w := by
  have ST := Lib.hid (acc_start xs)
  have HC := Lib.hid hc
  have H1 := Lib.hid h1
  have H3 := Lib.hid h3
  have i10 : ¬ (n : Int) ≤ 10 := by omega
  have c0 : ¬ cap = 0 := by omega
  have hc10 : 10 ≤ cap := by omega
  clear hc h1 h3
  go_enter Tryd.func39, Tryd.ntmps39
  go_wp2
  go_loop [5, 14] (fun s t => ∃ (k X : Nat), k ≤ 10 ∧ s = .int .u64 (X : Int) ∧ t = .int .i64 (k : Int) ∧ X < 18446744073709551616 ∧ RowKit.Hid (k < 10 → X < 128 ^ k ∧ rd xs = acc X k (rdf k (xs.drop k))) ∧ RowKit.Hid (k = 10 → rd xs = (0, 0, 42))) (fun _ t => 10 - (intOf t).toNat)
  case atStart => exact ⟨0, 0, by omega, rfl, rfl, by omega, fun _ => ⟨by simp, by simpa using ST.out⟩, fun h => by omega⟩
  case round =>
    obtain ⟨k, X, hk, rfl, rfl, hX, hI, hE⟩ := hrel
    by_cases hlt : k < 10
    · have hl : k < xs.length := by rw [H1.out]; omega
      have hcell := HC.out k (by omega)
      obtain ⟨c, hcc⟩ : ∃ c : Int, xs.getD k 0 = c := ⟨_, rfl⟩
      have hc01 := H3.out c (by rw [← hcc]; simp [List.getD, hl])
      obtain ⟨i1, i2⟩ := hI.out (by omega)
      rw [hcc] at hcell
      have kc : (k : Int) < 10 := by omega
      have SH := Lib.hid (p := ∀ d : Nat, IntKind.u64.wrap ((d : Int) * 2 ^ (7 * k)) = (((128 ^ k * d) % 18446744073709551616 : Nat) : Int)) (fun d => by
        have e : (d : Int) * 2 ^ (7 * k) = ((128 ^ k * d : Nat) : Int) := by
          rw [show (128 : Nat) ^ k = 2 ^ (7 * k) by rw [Nat.pow_mul]]
          rw [Nat.mul_comm]; simp [Int.mul_comm]
        rw [e]
        simp [IntKind.wrap, IntKind.bits, IntKind.signed])
      have I1 := Lib.hid i1
      have I2 := Lib.hid i2
      obtain ⟨d, rfl⟩ : ∃ d : Nat, c = (d : Int) := ⟨c.toNat, by omega⟩
      clear i1 i2
      by_cases h128 : d < 128
      · have g1 : (d : Int) < 128 := by omega
        have LAST := Lib.hid (acc_last (X := X) (by omega : k < 10) hl hcc g1)
        clear hcc hl
        by_cases bad : (0 < k ∧ d = 0) ∨ (k = 9 ∧ 1 < d)
        · have BAD := Lib.hid (p := rd xs = (0, 0, 42)) (by rw [I2.out, LAST.out, if_pos (by omega)])
          rcases bad with ⟨b1, rfl⟩ | ⟨rfl, b2⟩
          · have b1' : (0 : Int) < (k : Int) := by omega
            go_wp2
            go_ret3
            exact ⟨ret3' BAD.out, rfl⟩
          · have b2' : (1 : Int) < (d : Int) := by omega
            have b3 : ((d : Int) == 0) = false := by simp; omega
            go_wp2
            go_ret3
            exact ⟨ret3' BAD.out, rfl⟩
        · have GOOD := Lib.hid (p := rd xs = (X + 128 ^ k * d, k + 1, 0)) (by rw [I2.out, LAST.out, if_neg (by omega)]; simp)
          have hp : 128 ^ k * d < 18446744073709551616 := by
            rcases Nat.lt_or_ge k 9 with q | q
            · have : 128 ^ k ≤ 128 ^ 8 := Nat.pow_le_pow_right (by omega) (by omega)
              have h1 : 128 ^ k * d ≤ 128 ^ 8 * 127 := Nat.mul_le_mul this (by omega)
              exact Nat.lt_of_le_of_lt h1 (by decide)
            · have : k = 9 := by omega
              subst this
              have : d ≤ 1 := by omega
              have h1 : 128 ^ 9 * d ≤ 128 ^ 9 * 1 := Nat.mul_le_mul (Nat.le_refl _) this
              exact Nat.lt_of_le_of_lt h1 (by decide)
          have s1 := SH.out d
          rw [Nat.mod_eq_of_lt hp] at s1
          have o1 := or_step X k d I1.out hp hX
          generalize hP : 128 ^ k * d = P at *
          have PE := Lib.hid hP
          clear hP
          rcases Nat.eq_zero_or_pos k with k0 | k0
          · have k1 : ¬ (0 : Int) < (k : Int) := by omega
            have k9' : ((k : Int) == 9) = false := by simp; omega
            have k9'' : ¬ (k : Int) = 9 := by omega
            clear k0
            go_wp2
            go_ret3
            exact ⟨ret3' GOOD.out, rfl⟩
          · have d0 : ((d : Int) == 0) = false := by simp; omega
            have k1 : (0 : Int) < (k : Int) := by omega
            rcases (show k = 9 ∨ ¬ k = 9 by omega) with k9 | k9
            · subst k9
              have o2 : bits .or .u64 (X : Int) ((d : Int) * 9223372036854775808) = ((X + P : Nat) : Int) := by
                rw [← o1]; congr 1
                have := PE.out
                rw [show (128 : Nat) ^ 9 = 9223372036854775808 by decide] at this
                omega
              have d1 : ¬ (1 : Int) < (d : Int) := by omega
              go_wp2
              go_ret3
              exact ⟨ret3' GOOD.out, rfl⟩
            · have k9' : ((k : Int) == 9) = false := by simp; omega
              have k9'' : ¬ (k : Int) = 9 := by omega
              go_wp2
              go_ret3
              exact ⟨ret3' GOOD.out, rfl⟩
      · have g1 : ¬ (d : Int) < 128 := by omega
        have STEP := Lib.hid (acc_step (X := X) (by omega : k < 10) hl hcc (by omega))
        have u1 : IntKind.u8.wrap ((d : Int) - 128) = ((d - 128 : Nat) : Int) := by simp [IntKind.wrap, IntKind.bits, IntKind.signed]; omega
        have s1 := SH.out (d - 128)
        obtain ⟨U, hU, hU2, hU3⟩ : ∃ U : Nat, bits .or .u64 (X : Int) (((128 ^ k * (d - 128)) % 18446744073709551616 : Nat) : Int) = (U : Int) ∧ U < 18446744073709551616 ∧ (k < 9 → U = X + 128 ^ k * (d - 128) ∧ U < 128 ^ (k + 1)) := by
          rw [u64_or_nat X _ hX (by omega)]
          refine ⟨_, rfl, ?_, fun q => ?_⟩
          · have := Nat.or_lt_two_pow (n := 64) (x := X) (y := (128 ^ k * (d - 128)) % 18446744073709551616) (by simpa using hX) (by simpa using Nat.mod_lt _ (by omega))
            simpa using this
          · have hp : 128 ^ k * (d - 128) < 18446744073709551616 := by
              have : 128 ^ k ≤ 128 ^ 8 := Nat.pow_le_pow_right (by omega) (by omega)
              have h1 : 128 ^ k * (d - 128) ≤ 128 ^ 8 * 127 := Nat.mul_le_mul this (by omega)
              exact Nat.lt_of_le_of_lt h1 (by decide)
            have o1 := or_step X k (d - 128) I1.out hp hX
            rw [u64_or_nat X _ hX hp] at o1
            rw [Nat.mod_eq_of_lt hp]
            have o2 : X ||| 128 ^ k * (d - 128) = X + 128 ^ k * (d - 128) := by exact_mod_cast o1
            refine ⟨o2, ?_⟩
            rw [o2, Nat.pow_succ]
            have h1 : 128 ^ k * (d - 128) ≤ 128 ^ k * 127 := Nat.mul_le_mul (Nat.le_refl _) (by omega)
            have := I1.out
            omega
        have NX := Lib.hid (p := k + 1 < 10 → U < 128 ^ (k + 1) ∧ rd xs = acc U (k + 1) (rdf (k + 1) (xs.drop (k + 1)))) (fun q => by
          obtain ⟨q1, q2⟩ := hU3 (by omega)
          refine ⟨q2, ?_⟩
          rw [I2.out, STEP.out, q1, show ((d : Int)).toNat % 128 = d - 128 by omega])
        have NE := Lib.hid (p := k + 1 = 10 → rd xs = (0, 0, 42)) (fun q => by
          rw [I2.out, STEP.out, rdf_end q]; rfl)
        clear hU3 hcc hl
        generalize hS : (128 ^ k * (d - 128)) % 18446744073709551616 = S at *
        generalize hD : d - 128 = D at *
        clear hS
        go_wp2
        go_round
        case rel => exact ⟨k + 1, U, by omega, rfl, by go_num, hU2, NX.out, NE.out⟩
        case measure => simp [intOf]; omega
    · obtain rfl : k = 10 := by omega
      have R := Lib.hid (p := rd xs = (0, 0, 42)) (hE.out rfl)
      have q2 : ¬ (n : Int) < 10 := by omega
      go_wp2
      go_ret3
      exact ⟨ret3' R.out, rfl⟩


theorem varint_any (a : Option Addr) (n cap : Nat) (xs : List Int) (w : World) (hcap : n ≤ cap) (h : BL w a n xs) :
    Calls Tryd.prog 39 #[.slice a n cap] w fun e w' => e = .returned (.tuple #[.int .u64 ((rd xs).1 : Int), .int .i64 ((rd xs).2.1 : Int), .int .i64 (rd xs).2.2]) ∧ w' = w := by
  obtain ⟨h1, h2, h3, h4⟩ := h
  rcases Nat.eq_zero_or_pos n with rfl | hn
  · have : xs = [] := List.length_eq_zero_iff.1 h1
    subst this
    exact varint_nil a cap w
  · rcases h4 with h4 | ⟨b, o, rfl, hb, hc⟩
    · omega
    · by_cases h10 : n ≤ 10
      · exact varint_short b o n cap xs w hcap hn h10 h1 h2 h3 hb hc
      · exact varint_long b o n cap xs w hcap hn (by omega) h1 h2 h3 hb hc
end Go.Proofs.YtdbjdieegocdfaaDoor
