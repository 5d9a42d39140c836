/-
  WALKS: capital names, the program's and the document's; column.
-/
import Derived.Test.YthkeoeobpdminaaDoorRows
import Derived.Test.YthkeoeobpdminaaDoorOpenTab
import Derived.WalkKit
import Derived.WalkSpells
import Derived.BigCall
import Derived.BigGuard
import Derived.BigQuiet
import Derived.Deep.QuietTactic
import Derived.Lib.Hide
namespace Go.Proofs.YthkeoeobpdminaaDoor
open Go.RowKit
set_option linter.unusedVariables false
set_option linter.unusedSimpArgs false

theorem retT_bool {a b : Bool} (h : a = b) : Ending.returned (.bool a) = .returned (.bool b) := by rw [h]
theorem retT_int {k : IntKind} {a b : Int} (h : a = b) : Ending.returned (.int k a) = .returned (.int k b) := by rw [h]
def at8 (s : ByteArray) (i : Nat) : Int := if h : i < s.size then (s[i].toNat : Int) else 0
theorem at8_lt {s : ByteArray} {i : Nat} (h : i < s.size) : at8 s i = (s[i].toNat : Int) := by unfold at8; rw [dif_pos h]
def upB (c : Int) : Bool := decide (65 ≤ c ∧ c ≤ 90)
def dgB (c : Int) : Bool := decide (48 ≤ c ∧ c ≤ 57)
def okB (c : Int) : Bool := upB c || dgB c || decide (c = 95)
/-- A capital name. -/
def nameB (s : ByteArray) : Bool := decide (1 ≤ s.size ∧ s.size ≤ 31) && (upB (at8 s 0) && (List.range s.size).all fun i => okB (at8 s i))
theorem name_size {s : ByteArray} (h : ¬ (1 ≤ s.size ∧ s.size ≤ 31)) : nameB s = false := by unfold nameB; rw [decide_eq_false h, Bool.false_and]
theorem name_first {s : ByteArray} (h : upB (at8 s 0) = false) : nameB s = false := by unfold nameB; rw [h]; simp
theorem name_bad {s : ByteArray} {i : Nat} (hi : i < s.size) (h : okB (at8 s i) = false) : nameB s = false := by
  unfold nameB
  rw [Bool.and_eq_false_iff]; right
  rw [Bool.and_eq_false_iff]; right
  rw [List.all_eq_false]
  exact ⟨i, List.mem_range.2 hi, by rw [h]; simp⟩
theorem name_good {s : ByteArray} (h : 1 ≤ s.size ∧ s.size ≤ 31) (h0 : upB (at8 s 0) = true) (k : ∀ i, i < s.size → okB (at8 s i) = true) : nameB s = true := by
  unfold nameB
  rw [decide_eq_true h, h0, Bool.true_and, Bool.true_and, List.all_eq_true]
  exact fun i hi => k i (List.mem_range.1 hi)
theorem ok_up {c : Int} (h : upB c = true) : okB c = true := by unfold okB; rw [h]; rfl
theorem ok_dg {c : Int} (h : dgB c = true) : okB c = true := by unfold okB; rw [h]; simp
theorem ok_us {c : Int} (h : c = 95) : okB c = true := by unfold okB; rw [decide_eq_true h]; simp
theorem ok_no {c : Int} (h : upB c = false) (h2 : dgB c = false) (h3 : ¬ c = 95) : okB c = false := by unfold okB; rw [h, h2, decide_eq_false h3]; rfl

theorem isCapT_any (c : Int) (w : World) : Calls Tryd.prog 63 #[.int .u8 c] w fun e w' => e = .returned (.bool (upB c)) ∧ w' = w := by
  go_enter Tryd.func63, Tryd.ntmps63
  go_wp2
  all_goals go_ret
  all_goals refine ⟨retT_bool ?_, rfl⟩
  all_goals (unfold upB; first | (simp_all; done) | (simp_all; omega))
theorem isDigT_any (c : Int) (w : World) : Calls Tryd.prog 64 #[.int .u8 c] w fun e w' => e = .returned (.bool (dgB c)) ∧ w' = w := by
  go_enter Tryd.func64, Tryd.ntmps64
  go_wp2
  all_goals go_ret
  all_goals refine ⟨retT_bool ?_, rfl⟩
  all_goals (unfold dgB; first | (simp_all; done) | (simp_all; omega))

set_option maxHeartbeats 2000000 in
theorem isCapName_any (s : ByteArray) (w : World) (hs : s.size ≤ 140737488351232) : Calls Tryd.prog 41 #[.string s] w fun e w' => e = .returned (.bool (nameB s)) ∧ w' = w := by
  by_cases h0 : s.size = 0
  · have es : s = ⟨#[]⟩ := by
      obtain ⟨d⟩ := s
      have : d = #[] := Array.eq_empty_of_size_eq_zero h0
      rw [this]
    subst es
    go_enter Tryd.func41, Tryd.ntmps41
    go_wp2
    go_ret
    exact ⟨rfl, rfl⟩
  · have ne : s.toList.isEmpty = false := by
      rw [Go.ByteArray.toList_eq]
      cases e : s.data.toList with
      | nil =>
        exfalso
        have := congrArg List.length e
        simp at this
        exact h0 (by rw [this]; rfl)
      | cons c l => rfl
    by_cases h1 : s.size ≤ 31
    · have h2 : ¬ (31 : Int) < (s.size : Int) := by omega
      have hp : 0 < s.size := by omega
      have E0 := Lib.hid (at8_lt hp)
      obtain ⟨B, hB⟩ : ∃ B, nameB s = B := ⟨_, rfl⟩
      have HB := Lib.hid hB
      rw [hB]; clear hB
      cases c0 : upB (s[0].toNat : Int) with
      | false =>
        have NO := Lib.hid (p := false = B) (by rw [← HB.out, name_first (by rw [E0.out]; exact c0)])
        go_enter Tryd.func41, Tryd.ntmps41
        go_wp2_with (go_at_call 63; refine (isCapT_any _ _).mono ?_; rintro e w' ⟨rfl, rfl⟩; rw [c0])
        go_ret
        exact ⟨retT_bool NO.out, rfl⟩
      | true =>
        have Y0 := Lib.hid (p := upB (at8 s 0) = true) (by rw [E0.out]; exact c0)
        go_enter Tryd.func41, Tryd.ntmps41
        go_wp2_with (go_at_call 63; refine (isCapT_any _ _).mono ?_; rintro e w' ⟨rfl, rfl⟩; rw [c0])
        go_loop [19] (fun t => ∃ k : Nat, k ≤ s.size ∧ t = .int .i64 k ∧ RowKit.Hid (∀ i, i < k → okB (at8 s i) = true)) (fun t => s.size - (intOf t).toNat)
        case atStart => exact ⟨0, by omega, rfl, fun i hi => absurd hi (by omega)⟩
        case round =>
          obtain ⟨k, hk, rfl, hN⟩ := hrel
          by_cases hlt : k < s.size
          · have E := Lib.hid (at8_lt hlt)
            have NX := Lib.hid (p := okB (at8 s k) = true → ∀ i, i < k + 1 → okB (at8 s i) = true) (fun g i hi => by
              rcases (show i < k ∨ i = k by omega) with q | q
              · exact hN.out i q
              · rw [q]; exact g)
            have NO := Lib.hid (p := okB (at8 s k) = false → false = B) (fun g => by rw [← HB.out, name_bad hlt g])
            have kc : (k : Int) < (s.size : Int) := by omega
            clear c0
            cases c : upB (s[k].toNat : Int) with
            | true =>
              have OK := Lib.hid (p := okB (at8 s k) = true) (by rw [E.out]; exact ok_up c)
              go_wp2_with (go_at_call 63; refine (isCapT_any _ _).mono ?_; rintro e w' ⟨rfl, rfl⟩; rw [c])
              go_round
              case rel => exact ⟨k + 1, by omega, by go_num, NX.out OK.out⟩
              case measure => simp [intOf]; omega
            | false =>
              cases d : dgB (s[k].toNat : Int) with
              | true =>
                have OK := Lib.hid (p := okB (at8 s k) = true) (by rw [E.out]; exact ok_dg d)
                go_wp2_with (first
                  | (go_at_call 63; refine (isCapT_any _ _).mono ?_; rintro e w' ⟨rfl, rfl⟩; rw [c])
                  | (go_at_call 64; refine (isDigT_any _ _).mono ?_; rintro e w' ⟨rfl, rfl⟩; rw [d]))
                go_round
                case rel => exact ⟨k + 1, by omega, by go_num, NX.out OK.out⟩
                case measure => simp [intOf]; omega
              | false =>
                by_cases u : (s[k].toNat : Int) = 95
                · have OK := Lib.hid (p := okB (at8 s k) = true) (by rw [E.out]; exact ok_us u)
                  have u1 : ((s[k].toNat : Int) != 95) = false := by rw [u]; rfl
                  have u2 : ((s[k].toNat : Int) == 95) = true := by rw [u]; rfl
                  clear u
                  go_wp2_with (first
                    | (go_at_call 63; refine (isCapT_any _ _).mono ?_; rintro e w' ⟨rfl, rfl⟩; rw [c])
                    | (go_at_call 64; refine (isDigT_any _ _).mono ?_; rintro e w' ⟨rfl, rfl⟩; rw [d]))
                  go_round
                  case rel => exact ⟨k + 1, by omega, by go_num, NX.out OK.out⟩
                  case measure => simp [intOf]; omega
                · have OK := Lib.hid (p := okB (at8 s k) = false) (by rw [E.out]; exact ok_no c d u)
                  go_wp2_with (first
                    | (go_at_call 63; refine (isCapT_any _ _).mono ?_; rintro e w' ⟨rfl, rfl⟩; rw [c])
                    | (go_at_call 64; refine (isDigT_any _ _).mono ?_; rintro e w' ⟨rfl, rfl⟩; rw [d]))
                  go_ret
                  exact ⟨retT_bool (NO.out OK.out), rfl⟩
          · obtain rfl : k = s.size := by omega
            go_wp2
            go_ret
            exact ⟨retT_bool (by rw [← HB.out, name_good ⟨by omega, h1⟩ Y0.out hN.out]), rfl⟩
    · rw [name_size (by omega)]
      have h2 : (31 : Int) < (s.size : Int) := by omega
      go_enter Tryd.func41, Tryd.ntmps41
      go_wp2
      go_ret
      exact ⟨rfl, rfl⟩

set_option maxHeartbeats 2000000 in
theorem rCapital_any (s : ByteArray) (w : World) (hs : s.size ≤ 140737488351232) : Calls Tryd.prog 24 #[.string s] w fun e w' => e = .returned (.bool (nameB s)) ∧ w' = w := by
  by_cases h : 1 ≤ s.size ∧ s.size ≤ 31
  · obtain ⟨ha, hb⟩ := h
    have h1 : ¬ (s.size : Int) < 1 := by omega
    have h2 : ¬ (31 : Int) < (s.size : Int) := by omega
    obtain ⟨B, hB⟩ : ∃ B, nameB s = B := ⟨_, rfl⟩
    have HB := Lib.hid hB
    rw [hB]; clear hB
    go_enter Tryd.func24, Tryd.ntmps24
    go_wp2
    go_loop [3] (fun t => ∃ k : Nat, k ≤ s.size ∧ t = .int .i64 k ∧ RowKit.Hid ((∀ i, i < k → okB (at8 s i) = true) ∧ (0 < k → upB (at8 s 0) = true))) (fun t => s.size - (intOf t).toNat)
    case atStart => exact ⟨0, by omega, rfl, fun i hi => absurd hi (by omega), fun h => absurd h (by omega)⟩
    case round =>
      obtain ⟨k, hk, rfl, hN⟩ := hrel
      by_cases hlt : k < s.size
      · have E := Lib.hid (at8_lt hlt)
        have NX := Lib.hid (p := okB (at8 s k) = true → (k = 0 → upB (at8 s 0) = true) → (∀ i, i < k + 1 → okB (at8 s i) = true) ∧ (0 < k + 1 → upB (at8 s 0) = true)) (fun g g0 => ⟨fun i hi => by
          rcases (show i < k ∨ i = k by omega) with q | q
          · exact hN.out.1 i q
          · rw [q]; exact g, fun _ => by
          rcases (show k = 0 ∨ 0 < k by omega) with q | q
          · exact g0 q
          · exact hN.out.2 q⟩)
        have NO := Lib.hid (p := okB (at8 s k) = false → false = B) (fun g => by rw [← HB.out, name_bad hlt g])
        have NF := Lib.hid (p := upB (at8 s 0) = false → false = B) (fun g => by rw [← HB.out, name_first g])
        have kc : (k : Int) < (s.size : Int) := by omega
        have UP : upB (at8 s k) = upB (s[k].toNat : Int) := by rw [E.out]
        have OKK : okB (at8 s k) = okB (s[k].toNat : Int) := by rw [E.out]
        have HU := Lib.hid UP
        have HO := Lib.hid OKK
        clear UP OKK
        by_cases a : 65 ≤ (s[k].toNat : Int) ∧ (s[k].toNat : Int) ≤ 90
        · obtain ⟨a1, a2⟩ := a
          have OK := Lib.hid (p := okB (at8 s k) = true) (by rw [HO.out]; exact ok_up (decide_eq_true ⟨a1, a2⟩))
          have U0 := Lib.hid (p := k = 0 → upB (at8 s 0) = true) (fun e => by subst e; rw [HU.out]; exact decide_eq_true ⟨a1, a2⟩)
          go_wp2
          all_goals
            go_round
            case rel => exact ⟨k + 1, by omega, by go_num, NX.out OK.out U0.out⟩
            case measure => simp [intOf]; omega
        · have NU := Lib.hid (p := upB (at8 s k) = false) (by rw [HU.out]; exact decide_eq_false a)
          by_cases k0 : k = 0
          · subst k0
            rcases (show (s[0].toNat : Int) < 65 ∨ 90 < (s[0].toNat : Int) by omega) with g | g
            · have z1 : ¬ 65 ≤ (s[0].toNat : Int) := by omega
              clear a g
              go_wp2
              all_goals go_ret
              all_goals exact ⟨retT_bool (NF.out NU.out), rfl⟩
            · have z1 : 65 ≤ (s[0].toNat : Int) := by omega
              have z2 : ¬ (s[0].toNat : Int) ≤ 90 := by omega
              have z3 : decide ((s[0].toNat : Int) ≤ 90) = false := decide_eq_false z2
              have z4 : 48 ≤ (s[0].toNat : Int) := by omega
              have z5 : decide ((s[0].toNat : Int) ≤ 57) = false := decide_eq_false (by omega)
              clear a g
              go_wp2
              all_goals go_ret
              all_goals exact ⟨retT_bool (NF.out NU.out), rfl⟩
          · by_cases b : (48 ≤ (s[k].toNat : Int) ∧ (s[k].toNat : Int) ≤ 57) ∨ (s[k].toNat : Int) = 95
            · have OK := Lib.hid (p := okB (at8 s k) = true) (by
                rw [HO.out]
                rcases b with b | b
                · exact ok_dg (decide_eq_true b)
                · exact ok_us b)
              have U0 := Lib.hid (p := k = 0 → upB (at8 s 0) = true) (fun e => absurd e k0)
              have kz : ¬ (k : Int) = 0 := by omega
              rcases b with ⟨b1, b2⟩ | b
              · have q1 : ¬ 65 ≤ (s[k].toNat : Int) := by omega
                clear a
                go_wp2
                all_goals
                  go_round
                  case rel => exact ⟨k + 1, by omega, by go_num, NX.out OK.out U0.out⟩
                  case measure => simp [intOf]; omega
              · have q1 : 65 ≤ (s[k].toNat : Int) := by omega
                have q2 : ¬ (s[k].toNat : Int) ≤ 90 := by omega
                have q3 : 48 ≤ (s[k].toNat : Int) := by omega
                have q4 : ¬ (s[k].toNat : Int) ≤ 57 := by omega
                clear a
                go_wp2
                all_goals
                  go_round
                  case rel => exact ⟨k + 1, by omega, by go_num, NX.out OK.out U0.out⟩
                  case measure => simp [intOf]; omega
            · have OK := Lib.hid (p := okB (at8 s k) = false) (by
                rw [HO.out]
                exact ok_no (decide_eq_false a) (decide_eq_false (fun q => b (.inl q))) (fun q => b (.inr q)))
              have kz : ¬ (k : Int) = 0 := by omega
              have u : ((s[k].toNat : Int) == 95) = false := by
                rw [beq_eq_false_iff_ne]; exact fun q => b (.inr q)
              have u2 : ¬ (s[k].toNat : Int) = 95 := fun q => b (.inr q)
              rcases (show (s[k].toNat : Int) < 48 ∨ (57 < (s[k].toNat : Int) ∧ (s[k].toNat : Int) < 65) ∨ 90 < (s[k].toNat : Int) by omega) with g | ⟨g, g'⟩ | g
              · have z1 : ¬ 65 ≤ (s[k].toNat : Int) := by omega
                have z2 : ¬ 48 ≤ (s[k].toNat : Int) := by omega
                clear a b g
                go_wp2
                all_goals go_ret
                all_goals exact ⟨retT_bool (NO.out OK.out), rfl⟩
              · have z1 : ¬ 65 ≤ (s[k].toNat : Int) := by omega
                have z2 : 48 ≤ (s[k].toNat : Int) := by omega
                have z3 : decide ((s[k].toNat : Int) ≤ 57) = false := decide_eq_false (by omega)
                have z4 : ¬ (s[k].toNat : Int) ≤ 57 := by omega
                clear a b g g'
                go_wp2
                all_goals go_ret
                all_goals exact ⟨retT_bool (NO.out OK.out), rfl⟩
              · have z1 : 65 ≤ (s[k].toNat : Int) := by omega
                have z2 : 48 ≤ (s[k].toNat : Int) := by omega
                have z3 : decide ((s[k].toNat : Int) ≤ 57) = false := decide_eq_false (by omega)
                have z4 : decide ((s[k].toNat : Int) ≤ 90) = false := decide_eq_false (by omega)
                have z5 : ¬ (s[k].toNat : Int) ≤ 57 := by omega
                have z6 : ¬ (s[k].toNat : Int) ≤ 90 := by omega
                clear a b g
                go_wp2
                all_goals go_ret
                all_goals exact ⟨retT_bool (NO.out OK.out), rfl⟩
      · obtain rfl : k = s.size := by omega
        go_wp2
        go_ret
        exact ⟨retT_bool (by rw [← HB.out, name_good ⟨ha, hb⟩ (hN.out.2 (by omega)) hN.out.1]), rfl⟩
  · rw [name_size h]
    rcases (show s.size < 1 ∨ 31 < s.size by omega) with q | q
    · have h1 : (s.size : Int) < 1 := by omega
      go_enter Tryd.func24, Tryd.ntmps24
      go_wp2
      go_ret
      exact ⟨rfl, rfl⟩
    · have h1 : ¬ (s.size : Int) < 1 := by omega
      have h2 : (31 : Int) < (s.size : Int) := by omega
      go_enter Tryd.func24, Tryd.ntmps24
      go_wp2
      go_ret
      exact ⟨rfl, rfl⟩
end Go.Proofs.YthkeoeobpdminaaDoor
