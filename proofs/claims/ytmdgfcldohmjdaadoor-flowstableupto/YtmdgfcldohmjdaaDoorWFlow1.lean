/-
  WALKS: Valid and Compare of flows, the program's and the document's.
-/
import Derived.Test.YtmdgfcldohmjdaaDoorRows
import Derived.Test.YtmdgfcldohmjdaaDoorOpenFlow
import Derived.WalkKit
import Derived.WalkSpells
import Derived.Below
import Derived.BigCall
import Derived.BigGuard
import Derived.BigQuiet
import Derived.Deep.QuietTactic
import Derived.Lib.Hide
namespace Go.Proofs.YtmdgfcldohmjdaaDoor
open Go.RowKit
set_option linter.unusedVariables false
set_option linter.unusedSimpArgs false

def at8 (s : ByteArray) (i : Nat) : Int := if h : i < s.size then (s[i].toNat : Int) else 0
theorem at8_lt {s : ByteArray} {i : Nat} (h : i < s.size) : at8 s i = (s[i].toNat : Int) := by unfold at8; rw [dif_pos h]
def capB (c : Int) : Bool := decide (65 ≤ c ∧ c ≤ 90)
/-- A currency: three capitals. -/
def curB (s : ByteArray) : Bool := decide (s.size = 3) && (List.range 3).all fun i => capB (at8 s i)
theorem cur_true {s : ByteArray} (h : s.size = 3) (k : ∀ i, i < 3 → capB (at8 s i) = true) : curB s = true := by
  unfold curB; rw [decide_eq_true h, Bool.true_and, List.all_eq_true]; exact fun i hi => k i (List.mem_range.1 hi)
theorem cur_false {s : ByteArray} {i : Nat} (hi : i < 3) (k : capB (at8 s i) = false) : curB s = false := by
  unfold curB
  rw [Bool.and_eq_false_iff]; right
  rw [List.all_eq_false]
  exact ⟨i, List.mem_range.2 hi, by rw [k]; simp⟩
theorem cur_size {s : ByteArray} (h : s.size ≠ 3) : curB s = false := by
  unfold curB; rw [decide_eq_false h, Bool.false_and]
theorem cur_out {s : ByteArray} (h : curB s = true) : s.size = 3 ∧ ∀ i, i < 3 → capB (at8 s i) = true := by
  unfold curB at h
  rw [Bool.and_eq_true, List.all_eq_true] at h
  exact ⟨of_decide_eq_true h.1, fun i hi => h.2 i (List.mem_range.2 hi)⟩

theorem ret_b {a b : Bool} (h : a = b) : Ending.returned (.bool a) = .returned (.bool b) := by rw [h]
theorem ret_i {k : IntKind} {a b : Int} (h : a = b) : Ending.returned (.int k a) = .returned (.int k b) := by rw [h]

theorem isCapital_any (c : Int) (w : World) : Calls Tryd.prog 49 #[.int .u8 c] w fun e w' => e = .returned (.bool (capB c)) ∧ w' = w := by
  go_enter Tryd.func49, Tryd.ntmps49
  go_wp2
  all_goals go_ret
  all_goals refine ⟨ret_b ?_, rfl⟩
  all_goals (unfold capB; first | (simp_all; done) | (simp_all; omega))

set_option maxHeartbeats 1000000 in
theorem isCurrency_any (s : ByteArray) (w : World) (hs : s.size ≤ maxLen) :
    Calls Tryd.prog 41 #[.string s] w fun e w' => e = .returned (.bool (curB s)) ∧ w' = w := by
  by_cases h : s.size = 3
  · have h2 : (s.size : Int) = 3 := by omega
    obtain ⟨B, hB⟩ : ∃ B, curB s = B := ⟨_, rfl⟩
    have HB := Lib.hid hB
    rw [hB]; clear hB
    go_enter Tryd.func41, Tryd.ntmps41
    go_wp2
    go_loop [9] (fun t => ∃ k : Nat, k ≤ 3 ∧ t = .int .i64 k ∧ RowKit.Hid (∀ i, i < k → capB (at8 s i) = true)) (fun t => 3 - (intOf t).toNat)
    case atStart => exact ⟨0, by omega, rfl, fun i hi => absurd hi (by omega)⟩
    case round =>
      obtain ⟨k, hk, rfl, hN⟩ := hrel
      by_cases hlt : k < 3
      · have hks : k < s.size := by omega
        have E := Lib.hid (at8_lt hks)
        have NX := Lib.hid (p := capB (at8 s k) = true → ∀ i, i < k + 1 → capB (at8 s i) = true) (fun g i hi => by
          rcases (show i < k ∨ i = k by omega) with q | q
          · exact hN.out i q
          · rw [q]; exact g)
        have NO := Lib.hid (p := capB (at8 s k) = false → false = B) (fun g => by rw [← HB.out, cur_false hlt g])
        cases c : capB (s[k].toNat : Int) with
        | true =>
          have OK := Lib.hid (p := capB (at8 s k) = true) (by rw [E.out]; exact c)
          go_wp2_with (go_at_call 49; refine (isCapital_any _ _).mono ?_; rintro e w' ⟨rfl, rfl⟩; rw [c])
          go_round
          case rel => exact ⟨k + 1, by omega, by simp, NX.out OK.out⟩
          case measure => simp [intOf]; omega
        | false =>
          have OK := Lib.hid (p := capB (at8 s k) = false) (by rw [E.out]; exact c)
          go_wp2_with (go_at_call 49; refine (isCapital_any _ _).mono ?_; rintro e w' ⟨rfl, rfl⟩; rw [c])
          go_ret
          exact ⟨ret_b (NO.out OK.out), rfl⟩
      · obtain rfl : k = 3 := by omega
        go_wp2
        go_ret
        exact ⟨ret_b (by rw [← HB.out, cur_true h hN.out]), rfl⟩
  · rw [cur_size h]
    have h2 : ¬ (s.size : Int) = 3 := by omega
    go_enter Tryd.func41, Tryd.ntmps41
    go_wp2
    go_ret
    exact ⟨rfl, rfl⟩

/-- What is wrong with a flow: 0, 1, 2. -/
def valI (f : Fl) : Int := if curB f.c = false then 1 else if f.d < 0 ∨ 1073741824 < f.d then 2 else 0

set_option maxHeartbeats 1000000 in
theorem valid_any (d a : Int) (c : ByteArray) (w : World) (hs : c.size ≤ maxLen) :
    Calls Tryd.prog 22 #[.agg #[.int .i64 d, .string c, .int .i64 a]] w fun e w' => e = .returned (.int .i64 (valI ⟨d, c, a⟩)) ∧ Below w.heap.size w w' := by
  obtain ⟨V, hV⟩ : ∃ V, valI ⟨d, c, a⟩ = V := ⟨_, rfl⟩
  have HV := Lib.hid hV
  rw [hV]; clear hV
  cases h : curB c with
  | false =>
    have HV' := Lib.hid (p := (1 : Int) = V) (by rw [← HV.out]; simp [valI, h])
    go_enter Tryd.func22, Tryd.ntmps22
    go_wp2_with (go_at_call 41; refine (isCurrency_any _ _ hs).mono ?_; rintro e w' ⟨rfl, rfl⟩; rw [h])
    go_ret
    exact ⟨ret_i HV'.out, (Below.refl _ _).alloc (Nat.le_refl _) _⟩
  | true =>
    have HW := Lib.hid (p := (if d < 0 ∨ 1073741824 < d then (2 : Int) else 0) = V) (by rw [← HV.out]; simp [valI, h])
    go_enter Tryd.func22, Tryd.ntmps22
    go_wp2_with (go_at_call 41; refine (isCurrency_any _ _ hs).mono ?_; rintro e w' ⟨rfl, rfl⟩; rw [h])
    all_goals go_ret
    all_goals refine ⟨ret_i ?_, (Below.refl _ _).alloc (Nat.le_refl _) _⟩
    all_goals (rw [← HW.out]; first | (rw [if_pos (by simp_all; try omega)]; done) | (rw [if_neg (by simp_all; try omega)]; done))

end Go.Proofs.YtmdgfcldohmjdaaDoor
