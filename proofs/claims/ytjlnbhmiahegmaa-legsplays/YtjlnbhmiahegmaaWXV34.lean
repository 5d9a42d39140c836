/-
  WALKS: legs: a fault leaves the evaluation as a panic.
-/
import Derived.Test.YtjlnbhmiahegmaaPlainXV
import Derived.Test.YtjlnbhmiahegmaaWAdd
import Derived.Test.YtjlnbhmiahegmaaWMul
import Derived.WalkSmall
import Derived.Test.YtjlnbhmiahegmaaWRatio
namespace Go.Proofs.Ytjlnbhmiahegmaa
open Go.RowKit
set_option linter.unusedVariables false
set_option linter.unusedSimpArgs false

/-- The panic with which an evaluation is left. -/
def pnc (f : Int) : Ending := .panicked [{ v := .iface 31 (.int .i64 f), recovered := false }]
/-- What an evaluation ends with: a value, or the panic of its fault. -/
def EvE (r : Int × Int) (e : Ending) : Prop := (r.2 = 0 ∧ e = .returned (.int .i64 r.1)) ∨ (¬ r.2 = 0 ∧ r.1 = 0 ∧ e = pnc r.2)
theorem sound_any (v f : Int) (hv : ¬ f = 0 → v = 0) (w : World) : Calls Try.prog 69 #[.int .i64 v, .int .i64 f] w fun e w' => EvE (v, f) e ∧ w' = w := by
  by_cases h : f = 0
  · subst h
    go_enter Try.func69, Try.ntmps69
    go_wp2
    go_ret
    exact ⟨.inl ⟨rfl, rfl⟩, rfl⟩
  · have h1 : (f != 0) = true := by simpa using h
    have h2 : (f == 0) = false := by simpa using h
    go_enter Try.func69, Try.ntmps69
    go_wp2
    exact ⟨rfl, .inr ⟨h, hv h, rfl⟩, rfl⟩
theorem ltruth_any (b : Bool) (w : World) : Calls Try.prog 54 #[.bool b] w fun e w' => e = .returned (.int .i64 (if b then 1 else 0)) ∧ w' = w := by
  cases b <;> (go_enter Try.func54, Try.ntmps54; go_wp2; go_ret; exact ⟨rfl, rfl⟩)
theorem holds_10 (a b : Int) (w : World) : Calls Try.prog 78 #[.int .i64 10, .int .i64 a, .int .i64 b] w fun e w' => e = .returned (.bool (a == 0)) ∧ w' = w := by
  go_enter Try.func78, Try.ntmps78
  go_wp2
  go_ret
  exact ⟨rfl, rfl⟩
theorem holds_16 (a b : Int) (w : World) : Calls Try.prog 78 #[.int .i64 16, .int .i64 a, .int .i64 b] w fun e w' => e = .returned (.bool (decide (a < b))) ∧ w' = w := by
  go_enter Try.func78, Try.ntmps78
  go_wp2
  go_ret
  exact ⟨rfl, rfl⟩
theorem holds_17 (a b : Int) (w : World) : Calls Try.prog 78 #[.int .i64 17, .int .i64 a, .int .i64 b] w fun e w' => e = .returned (.bool (decide (a ≤ b))) ∧ w' = w := by
  go_enter Try.func78, Try.ntmps78
  go_wp2
  go_ret
  exact ⟨rfl, rfl⟩
theorem holds_18 (a b : Int) (w : World) : Calls Try.prog 78 #[.int .i64 18, .int .i64 a, .int .i64 b] w fun e w' => e = .returned (.bool (decide (b < a))) ∧ w' = w := by
  go_enter Try.func78, Try.ntmps78
  go_wp2
  go_ret
  exact ⟨rfl, rfl⟩
theorem holds_19 (a b : Int) (w : World) : Calls Try.prog 78 #[.int .i64 19, .int .i64 a, .int .i64 b] w fun e w' => e = .returned (.bool (decide (b ≤ a))) ∧ w' = w := by
  go_enter Try.func78, Try.ntmps78
  go_wp2
  go_ret
  exact ⟨rfl, rfl⟩
theorem holds_20 (a b : Int) (w : World) : Calls Try.prog 78 #[.int .i64 20, .int .i64 a, .int .i64 b] w fun e w' => e = .returned (.bool (a == b)) ∧ w' = w := by
  go_enter Try.func78, Try.ntmps78
  go_wp2
  go_ret
  exact ⟨rfl, rfl⟩
theorem holds_21 (a b : Int) (w : World) : Calls Try.prog 78 #[.int .i64 21, .int .i64 a, .int .i64 b] w fun e w' => e = .returned (.bool (a != b)) ∧ w' = w := by
  go_enter Try.func78, Try.ntmps78
  go_wp2
  go_ret
  exact ⟨rfl, rfl⟩
theorem xabs_any (a : Int) (ha : inR a) (w : World) :
    Calls Try.prog 71 #[.int .i64 a] w fun e w' => e = .returned (.tuple #[.int .i64 (fitV (absI a)), .int .i64 (fitF (absI a))]) ∧ w' = w := by
  by_cases h : a < 0
  · rw [absI_neg h]
    have hn := veil (neg_any a ha w)
    go_enter Try.func71, Try.ntmps71
    go_wp2_with fail
    refine (unveil hn).mono ?_; rintro e w' ⟨rfl, rfl⟩
    go_wp2_with fail
    go_ret2
    exact ⟨rfl, rfl⟩
  · rw [absI_pos h, fitV_in ha, fitF_in ha]
    have h' : decide (a < 0) = false := by simpa using h
    go_enter Try.func71, Try.ntmps71
    go_wp2_with fail
    go_ret2
    exact ⟨rfl, rfl⟩
theorem operate_9 (p q : Nat) (mode a b c : Int) (ha : inR a) (hb : inR b) (w : World) (h0 : w.cell? ⟨p, q, none⟩ = some (.int .i64 9)) :
    Calls Try.prog 55 #[.pointer (some ⟨p, q, none⟩), .int .i64 a, .int .i64 b, .int .i64 c] w fun e w' => EvE (opR 9 mode a b c) e ∧ Below w.heap.size w w' := by
  have hs : opR 9 mode a b c = (fitV (-a), fitF (-a)) := by simp [opR]
  rw [hs]
  have HS := Lib.hid (fun W => sound_any _ _ (fitVF (-a)) W)
  go_enter Try.func55, Try.ntmps55
  go_wp2_with fail
  go_at_call 70
  refine (neg_any a ha _).mono ?_
  rintro e w1 ⟨rfl, rfl⟩
  go_wp2_with fail
  go_at_call 69
  refine (HS.out _).mono ?_
  rintro e w2 ⟨he, rfl⟩
  rcases he with ⟨z, rfl⟩ | ⟨z1, z2, rfl⟩
  · go_wp2
    go_ret
    exact ⟨.inl ⟨z, rfl⟩, Below.refl _ _⟩
  · unfold pnc
    go_wp2
    exact ⟨rfl, .inr ⟨z1, z2, rfl⟩, Below.refl _ _⟩
theorem operate_27 (p q : Nat) (mode a b c : Int) (ha : inR a) (hb : inR b) (w : World) (h0 : w.cell? ⟨p, q, none⟩ = some (.int .i64 27)) :
    Calls Try.prog 55 #[.pointer (some ⟨p, q, none⟩), .int .i64 a, .int .i64 b, .int .i64 c] w fun e w' => EvE (opR 27 mode a b c) e ∧ Below w.heap.size w w' := by
  have hs : opR 27 mode a b c = (fitV (absI a), fitF (absI a)) := by simp [opR]
  rw [hs]
  have HS := Lib.hid (fun W => sound_any _ _ (fitVF (absI a)) W)
  go_enter Try.func55, Try.ntmps55
  go_wp2_with fail
  go_at_call 71
  refine (xabs_any a ha _).mono ?_
  rintro e w1 ⟨rfl, rfl⟩
  go_wp2_with fail
  go_at_call 69
  refine (HS.out _).mono ?_
  rintro e w2 ⟨he, rfl⟩
  rcases he with ⟨z, rfl⟩ | ⟨z1, z2, rfl⟩
  · go_wp2
    go_ret
    exact ⟨.inl ⟨z, rfl⟩, Below.refl _ _⟩
  · unfold pnc
    go_wp2
    exact ⟨rfl, .inr ⟨z1, z2, rfl⟩, Below.refl _ _⟩
theorem operate_11 (p q : Nat) (mode a b c : Int) (ha : inR a) (hb : inR b) (w : World) (h0 : w.cell? ⟨p, q, none⟩ = some (.int .i64 11)) :
    Calls Try.prog 55 #[.pointer (some ⟨p, q, none⟩), .int .i64 a, .int .i64 b, .int .i64 c] w fun e w' => EvE (opR 11 mode a b c) e ∧ Below w.heap.size w w' := by
  have hs : opR 11 mode a b c = (fitV (a + b), fitF (a + b)) := by simp [opR]
  rw [hs]
  have HS := Lib.hid (fun W => sound_any _ _ (fitVF (a + b)) W)
  go_enter Try.func55, Try.ntmps55
  go_wp2_with fail
  go_at_call 72
  refine (add_any a b ha hb _).mono ?_
  rintro e w1 ⟨rfl, rfl⟩
  go_wp2_with fail
  go_at_call 69
  refine (HS.out _).mono ?_
  rintro e w2 ⟨he, rfl⟩
  rcases he with ⟨z, rfl⟩ | ⟨z1, z2, rfl⟩
  · go_wp2
    go_ret
    exact ⟨.inl ⟨z, rfl⟩, Below.refl _ _⟩
  · unfold pnc
    go_wp2
    exact ⟨rfl, .inr ⟨z1, z2, rfl⟩, Below.refl _ _⟩
theorem operate_12 (p q : Nat) (mode a b c : Int) (ha : inR a) (hb : inR b) (w : World) (h0 : w.cell? ⟨p, q, none⟩ = some (.int .i64 12)) :
    Calls Try.prog 55 #[.pointer (some ⟨p, q, none⟩), .int .i64 a, .int .i64 b, .int .i64 c] w fun e w' => EvE (opR 12 mode a b c) e ∧ Below w.heap.size w w' := by
  have hs : opR 12 mode a b c = (fitV (a - b), fitF (a - b)) := by simp [opR]
  rw [hs]
  have HS := Lib.hid (fun W => sound_any _ _ (fitVF (a - b)) W)
  go_enter Try.func55, Try.ntmps55
  go_wp2_with fail
  go_at_call 73
  refine (sub_any a b ha hb _).mono ?_
  rintro e w1 ⟨rfl, rfl⟩
  go_wp2_with fail
  go_at_call 69
  refine (HS.out _).mono ?_
  rintro e w2 ⟨he, rfl⟩
  rcases he with ⟨z, rfl⟩ | ⟨z1, z2, rfl⟩
  · go_wp2
    go_ret
    exact ⟨.inl ⟨z, rfl⟩, Below.refl _ _⟩
  · unfold pnc
    go_wp2
    exact ⟨rfl, .inr ⟨z1, z2, rfl⟩, Below.refl _ _⟩
theorem operate_13 (p q : Nat) (mode a b c : Int) (ha : inR a) (hb : inR b) (w : World) (h0 : w.cell? ⟨p, q, none⟩ = some (.int .i64 13)) :
    Calls Try.prog 55 #[.pointer (some ⟨p, q, none⟩), .int .i64 a, .int .i64 b, .int .i64 c] w fun e w' => EvE (opR 13 mode a b c) e ∧ Below w.heap.size w w' := by
  have hs : opR 13 mode a b c = (fitV (a * b), fitF (a * b)) := by simp [opR]
  rw [hs]
  have HS := Lib.hid (fun W => sound_any _ _ (fitVF (a * b)) W)
  go_enter Try.func55, Try.ntmps55
  go_wp2_with fail
  go_at_call 74
  refine (mul_any a b ha hb _).mono ?_
  rintro e w1 ⟨rfl, rfl⟩
  go_wp2_with fail
  go_at_call 69
  refine (HS.out _).mono ?_
  rintro e w2 ⟨he, rfl⟩
  rcases he with ⟨z, rfl⟩ | ⟨z1, z2, rfl⟩
  · go_wp2
    go_ret
    exact ⟨.inl ⟨z, rfl⟩, Below.refl _ _⟩
  · unfold pnc
    go_wp2
    exact ⟨rfl, .inr ⟨z1, z2, rfl⟩, Below.refl _ _⟩
theorem operate_14 (p q : Nat) (mode a b c : Int) (ha : inR a) (hb : inR b) (w : World) (h0 : w.cell? ⟨p, q, none⟩ = some (.int .i64 14)) :
    Calls Try.prog 55 #[.pointer (some ⟨p, q, none⟩), .int .i64 a, .int .i64 b, .int .i64 c] w fun e w' => EvE (opR 14 mode a b c) e ∧ Below w.heap.size w w' := by
  have hs : opR 14 mode a b c = (divV a b, divF a b) := by simp [opR]
  rw [hs]
  have HS := Lib.hid (fun W => sound_any _ _ (divVF a b) W)
  go_enter Try.func55, Try.ntmps55
  go_wp2_with fail
  go_at_call 75
  refine (div_any a b ha _).mono ?_
  rintro e w1 ⟨rfl, rfl⟩
  go_wp2_with fail
  go_at_call 69
  refine (HS.out _).mono ?_
  rintro e w2 ⟨he, rfl⟩
  rcases he with ⟨z, rfl⟩ | ⟨z1, z2, rfl⟩
  · go_wp2
    go_ret
    exact ⟨.inl ⟨z, rfl⟩, Below.refl _ _⟩
  · unfold pnc
    go_wp2
    exact ⟨rfl, .inr ⟨z1, z2, rfl⟩, Below.refl _ _⟩
theorem operate_15 (p q : Nat) (mode a b c : Int) (ha : inR a) (hb : inR b) (w : World) (h0 : w.cell? ⟨p, q, none⟩ = some (.int .i64 15)) :
    Calls Try.prog 55 #[.pointer (some ⟨p, q, none⟩), .int .i64 a, .int .i64 b, .int .i64 c] w fun e w' => EvE (opR 15 mode a b c) e ∧ Below w.heap.size w w' := by
  have hs : opR 15 mode a b c = (modV a b, modF b) := by simp [opR]
  rw [hs]
  have HS := Lib.hid (fun W => sound_any _ _ (modVF a b) W)
  go_enter Try.func55, Try.ntmps55
  go_wp2_with fail
  go_at_call 76
  refine (mod_any a b _).mono ?_
  rintro e w1 ⟨rfl, rfl⟩
  go_wp2_with fail
  go_at_call 69
  refine (HS.out _).mono ?_
  rintro e w2 ⟨he, rfl⟩
  rcases he with ⟨z, rfl⟩ | ⟨z1, z2, rfl⟩
  · go_wp2
    go_ret
    exact ⟨.inl ⟨z, rfl⟩, Below.refl _ _⟩
  · unfold pnc
    go_wp2
    exact ⟨rfl, .inr ⟨z1, z2, rfl⟩, Below.refl _ _⟩
end Go.Proofs.Ytjlnbhmiahegmaa

namespace Go.Proofs.Ytjlnbhmiahegmaa
open Go.RowKit
set_option linter.unusedVariables false
set_option linter.unusedSimpArgs false

theorem operate_25 (p q : Nat) (mode a b c : Int) (w : World) (h0 : w.cell? ⟨p, q, none⟩ = some (.int .i64 25)) :
    Calls Try.prog 55 #[.pointer (some ⟨p, q, none⟩), .int .i64 a, .int .i64 b, .int .i64 c] w fun e w' => EvE (opR 25 mode a b c) e ∧ Below w.heap.size w w' := by
  have h3 : opR 25 mode a b c = (if b < a then b else a, 0) := rfl
  have h4 : (if b < a then b else a) = min a b := by split <;> omega
  rw [h3, h4]
  go_enter Try.func55, Try.ntmps55
  go_wp2
  go_ret
  exact ⟨.inl ⟨rfl, rfl⟩, Below.refl _ _⟩
theorem operate_26 (p q : Nat) (mode a b c : Int) (w : World) (h0 : w.cell? ⟨p, q, none⟩ = some (.int .i64 26)) :
    Calls Try.prog 55 #[.pointer (some ⟨p, q, none⟩), .int .i64 a, .int .i64 b, .int .i64 c] w fun e w' => EvE (opR 26 mode a b c) e ∧ Below w.heap.size w w' := by
  have h3 : opR 26 mode a b c = (if a < b then b else a, 0) := rfl
  have h4 : (if a < b then b else a) = max a b := by split <;> omega
  rw [h3, h4]
  go_enter Try.func55, Try.ntmps55
  go_wp2
  go_ret
  exact ⟨.inl ⟨rfl, rfl⟩, Below.refl _ _⟩
theorem operate_10 (p q : Nat) (mode a b c : Int) (w : World) (h0 : w.cell? ⟨p, q, none⟩ = some (.int .i64 10)) :
    Calls Try.prog 55 #[.pointer (some ⟨p, q, none⟩), .int .i64 a, .int .i64 b, .int .i64 c] w fun e w' => EvE (opR 10 mode a b c) e ∧ Below w.heap.size w w' := by
  have hr : opR 10 mode a b c = (if (a == 0) then 1 else 0, 0) := by
    have : opR 10 mode a b c = (tr (a = 0), 0) := rfl
    rw [this]
    unfold tr
    by_cases h : a = 0 <;> simp [h]
  rw [hr]
  have HH := Lib.hid (fun W => holds_10 a b W)
  clear hr
  generalize (a == 0) = bb at *
  cases bb
  all_goals
    go_enter Try.func55, Try.ntmps55
    go_wp2_with fail
    go_at_call 78
    refine (HH.out _).mono ?_
    rintro e w1 ⟨rfl, rfl⟩
    go_wp2_with fail
    go_at_call 54
    refine (ltruth_any _ _).mono ?_
    rintro e w2 ⟨rfl, rfl⟩
    go_wp2
    go_ret
    exact ⟨.inl ⟨rfl, rfl⟩, Below.refl _ _⟩
theorem operate_16 (p q : Nat) (mode a b c : Int) (w : World) (h0 : w.cell? ⟨p, q, none⟩ = some (.int .i64 16)) :
    Calls Try.prog 55 #[.pointer (some ⟨p, q, none⟩), .int .i64 a, .int .i64 b, .int .i64 c] w fun e w' => EvE (opR 16 mode a b c) e ∧ Below w.heap.size w w' := by
  have hr : opR 16 mode a b c = (if decide (a < b) then 1 else 0, 0) := by
    have : opR 16 mode a b c = (tr (a < b), 0) := rfl
    rw [this]
    unfold tr
    by_cases h : a < b <;> simp [h]
  rw [hr]
  have HH := Lib.hid (fun W => holds_16 a b W)
  clear hr
  generalize decide (a < b) = bb at *
  cases bb
  all_goals
    go_enter Try.func55, Try.ntmps55
    go_wp2_with fail
    go_at_call 78
    refine (HH.out _).mono ?_
    rintro e w1 ⟨rfl, rfl⟩
    go_wp2_with fail
    go_at_call 54
    refine (ltruth_any _ _).mono ?_
    rintro e w2 ⟨rfl, rfl⟩
    go_wp2
    go_ret
    exact ⟨.inl ⟨rfl, rfl⟩, Below.refl _ _⟩
theorem operate_17 (p q : Nat) (mode a b c : Int) (w : World) (h0 : w.cell? ⟨p, q, none⟩ = some (.int .i64 17)) :
    Calls Try.prog 55 #[.pointer (some ⟨p, q, none⟩), .int .i64 a, .int .i64 b, .int .i64 c] w fun e w' => EvE (opR 17 mode a b c) e ∧ Below w.heap.size w w' := by
  have hr : opR 17 mode a b c = (if decide (a ≤ b) then 1 else 0, 0) := by
    have : opR 17 mode a b c = (tr (a ≤ b), 0) := rfl
    rw [this]
    unfold tr
    by_cases h : a ≤ b <;> simp [h]
  rw [hr]
  have HH := Lib.hid (fun W => holds_17 a b W)
  clear hr
  generalize decide (a ≤ b) = bb at *
  cases bb
  all_goals
    go_enter Try.func55, Try.ntmps55
    go_wp2_with fail
    go_at_call 78
    refine (HH.out _).mono ?_
    rintro e w1 ⟨rfl, rfl⟩
    go_wp2_with fail
    go_at_call 54
    refine (ltruth_any _ _).mono ?_
    rintro e w2 ⟨rfl, rfl⟩
    go_wp2
    go_ret
    exact ⟨.inl ⟨rfl, rfl⟩, Below.refl _ _⟩
theorem operate_18 (p q : Nat) (mode a b c : Int) (w : World) (h0 : w.cell? ⟨p, q, none⟩ = some (.int .i64 18)) :
    Calls Try.prog 55 #[.pointer (some ⟨p, q, none⟩), .int .i64 a, .int .i64 b, .int .i64 c] w fun e w' => EvE (opR 18 mode a b c) e ∧ Below w.heap.size w w' := by
  have hr : opR 18 mode a b c = (if decide (b < a) then 1 else 0, 0) := by
    have : opR 18 mode a b c = (tr (b < a), 0) := rfl
    rw [this]
    unfold tr
    by_cases h : b < a <;> simp [h]
  rw [hr]
  have HH := Lib.hid (fun W => holds_18 a b W)
  clear hr
  generalize decide (b < a) = bb at *
  cases bb
  all_goals
    go_enter Try.func55, Try.ntmps55
    go_wp2_with fail
    go_at_call 78
    refine (HH.out _).mono ?_
    rintro e w1 ⟨rfl, rfl⟩
    go_wp2_with fail
    go_at_call 54
    refine (ltruth_any _ _).mono ?_
    rintro e w2 ⟨rfl, rfl⟩
    go_wp2
    go_ret
    exact ⟨.inl ⟨rfl, rfl⟩, Below.refl _ _⟩
theorem operate_19 (p q : Nat) (mode a b c : Int) (w : World) (h0 : w.cell? ⟨p, q, none⟩ = some (.int .i64 19)) :
    Calls Try.prog 55 #[.pointer (some ⟨p, q, none⟩), .int .i64 a, .int .i64 b, .int .i64 c] w fun e w' => EvE (opR 19 mode a b c) e ∧ Below w.heap.size w w' := by
  have hr : opR 19 mode a b c = (if decide (b ≤ a) then 1 else 0, 0) := by
    have : opR 19 mode a b c = (tr (b ≤ a), 0) := rfl
    rw [this]
    unfold tr
    by_cases h : b ≤ a <;> simp [h]
  rw [hr]
  have HH := Lib.hid (fun W => holds_19 a b W)
  clear hr
  generalize decide (b ≤ a) = bb at *
  cases bb
  all_goals
    go_enter Try.func55, Try.ntmps55
    go_wp2_with fail
    go_at_call 78
    refine (HH.out _).mono ?_
    rintro e w1 ⟨rfl, rfl⟩
    go_wp2_with fail
    go_at_call 54
    refine (ltruth_any _ _).mono ?_
    rintro e w2 ⟨rfl, rfl⟩
    go_wp2
    go_ret
    exact ⟨.inl ⟨rfl, rfl⟩, Below.refl _ _⟩
theorem operate_20 (p q : Nat) (mode a b c : Int) (w : World) (h0 : w.cell? ⟨p, q, none⟩ = some (.int .i64 20)) :
    Calls Try.prog 55 #[.pointer (some ⟨p, q, none⟩), .int .i64 a, .int .i64 b, .int .i64 c] w fun e w' => EvE (opR 20 mode a b c) e ∧ Below w.heap.size w w' := by
  have hr : opR 20 mode a b c = (if (a == b) then 1 else 0, 0) := by
    have : opR 20 mode a b c = (tr (a = b), 0) := rfl
    rw [this]
    unfold tr
    by_cases h : a = b <;> simp [h]
  rw [hr]
  have HH := Lib.hid (fun W => holds_20 a b W)
  clear hr
  generalize (a == b) = bb at *
  cases bb
  all_goals
    go_enter Try.func55, Try.ntmps55
    go_wp2_with fail
    go_at_call 78
    refine (HH.out _).mono ?_
    rintro e w1 ⟨rfl, rfl⟩
    go_wp2_with fail
    go_at_call 54
    refine (ltruth_any _ _).mono ?_
    rintro e w2 ⟨rfl, rfl⟩
    go_wp2
    go_ret
    exact ⟨.inl ⟨rfl, rfl⟩, Below.refl _ _⟩
theorem operate_21 (p q : Nat) (mode a b c : Int) (w : World) (h0 : w.cell? ⟨p, q, none⟩ = some (.int .i64 21)) :
    Calls Try.prog 55 #[.pointer (some ⟨p, q, none⟩), .int .i64 a, .int .i64 b, .int .i64 c] w fun e w' => EvE (opR 21 mode a b c) e ∧ Below w.heap.size w w' := by
  have hr : opR 21 mode a b c = (if (a != b) then 1 else 0, 0) := by
    have : opR 21 mode a b c = (tr (¬ a = b), 0) := rfl
    rw [this]
    unfold tr
    by_cases h : ¬ a = b <;> simp [h]
  rw [hr]
  have HH := Lib.hid (fun W => holds_21 a b W)
  clear hr
  generalize (a != b) = bb at *
  cases bb
  all_goals
    go_enter Try.func55, Try.ntmps55
    go_wp2_with fail
    go_at_call 78
    refine (HH.out _).mono ?_
    rintro e w1 ⟨rfl, rfl⟩
    go_wp2_with fail
    go_at_call 54
    refine (ltruth_any _ _).mono ?_
    rintro e w2 ⟨rfl, rfl⟩
    go_wp2
    go_ret
    exact ⟨.inl ⟨rfl, rfl⟩, Below.refl _ _⟩
theorem operate_28 (p q : Nat) (mode a b c : Int) (ha : inR a) (hb : inR b) (hc : inR c) (w : World) (h0 : w.cell? ⟨p, q, none⟩ = some (.int .i64 28)) (h1 : w.cell? ⟨p, q + 1, none⟩ = some (.int .i64 mode)) :
    Calls Try.prog 55 #[.pointer (some ⟨p, q, none⟩), .int .i64 a, .int .i64 b, .int .i64 c] w fun e w' => EvE (opR 28 mode a b c) e ∧ Below w.heap.size w w' := by
  have HS := Lib.hid (fun v f h W => sound_any v f h W)
  by_cases hz : c = 0
  · subst hz
    have hr : opR 28 mode a b 0 = (0, 2) := by simp [opR]
    rw [hr]
    go_enter Try.func55, Try.ntmps55
    go_wp2_with fail
    go_at_call 77
    refine (ratio_zero _ _ _ _).mono ?_
    rintro e w1 ⟨rfl, rfl⟩
    go_wp2_with fail
    go_at_call 69
    refine (HS.out 0 2 (fun _ => rfl) _).mono ?_
    rintro e w2 ⟨he, rfl⟩
    rcases he with ⟨z, rfl⟩ | ⟨z1, z2, rfl⟩
    · exact absurd z (by decide)
    · unfold pnc
      go_wp2
      exact ⟨rfl, .inr ⟨by decide, rfl, rfl⟩, Below.refl _ _⟩
  · have hr : opR 28 mode a b c = (fitV (ratN a b c mode), fitF (ratN a b c mode)) := by simp [opR, hz]
    rw [hr]
    go_enter Try.func55, Try.ntmps55
    have KS := Lib.hid (fun W => sound_any _ _ (fitVF (ratN a b c mode)) W)
    have KR := Lib.hid (fun W => ratio_any a b c mode ha hb hc hz W)
    generalize fitV (ratN a b c mode) = vv at *
    generalize fitF (ratN a b c mode) = ff at *
    go_wp2_with fail
    go_at_call 77
    refine (KR.out _).mono ?_
    rintro e w1 ⟨rfl, n, hw⟩
    have B1 := Lib.hid (show Below w.heap.size w w1 by rw [hw]; exact ⟨rfl, rfl, rfl, Nat.le_refl _, fun _ _ => rfl⟩)
    clear hw
    go_wp2_with fail
    go_at_call 69
    refine (KS.out _).mono ?_
    rintro e w2 ⟨he, rfl⟩
    rcases he with ⟨z, rfl⟩ | ⟨z1, z2, rfl⟩
    · go_wp2
      go_ret
      exact ⟨.inl ⟨z, rfl⟩, B1.out⟩
    · unfold pnc
      go_wp2
      exact ⟨rfl, .inr ⟨z1, z2, rfl⟩, B1.out⟩
/-- The numbers that an evaluation looks at: the observations and the accumulators. -/
structure WS (w : World) (wp : Nat) (ra ca : Option Addr) (rn rc cn cc : Nat) (rs : List Rw) (C : List Int) : Prop where
  r : w.cell? ⟨wp, 0, none⟩ = some (.slice ra rn rc)
  c : w.cell? ⟨wp, 1, none⟩ = some (.slice ca cn cc)
  rl : RL w ra rn rs
  il : IL w ca cn C
theorem WS.later {w w' : World} {wp ra ca rn rc cn cc rs C} (h : WS w wp ra ca rn rc cn cc rs C) (b : Below w.heap.size w w') : WS w' wp ra ca rn rc cn cc rs C :=
  ⟨(b.cell (p := ⟨wp, 0, none⟩) (World.block_lt_of_cell? w _ h.r)).trans h.r, (b.cell (p := ⟨wp, 1, none⟩) (World.block_lt_of_cell? w _ h.c)).trans h.c, h.rl.later b, h.il.later b⟩
theorem lcell_any {w : World} {wp : Nat} {ra ca : Option Addr} {rn rc cn cc : Nat} {rs : List Rw} {C : List Int} (h : WS w wp ra ca rn rc cn cc rs C) (i : Int) :
    Calls Try.prog 53 #[.pointer (some ⟨wp, 0, none⟩), .int .i64 i] w fun e w' => e = .returned (.int .i64 (cellR C i)) ∧ Below w.heap.size w w' := by
  obtain ⟨_, h1, _, h2, h3, h4, h5⟩ := h
  subst h2
  by_cases hi : 0 ≤ i ∧ i < C.length
  · obtain ⟨k, rfl⟩ : ∃ k : Nat, i = k := ⟨i.toNat, by omega⟩
    have hk : k < C.length := by omega
    obtain ⟨g, o, rfl, hg, hc⟩ : ∃ g o, ca = some ⟨g, o, none⟩ ∧ g < w.heap.size ∧ ∀ i, i < C.length → w.cell? ⟨g, o + i, none⟩ = some (.int .i64 (C.getD i 0)) := by
      rcases h5 with h | h
      · omega
      · exact h
    have e1 : cellR C (k : Int) = C.getD k 0 := by unfold cellR; rw [if_pos hi]; rfl
    have q := hc k hk
    have n1 : ¬ (k : Int) < 0 := by omega
    have n2 : (k : Int) < (C.length : Int) := by omega
    rw [e1]
    generalize C.getD k 0 = v at *
    clear hc h4 h5 hi e1
    go_enter Try.func53, Try.ntmps53
    go_wp2
    go_ret
    exact ⟨rfl, Below.refl _ _⟩
  · have e1 : cellR C i = 0 := by unfold cellR; rw [if_neg hi]
    rw [e1]
    by_cases h0 : i < 0
    · go_enter Try.func53, Try.ntmps53
      go_wp2
      go_ret
      exact ⟨rfl, Below.refl _ _⟩
    · have h6 : (C.length : Int) ≤ i := by omega
      have h7 : decide ((C.length : Int) ≤ i) = true := decide_eq_true h6
      have h8 : decide (i < 0) = false := decide_eq_false h0
      clear hi
      go_enter Try.func53, Try.ntmps53
      go_wp2
      go_ret
      exact ⟨rfl, Below.refl _ _⟩
end Go.Proofs.Ytjlnbhmiahegmaa
