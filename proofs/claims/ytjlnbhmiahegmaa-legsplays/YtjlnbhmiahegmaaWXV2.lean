/-
  WALKS: the document's operators on values.
-/
import Derived.Test.YtjlnbhmiahegmaaWXV6
import Derived.Test.YtjlnbhmiahegmaaMN1
import Derived.Test.YtjlnbhmiahegmaaMN2
namespace Go.Proofs.Ytjlnbhmiahegmaa
open Go.RowKit
set_option linter.unusedVariables false
set_option linter.unusedSimpArgs false

theorem rtruth_any (b : Bool) (w : World) : Calls Try.prog 30 #[.bool b] w fun e w' => e = .returned (.int .i64 (if b then 1 else 0)) ∧ w' = w := by
  cases b <;> (go_enter Try.func30, Try.ntmps30; go_wp2; go_ret; exact ⟨rfl, rfl⟩)
theorem rcompare_10 (g c : Nat) (a b : Int) (w : World) (h0 : w.cell? ⟨g, 0, none⟩ = some (.int .i64 a)) :
    Calls Try.prog 46 #[.int .i64 10, .slice (some ⟨g, 0, none⟩) 1 c] w fun e w' => e = .returned (.int .i64 (cmpR 10 a b)) ∧ Below w.heap.size w w' := by
  have hr : cmpR 10 a b = if (a == 0) then 1 else 0 := by
    have : cmpR 10 a b = tr (a = 0) := rfl
    rw [this]
    unfold tr
    by_cases h : a = 0 <;> simp [h]
  rw [hr]
  have HT := Lib.hid (fun W => rtruth_any ((a == 0)) W)
  clear hr
  generalize (if ((a == 0)) = true then (1 : Int) else 0) = z at *
  go_enter Try.func46, Try.ntmps46
  go_wp2_with fail
  go_at_call 30
  refine (HT.out _).mono ?_
  rintro e w' ⟨rfl, rfl⟩
  go_wp2_with fail
  go_ret
  exact ⟨rfl, Below.refl _ _⟩
theorem rcompare_16 (g c : Nat) (a b : Int) (w : World) (h0 : w.cell? ⟨g, 0, none⟩ = some (.int .i64 a)) (h1 : w.cell? ⟨g, 1, none⟩ = some (.int .i64 b)) :
    Calls Try.prog 46 #[.int .i64 16, .slice (some ⟨g, 0, none⟩) 2 c] w fun e w' => e = .returned (.int .i64 (cmpR 16 a b)) ∧ Below w.heap.size w w' := by
  have hr : cmpR 16 a b = if decide (a < b) then 1 else 0 := by
    have : cmpR 16 a b = tr (a < b) := rfl
    rw [this]
    unfold tr
    by_cases h : a < b <;> simp [h]
  rw [hr]
  have HT := Lib.hid (fun W => rtruth_any (decide (a < b)) W)
  clear hr
  generalize (if (decide (a < b)) = true then (1 : Int) else 0) = z at *
  go_enter Try.func46, Try.ntmps46
  go_wp2_with fail
  go_region_held3 (fun w' => w'.cell? ⟨g, 0, none⟩ = some (.int .i64 a) ∧ w'.cell? ⟨g, 1, none⟩ = some (.int .i64 b)) (refine ⟨?_, ?_⟩ <;> first | assumption | (go_simp; done))
    (first | (go_at_call 30; refine (HT.out _).mono ?_; rintro e w' ⟨rfl, rfl⟩))
  all_goals go_wp2
  all_goals go_ret
  all_goals exact ⟨rfl, (Below.refl _ _).drew⟩
theorem rcompare_17 (g c : Nat) (a b : Int) (w : World) (h0 : w.cell? ⟨g, 0, none⟩ = some (.int .i64 a)) (h1 : w.cell? ⟨g, 1, none⟩ = some (.int .i64 b)) :
    Calls Try.prog 46 #[.int .i64 17, .slice (some ⟨g, 0, none⟩) 2 c] w fun e w' => e = .returned (.int .i64 (cmpR 17 a b)) ∧ Below w.heap.size w w' := by
  have hr : cmpR 17 a b = if decide (a ≤ b) then 1 else 0 := by
    have : cmpR 17 a b = tr (a ≤ b) := rfl
    rw [this]
    unfold tr
    by_cases h : a ≤ b <;> simp [h]
  rw [hr]
  have HT := Lib.hid (fun W => rtruth_any (decide (a ≤ b)) W)
  clear hr
  generalize (if (decide (a ≤ b)) = true then (1 : Int) else 0) = z at *
  go_enter Try.func46, Try.ntmps46
  go_wp2_with fail
  go_region_held3 (fun w' => w'.cell? ⟨g, 0, none⟩ = some (.int .i64 a) ∧ w'.cell? ⟨g, 1, none⟩ = some (.int .i64 b)) (refine ⟨?_, ?_⟩ <;> first | assumption | (go_simp; done))
    (first | (go_at_call 30; refine (HT.out _).mono ?_; rintro e w' ⟨rfl, rfl⟩))
  all_goals go_wp2
  all_goals go_ret
  all_goals exact ⟨rfl, (Below.refl _ _).drew⟩
theorem rcompare_18 (g c : Nat) (a b : Int) (w : World) (h0 : w.cell? ⟨g, 0, none⟩ = some (.int .i64 a)) (h1 : w.cell? ⟨g, 1, none⟩ = some (.int .i64 b)) :
    Calls Try.prog 46 #[.int .i64 18, .slice (some ⟨g, 0, none⟩) 2 c] w fun e w' => e = .returned (.int .i64 (cmpR 18 a b)) ∧ Below w.heap.size w w' := by
  have hr : cmpR 18 a b = if decide (b < a) then 1 else 0 := by
    have : cmpR 18 a b = tr (b < a) := rfl
    rw [this]
    unfold tr
    by_cases h : b < a <;> simp [h]
  rw [hr]
  have HT := Lib.hid (fun W => rtruth_any (decide (b < a)) W)
  clear hr
  generalize (if (decide (b < a)) = true then (1 : Int) else 0) = z at *
  go_enter Try.func46, Try.ntmps46
  go_wp2_with fail
  go_region_held3 (fun w' => w'.cell? ⟨g, 0, none⟩ = some (.int .i64 a) ∧ w'.cell? ⟨g, 1, none⟩ = some (.int .i64 b)) (refine ⟨?_, ?_⟩ <;> first | assumption | (go_simp; done))
    (first | (go_at_call 30; refine (HT.out _).mono ?_; rintro e w' ⟨rfl, rfl⟩))
  all_goals go_wp2
  all_goals go_ret
  all_goals exact ⟨rfl, (Below.refl _ _).drew⟩
theorem rcompare_19 (g c : Nat) (a b : Int) (w : World) (h0 : w.cell? ⟨g, 0, none⟩ = some (.int .i64 a)) (h1 : w.cell? ⟨g, 1, none⟩ = some (.int .i64 b)) :
    Calls Try.prog 46 #[.int .i64 19, .slice (some ⟨g, 0, none⟩) 2 c] w fun e w' => e = .returned (.int .i64 (cmpR 19 a b)) ∧ Below w.heap.size w w' := by
  have hr : cmpR 19 a b = if decide (b ≤ a) then 1 else 0 := by
    have : cmpR 19 a b = tr (b ≤ a) := rfl
    rw [this]
    unfold tr
    by_cases h : b ≤ a <;> simp [h]
  rw [hr]
  have HT := Lib.hid (fun W => rtruth_any (decide (b ≤ a)) W)
  clear hr
  generalize (if (decide (b ≤ a)) = true then (1 : Int) else 0) = z at *
  go_enter Try.func46, Try.ntmps46
  go_wp2_with fail
  go_region_held3 (fun w' => w'.cell? ⟨g, 0, none⟩ = some (.int .i64 a) ∧ w'.cell? ⟨g, 1, none⟩ = some (.int .i64 b)) (refine ⟨?_, ?_⟩ <;> first | assumption | (go_simp; done))
    (first | (go_at_call 30; refine (HT.out _).mono ?_; rintro e w' ⟨rfl, rfl⟩))
  all_goals go_wp2
  all_goals go_ret
  all_goals exact ⟨rfl, (Below.refl _ _).drew⟩
theorem rcompare_20 (g c : Nat) (a b : Int) (w : World) (h0 : w.cell? ⟨g, 0, none⟩ = some (.int .i64 a)) (h1 : w.cell? ⟨g, 1, none⟩ = some (.int .i64 b)) :
    Calls Try.prog 46 #[.int .i64 20, .slice (some ⟨g, 0, none⟩) 2 c] w fun e w' => e = .returned (.int .i64 (cmpR 20 a b)) ∧ Below w.heap.size w w' := by
  have hr : cmpR 20 a b = if (a == b) then 1 else 0 := by
    have : cmpR 20 a b = tr (a = b) := rfl
    rw [this]
    unfold tr
    by_cases h : a = b <;> simp [h]
  rw [hr]
  have HT := Lib.hid (fun W => rtruth_any ((a == b)) W)
  clear hr
  generalize (if ((a == b)) = true then (1 : Int) else 0) = z at *
  go_enter Try.func46, Try.ntmps46
  go_wp2_with fail
  go_region_held3 (fun w' => w'.cell? ⟨g, 0, none⟩ = some (.int .i64 a) ∧ w'.cell? ⟨g, 1, none⟩ = some (.int .i64 b)) (refine ⟨?_, ?_⟩ <;> first | assumption | (go_simp; done))
    (first | (go_at_call 30; refine (HT.out _).mono ?_; rintro e w' ⟨rfl, rfl⟩))
  all_goals go_wp2
  all_goals go_ret
  all_goals exact ⟨rfl, (Below.refl _ _).drew⟩
theorem rcompare_21 (g c : Nat) (a b : Int) (w : World) (h0 : w.cell? ⟨g, 0, none⟩ = some (.int .i64 a)) (h1 : w.cell? ⟨g, 1, none⟩ = some (.int .i64 b)) :
    Calls Try.prog 46 #[.int .i64 21, .slice (some ⟨g, 0, none⟩) 2 c] w fun e w' => e = .returned (.int .i64 (cmpR 21 a b)) ∧ Below w.heap.size w w' := by
  have hr : cmpR 21 a b = if (a != b) then 1 else 0 := by
    have : cmpR 21 a b = tr (¬ a = b) := rfl
    rw [this]
    unfold tr
    by_cases h : ¬ a = b <;> simp [h]
  rw [hr]
  have HT := Lib.hid (fun W => rtruth_any ((a != b)) W)
  clear hr
  generalize (if ((a != b)) = true then (1 : Int) else 0) = z at *
  go_enter Try.func46, Try.ntmps46
  go_wp2_with fail
  go_region_held3 (fun w' => w'.cell? ⟨g, 0, none⟩ = some (.int .i64 a) ∧ w'.cell? ⟨g, 1, none⟩ = some (.int .i64 b)) (refine ⟨?_, ?_⟩ <;> first | assumption | (go_simp; done))
    (first | (go_at_call 30; refine (HT.out _).mono ?_; rintro e w' ⟨rfl, rfl⟩))
  all_goals go_wp2
  all_goals go_ret
  all_goals exact ⟨rfl, (Below.refl _ _).drew⟩
theorem rcompare_25 (g c : Nat) (a b : Int) (w : World) (h0 : w.cell? ⟨g, 0, none⟩ = some (.int .i64 a)) (h1 : w.cell? ⟨g, 1, none⟩ = some (.int .i64 b)) :
    Calls Try.prog 46 #[.int .i64 25, .slice (some ⟨g, 0, none⟩) 2 c] w fun e w' => e = .returned (.int .i64 (cmpR 25 a b)) ∧ Below w.heap.size w w' := by
  have hr : cmpR 25 a b = if b < a then b else a := rfl
  rw [hr]
  by_cases h : b < a
  · rw [if_pos h]
    go_enter Try.func46, Try.ntmps46
    go_wp2_with fail
    go_region_held3 (fun w' => w'.cell? ⟨g, 0, none⟩ = some (.int .i64 a) ∧ w'.cell? ⟨g, 1, none⟩ = some (.int .i64 b)) (refine ⟨?_, ?_⟩ <;> first | assumption | (go_simp; done)) (fail)
    all_goals go_wp2
    all_goals go_ret
    all_goals exact ⟨rfl, (Below.refl _ _).drew⟩
  · rw [if_neg h]
    have h' := decide_eq_false h
    go_enter Try.func46, Try.ntmps46
    go_wp2_with fail
    go_region_held3 (fun w' => w'.cell? ⟨g, 0, none⟩ = some (.int .i64 a) ∧ w'.cell? ⟨g, 1, none⟩ = some (.int .i64 b)) (refine ⟨?_, ?_⟩ <;> first | assumption | (go_simp; done)) (fail)
    all_goals go_wp2
    all_goals go_ret
    all_goals exact ⟨rfl, (Below.refl _ _).drew⟩
theorem rcompare_26 (g c : Nat) (a b : Int) (w : World) (h0 : w.cell? ⟨g, 0, none⟩ = some (.int .i64 a)) (h1 : w.cell? ⟨g, 1, none⟩ = some (.int .i64 b)) :
    Calls Try.prog 46 #[.int .i64 26, .slice (some ⟨g, 0, none⟩) 2 c] w fun e w' => e = .returned (.int .i64 (cmpR 26 a b)) ∧ Below w.heap.size w w' := by
  have hr : cmpR 26 a b = if a < b then b else a := rfl
  rw [hr]
  by_cases h : a < b
  · rw [if_pos h]
    go_enter Try.func46, Try.ntmps46
    go_wp2_with fail
    go_region_held3 (fun w' => w'.cell? ⟨g, 0, none⟩ = some (.int .i64 a) ∧ w'.cell? ⟨g, 1, none⟩ = some (.int .i64 b)) (refine ⟨?_, ?_⟩ <;> first | assumption | (go_simp; done)) (fail)
    all_goals go_wp2
    all_goals go_ret
    all_goals exact ⟨rfl, (Below.refl _ _).drew⟩
  · rw [if_neg h]
    have h' := decide_eq_false h
    go_enter Try.func46, Try.ntmps46
    go_wp2_with fail
    go_region_held3 (fun w' => w'.cell? ⟨g, 0, none⟩ = some (.int .i64 a) ∧ w'.cell? ⟨g, 1, none⟩ = some (.int .i64 b)) (refine ⟨?_, ?_⟩ <;> first | assumption | (go_simp; done)) (fail)
    all_goals go_wp2
    all_goals go_ret
    all_goals exact ⟨rfl, (Below.refl _ _).drew⟩
theorem rop_9 (g cp : Nat) (mode a b c : Int) (ha : inR a) (hb : inR b) (hc : inR c) (w : World) (h0 : w.cell? ⟨g, 0, none⟩ = some (.int .i64 a)) :
    Calls Try.prog 31 #[.int .i64 9, .int .i64 mode, .slice (some ⟨g, 0, none⟩) 1 cp] w fun e w' => e = .returned (.tuple #[.int .i64 (opR 9 mode a b c).1, .int .i64 (opR 9 mode a b c).2]) ∧ Below w.heap.size w w' := by
  have hs : opR 9 mode a b c = (fitV (-a), fitF (-a)) := by simp [opR]
  rw [hs]
  have KK := Lib.hid (fun W : World => refNeg_any a ha W)
  go_enter Try.func31, Try.ntmps31
  go_wp2_with fail
  go_at_call 38
  refine (KK.out _).mono ?_
  rintro e w1 ⟨rfl, b1⟩
  have B1 := Lib.hid b1
  clear b1
  go_wp2_with fail
  go_ret2
  exact ⟨rfl, B1.out⟩
theorem rop_27 (g cp : Nat) (mode a b c : Int) (ha : inR a) (hb : inR b) (hc : inR c) (w : World) (h0 : w.cell? ⟨g, 0, none⟩ = some (.int .i64 a)) :
    Calls Try.prog 31 #[.int .i64 27, .int .i64 mode, .slice (some ⟨g, 0, none⟩) 1 cp] w fun e w' => e = .returned (.tuple #[.int .i64 (opR 27 mode a b c).1, .int .i64 (opR 27 mode a b c).2]) ∧ Below w.heap.size w w' := by
  have hs : opR 27 mode a b c = (fitV (absI a), fitF (absI a)) := by simp [opR]
  rw [hs]
  have KK := Lib.hid (fun W : World => refAbs_any a ha W)
  go_enter Try.func31, Try.ntmps31
  go_wp2_with fail
  go_at_call 39
  refine (KK.out _).mono ?_
  rintro e w1 ⟨rfl, b1⟩
  have B1 := Lib.hid b1
  clear b1
  go_wp2_with fail
  go_ret2
  exact ⟨rfl, B1.out⟩
theorem rop_11 (g cp : Nat) (mode a b c : Int) (ha : inR a) (hb : inR b) (hc : inR c) (w : World) (h0 : w.cell? ⟨g, 0, none⟩ = some (.int .i64 a)) (h1 : w.cell? ⟨g, 1, none⟩ = some (.int .i64 b)) :
    Calls Try.prog 31 #[.int .i64 11, .int .i64 mode, .slice (some ⟨g, 0, none⟩) 2 cp] w fun e w' => e = .returned (.tuple #[.int .i64 (opR 11 mode a b c).1, .int .i64 (opR 11 mode a b c).2]) ∧ Below w.heap.size w w' := by
  have hg : g < w.heap.size := World.block_lt_of_cell? w ⟨g, 0, none⟩ h0
  have hs : opR 11 mode a b c = (fitV (a + b), fitF (a + b)) := by simp [opR]
  rw [hs]
  have KK := Lib.hid (fun W : World => refAdd_any a b ha hb W)
  go_enter Try.func31, Try.ntmps31
  go_wp2_with fail
  go_region_held3 (fun w' => w'.cell? ⟨g, 0, none⟩ = some (.int .i64 a) ∧ w'.cell? ⟨g, 1, none⟩ = some (.int .i64 b)) (refine ⟨?_, ?_⟩ <;> first | assumption | (go_simp; done))
    (first | (go_at_call 40; refine (KK.out _).mono ?_; rintro e w1 ⟨rfl, b1⟩; have B1 := Lib.hid (show Below w.heap.size w w1 from (Below.refl _ _).drew.trans b1); have u0 := (B1.out.cell (p := ⟨g, 0, none⟩) hg).trans h0; have u1 := (B1.out.cell (p := ⟨g, 1, none⟩) hg).trans h1; clear b1))
  all_goals go_wp2
  all_goals go_ret2
  all_goals exact ⟨rfl, B1.out⟩
theorem rop_12 (g cp : Nat) (mode a b c : Int) (ha : inR a) (hb : inR b) (hc : inR c) (w : World) (h0 : w.cell? ⟨g, 0, none⟩ = some (.int .i64 a)) (h1 : w.cell? ⟨g, 1, none⟩ = some (.int .i64 b)) :
    Calls Try.prog 31 #[.int .i64 12, .int .i64 mode, .slice (some ⟨g, 0, none⟩) 2 cp] w fun e w' => e = .returned (.tuple #[.int .i64 (opR 12 mode a b c).1, .int .i64 (opR 12 mode a b c).2]) ∧ Below w.heap.size w w' := by
  have hg : g < w.heap.size := World.block_lt_of_cell? w ⟨g, 0, none⟩ h0
  have hs : opR 12 mode a b c = (fitV (a - b), fitF (a - b)) := by simp [opR]
  rw [hs]
  have KK := Lib.hid (fun W : World => refSub_any a b ha hb W)
  go_enter Try.func31, Try.ntmps31
  go_wp2_with fail
  go_region_held3 (fun w' => w'.cell? ⟨g, 0, none⟩ = some (.int .i64 a) ∧ w'.cell? ⟨g, 1, none⟩ = some (.int .i64 b)) (refine ⟨?_, ?_⟩ <;> first | assumption | (go_simp; done))
    (first | (go_at_call 41; refine (KK.out _).mono ?_; rintro e w1 ⟨rfl, b1⟩; have B1 := Lib.hid (show Below w.heap.size w w1 from (Below.refl _ _).drew.trans b1); have u0 := (B1.out.cell (p := ⟨g, 0, none⟩) hg).trans h0; have u1 := (B1.out.cell (p := ⟨g, 1, none⟩) hg).trans h1; clear b1))
  all_goals go_wp2
  all_goals go_ret2
  all_goals exact ⟨rfl, B1.out⟩
theorem rop_13 (g cp : Nat) (mode a b c : Int) (ha : inR a) (hb : inR b) (hc : inR c) (w : World) (h0 : w.cell? ⟨g, 0, none⟩ = some (.int .i64 a)) (h1 : w.cell? ⟨g, 1, none⟩ = some (.int .i64 b)) :
    Calls Try.prog 31 #[.int .i64 13, .int .i64 mode, .slice (some ⟨g, 0, none⟩) 2 cp] w fun e w' => e = .returned (.tuple #[.int .i64 (opR 13 mode a b c).1, .int .i64 (opR 13 mode a b c).2]) ∧ Below w.heap.size w w' := by
  have hg : g < w.heap.size := World.block_lt_of_cell? w ⟨g, 0, none⟩ h0
  have hs : opR 13 mode a b c = (fitV (a * b), fitF (a * b)) := by simp [opR]
  rw [hs]
  have KK := Lib.hid (fun W : World => refMul_any a b ha hb W)
  go_enter Try.func31, Try.ntmps31
  go_wp2_with fail
  go_region_held3 (fun w' => w'.cell? ⟨g, 0, none⟩ = some (.int .i64 a) ∧ w'.cell? ⟨g, 1, none⟩ = some (.int .i64 b)) (refine ⟨?_, ?_⟩ <;> first | assumption | (go_simp; done))
    (first | (go_at_call 42; refine (KK.out _).mono ?_; rintro e w1 ⟨rfl, b1⟩; have B1 := Lib.hid (show Below w.heap.size w w1 from (Below.refl _ _).drew.trans b1); have u0 := (B1.out.cell (p := ⟨g, 0, none⟩) hg).trans h0; have u1 := (B1.out.cell (p := ⟨g, 1, none⟩) hg).trans h1; clear b1))
  all_goals go_wp2
  all_goals go_ret2
  all_goals exact ⟨rfl, B1.out⟩
theorem rop_14 (g cp : Nat) (mode a b c : Int) (ha : inR a) (hb : inR b) (hc : inR c) (w : World) (h0 : w.cell? ⟨g, 0, none⟩ = some (.int .i64 a)) (h1 : w.cell? ⟨g, 1, none⟩ = some (.int .i64 b)) :
    Calls Try.prog 31 #[.int .i64 14, .int .i64 mode, .slice (some ⟨g, 0, none⟩) 2 cp] w fun e w' => e = .returned (.tuple #[.int .i64 (opR 14 mode a b c).1, .int .i64 (opR 14 mode a b c).2]) ∧ Below w.heap.size w w' := by
  have hg : g < w.heap.size := World.block_lt_of_cell? w ⟨g, 0, none⟩ h0
  have hs : opR 14 mode a b c = (divV a b, divF a b) := by simp [opR]
  rw [hs]
  have KK := Lib.hid (fun W : World => refDiv_any a b ha hb W)
  go_enter Try.func31, Try.ntmps31
  go_wp2_with fail
  go_region_held3 (fun w' => w'.cell? ⟨g, 0, none⟩ = some (.int .i64 a) ∧ w'.cell? ⟨g, 1, none⟩ = some (.int .i64 b)) (refine ⟨?_, ?_⟩ <;> first | assumption | (go_simp; done))
    (first | (go_at_call 43; refine (KK.out _).mono ?_; rintro e w1 ⟨rfl, b1⟩; have B1 := Lib.hid (show Below w.heap.size w w1 from (Below.refl _ _).drew.trans b1); have u0 := (B1.out.cell (p := ⟨g, 0, none⟩) hg).trans h0; have u1 := (B1.out.cell (p := ⟨g, 1, none⟩) hg).trans h1; clear b1))
  all_goals go_wp2
  all_goals go_ret2
  all_goals exact ⟨rfl, B1.out⟩
theorem rop_15 (g cp : Nat) (mode a b c : Int) (ha : inR a) (hb : inR b) (hc : inR c) (w : World) (h0 : w.cell? ⟨g, 0, none⟩ = some (.int .i64 a)) (h1 : w.cell? ⟨g, 1, none⟩ = some (.int .i64 b)) :
    Calls Try.prog 31 #[.int .i64 15, .int .i64 mode, .slice (some ⟨g, 0, none⟩) 2 cp] w fun e w' => e = .returned (.tuple #[.int .i64 (opR 15 mode a b c).1, .int .i64 (opR 15 mode a b c).2]) ∧ Below w.heap.size w w' := by
  have hg : g < w.heap.size := World.block_lt_of_cell? w ⟨g, 0, none⟩ h0
  have hs : opR 15 mode a b c = (modV a b, modF b) := by simp [opR]
  rw [hs]
  have KK := Lib.hid (fun W : World => refMod_any a b ha hb W)
  go_enter Try.func31, Try.ntmps31
  go_wp2_with fail
  go_region_held3 (fun w' => w'.cell? ⟨g, 0, none⟩ = some (.int .i64 a) ∧ w'.cell? ⟨g, 1, none⟩ = some (.int .i64 b)) (refine ⟨?_, ?_⟩ <;> first | assumption | (go_simp; done))
    (first | (go_at_call 44; refine (KK.out _).mono ?_; rintro e w1 ⟨rfl, b1⟩; have B1 := Lib.hid (show Below w.heap.size w w1 from (Below.refl _ _).drew.trans b1); have u0 := (B1.out.cell (p := ⟨g, 0, none⟩) hg).trans h0; have u1 := (B1.out.cell (p := ⟨g, 1, none⟩) hg).trans h1; clear b1))
  all_goals go_wp2
  all_goals go_ret2
  all_goals exact ⟨rfl, B1.out⟩
theorem rop_10 (g cp : Nat) (mode a b c : Int) (ha : inR a) (hb : inR b) (hc : inR c) (w : World) (h0 : w.cell? ⟨g, 0, none⟩ = some (.int .i64 a)) :
    Calls Try.prog 31 #[.int .i64 10, .int .i64 mode, .slice (some ⟨g, 0, none⟩) 1 cp] w fun e w' => e = .returned (.tuple #[.int .i64 (opR 10 mode a b c).1, .int .i64 (opR 10 mode a b c).2]) ∧ Below w.heap.size w w' := by
  have hs : opR 10 mode a b c = (cmpR 10 a b, 0) := by simp [opR]
  rw [hs]
  have KK := Lib.hid (rcompare_10 g cp a b w h0)
  generalize cmpR 10 a b = rr at *
  go_enter Try.func31, Try.ntmps31
  go_wp2_with fail
  go_at_call 46
  refine KK.out.mono ?_
  rintro e w1 ⟨rfl, b1⟩
  have B1 := Lib.hid b1
  clear b1
  go_wp2_with fail
  go_ret2
  exact ⟨rfl, B1.out⟩
theorem rop_16 (g cp : Nat) (mode a b c : Int) (ha : inR a) (hb : inR b) (hc : inR c) (w : World) (h0 : w.cell? ⟨g, 0, none⟩ = some (.int .i64 a)) (h1 : w.cell? ⟨g, 1, none⟩ = some (.int .i64 b)) :
    Calls Try.prog 31 #[.int .i64 16, .int .i64 mode, .slice (some ⟨g, 0, none⟩) 2 cp] w fun e w' => e = .returned (.tuple #[.int .i64 (opR 16 mode a b c).1, .int .i64 (opR 16 mode a b c).2]) ∧ Below w.heap.size w w' := by
  have hs : opR 16 mode a b c = (cmpR 16 a b, 0) := by simp [opR]
  rw [hs]
  have KK := Lib.hid (rcompare_16 g cp a b w h0 h1)
  generalize cmpR 16 a b = rr at *
  go_enter Try.func31, Try.ntmps31
  go_wp2_with fail
  go_at_call 46
  refine KK.out.mono ?_
  rintro e w1 ⟨rfl, b1⟩
  have B1 := Lib.hid b1
  clear b1
  go_wp2_with fail
  go_ret2
  exact ⟨rfl, B1.out⟩
theorem rop_17 (g cp : Nat) (mode a b c : Int) (ha : inR a) (hb : inR b) (hc : inR c) (w : World) (h0 : w.cell? ⟨g, 0, none⟩ = some (.int .i64 a)) (h1 : w.cell? ⟨g, 1, none⟩ = some (.int .i64 b)) :
    Calls Try.prog 31 #[.int .i64 17, .int .i64 mode, .slice (some ⟨g, 0, none⟩) 2 cp] w fun e w' => e = .returned (.tuple #[.int .i64 (opR 17 mode a b c).1, .int .i64 (opR 17 mode a b c).2]) ∧ Below w.heap.size w w' := by
  have hs : opR 17 mode a b c = (cmpR 17 a b, 0) := by simp [opR]
  rw [hs]
  have KK := Lib.hid (rcompare_17 g cp a b w h0 h1)
  generalize cmpR 17 a b = rr at *
  go_enter Try.func31, Try.ntmps31
  go_wp2_with fail
  go_at_call 46
  refine KK.out.mono ?_
  rintro e w1 ⟨rfl, b1⟩
  have B1 := Lib.hid b1
  clear b1
  go_wp2_with fail
  go_ret2
  exact ⟨rfl, B1.out⟩
theorem rop_18 (g cp : Nat) (mode a b c : Int) (ha : inR a) (hb : inR b) (hc : inR c) (w : World) (h0 : w.cell? ⟨g, 0, none⟩ = some (.int .i64 a)) (h1 : w.cell? ⟨g, 1, none⟩ = some (.int .i64 b)) :
    Calls Try.prog 31 #[.int .i64 18, .int .i64 mode, .slice (some ⟨g, 0, none⟩) 2 cp] w fun e w' => e = .returned (.tuple #[.int .i64 (opR 18 mode a b c).1, .int .i64 (opR 18 mode a b c).2]) ∧ Below w.heap.size w w' := by
  have hs : opR 18 mode a b c = (cmpR 18 a b, 0) := by simp [opR]
  rw [hs]
  have KK := Lib.hid (rcompare_18 g cp a b w h0 h1)
  generalize cmpR 18 a b = rr at *
  go_enter Try.func31, Try.ntmps31
  go_wp2_with fail
  go_at_call 46
  refine KK.out.mono ?_
  rintro e w1 ⟨rfl, b1⟩
  have B1 := Lib.hid b1
  clear b1
  go_wp2_with fail
  go_ret2
  exact ⟨rfl, B1.out⟩
theorem rop_19 (g cp : Nat) (mode a b c : Int) (ha : inR a) (hb : inR b) (hc : inR c) (w : World) (h0 : w.cell? ⟨g, 0, none⟩ = some (.int .i64 a)) (h1 : w.cell? ⟨g, 1, none⟩ = some (.int .i64 b)) :
    Calls Try.prog 31 #[.int .i64 19, .int .i64 mode, .slice (some ⟨g, 0, none⟩) 2 cp] w fun e w' => e = .returned (.tuple #[.int .i64 (opR 19 mode a b c).1, .int .i64 (opR 19 mode a b c).2]) ∧ Below w.heap.size w w' := by
  have hs : opR 19 mode a b c = (cmpR 19 a b, 0) := by simp [opR]
  rw [hs]
  have KK := Lib.hid (rcompare_19 g cp a b w h0 h1)
  generalize cmpR 19 a b = rr at *
  go_enter Try.func31, Try.ntmps31
  go_wp2_with fail
  go_at_call 46
  refine KK.out.mono ?_
  rintro e w1 ⟨rfl, b1⟩
  have B1 := Lib.hid b1
  clear b1
  go_wp2_with fail
  go_ret2
  exact ⟨rfl, B1.out⟩
theorem rop_20 (g cp : Nat) (mode a b c : Int) (ha : inR a) (hb : inR b) (hc : inR c) (w : World) (h0 : w.cell? ⟨g, 0, none⟩ = some (.int .i64 a)) (h1 : w.cell? ⟨g, 1, none⟩ = some (.int .i64 b)) :
    Calls Try.prog 31 #[.int .i64 20, .int .i64 mode, .slice (some ⟨g, 0, none⟩) 2 cp] w fun e w' => e = .returned (.tuple #[.int .i64 (opR 20 mode a b c).1, .int .i64 (opR 20 mode a b c).2]) ∧ Below w.heap.size w w' := by
  have hs : opR 20 mode a b c = (cmpR 20 a b, 0) := by simp [opR]
  rw [hs]
  have KK := Lib.hid (rcompare_20 g cp a b w h0 h1)
  generalize cmpR 20 a b = rr at *
  go_enter Try.func31, Try.ntmps31
  go_wp2_with fail
  go_at_call 46
  refine KK.out.mono ?_
  rintro e w1 ⟨rfl, b1⟩
  have B1 := Lib.hid b1
  clear b1
  go_wp2_with fail
  go_ret2
  exact ⟨rfl, B1.out⟩
theorem rop_21 (g cp : Nat) (mode a b c : Int) (ha : inR a) (hb : inR b) (hc : inR c) (w : World) (h0 : w.cell? ⟨g, 0, none⟩ = some (.int .i64 a)) (h1 : w.cell? ⟨g, 1, none⟩ = some (.int .i64 b)) :
    Calls Try.prog 31 #[.int .i64 21, .int .i64 mode, .slice (some ⟨g, 0, none⟩) 2 cp] w fun e w' => e = .returned (.tuple #[.int .i64 (opR 21 mode a b c).1, .int .i64 (opR 21 mode a b c).2]) ∧ Below w.heap.size w w' := by
  have hs : opR 21 mode a b c = (cmpR 21 a b, 0) := by simp [opR]
  rw [hs]
  have KK := Lib.hid (rcompare_21 g cp a b w h0 h1)
  generalize cmpR 21 a b = rr at *
  go_enter Try.func31, Try.ntmps31
  go_wp2_with fail
  go_at_call 46
  refine KK.out.mono ?_
  rintro e w1 ⟨rfl, b1⟩
  have B1 := Lib.hid b1
  clear b1
  go_wp2_with fail
  go_ret2
  exact ⟨rfl, B1.out⟩
theorem rop_25 (g cp : Nat) (mode a b c : Int) (ha : inR a) (hb : inR b) (hc : inR c) (w : World) (h0 : w.cell? ⟨g, 0, none⟩ = some (.int .i64 a)) (h1 : w.cell? ⟨g, 1, none⟩ = some (.int .i64 b)) :
    Calls Try.prog 31 #[.int .i64 25, .int .i64 mode, .slice (some ⟨g, 0, none⟩) 2 cp] w fun e w' => e = .returned (.tuple #[.int .i64 (opR 25 mode a b c).1, .int .i64 (opR 25 mode a b c).2]) ∧ Below w.heap.size w w' := by
  have hs : opR 25 mode a b c = (cmpR 25 a b, 0) := by simp [opR]
  rw [hs]
  have KK := Lib.hid (rcompare_25 g cp a b w h0 h1)
  generalize cmpR 25 a b = rr at *
  go_enter Try.func31, Try.ntmps31
  go_wp2_with fail
  go_at_call 46
  refine KK.out.mono ?_
  rintro e w1 ⟨rfl, b1⟩
  have B1 := Lib.hid b1
  clear b1
  go_wp2_with fail
  go_ret2
  exact ⟨rfl, B1.out⟩
theorem rop_26 (g cp : Nat) (mode a b c : Int) (ha : inR a) (hb : inR b) (hc : inR c) (w : World) (h0 : w.cell? ⟨g, 0, none⟩ = some (.int .i64 a)) (h1 : w.cell? ⟨g, 1, none⟩ = some (.int .i64 b)) :
    Calls Try.prog 31 #[.int .i64 26, .int .i64 mode, .slice (some ⟨g, 0, none⟩) 2 cp] w fun e w' => e = .returned (.tuple #[.int .i64 (opR 26 mode a b c).1, .int .i64 (opR 26 mode a b c).2]) ∧ Below w.heap.size w w' := by
  have hs : opR 26 mode a b c = (cmpR 26 a b, 0) := by simp [opR]
  rw [hs]
  have KK := Lib.hid (rcompare_26 g cp a b w h0 h1)
  generalize cmpR 26 a b = rr at *
  go_enter Try.func31, Try.ntmps31
  go_wp2_with fail
  go_at_call 46
  refine KK.out.mono ?_
  rintro e w1 ⟨rfl, b1⟩
  have B1 := Lib.hid b1
  clear b1
  go_wp2_with fail
  go_ret2
  exact ⟨rfl, B1.out⟩
theorem rop_28 (g cp : Nat) (mode a b c : Int) (ha : inR a) (hb : inR b) (hc : inR c) (w : World) (h0 : w.cell? ⟨g, 0, none⟩ = some (.int .i64 a)) (h1 : w.cell? ⟨g, 1, none⟩ = some (.int .i64 b)) (h2 : w.cell? ⟨g, 2, none⟩ = some (.int .i64 c)) :
    Calls Try.prog 31 #[.int .i64 28, .int .i64 mode, .slice (some ⟨g, 0, none⟩) 3 cp] w fun e w' => e = .returned (.tuple #[.int .i64 (opR 28 mode a b c).1, .int .i64 (opR 28 mode a b c).2]) ∧ Below w.heap.size w w' := by
  have hg : g < w.heap.size := World.block_lt_of_cell? w ⟨g, 0, none⟩ h0
  by_cases hz : c = 0
  · subst hz
    have hs : opR 28 mode a b 0 = (0, 2) := by simp [opR]
    rw [hs]
    go_enter Try.func31, Try.ntmps31
    go_wp2_with fail
    go_region_held3 (fun w' => w'.cell? ⟨g, 0, none⟩ = some (.int .i64 a) ∧ w'.cell? ⟨g, 1, none⟩ = some (.int .i64 b) ∧ w'.cell? ⟨g, 2, none⟩ = some (.int .i64 0)) (refine ⟨?_, ?_, ?_⟩ <;> first | assumption | (go_simp; done))
      (first | (go_at_call 45; refine (refRatio_zero a b mode _).mono ?_; rintro e w1 ⟨rfl, rfl⟩))
    all_goals go_wp2
    all_goals go_ret2
    all_goals exact ⟨rfl, (Below.refl _ _).drew⟩
  · have hs : opR 28 mode a b c = (fitV (ratN a b c mode), fitF (ratN a b c mode)) := by simp [opR, hz]
    rw [hs]
    have KK := Lib.hid (fun W : World => refRatio_any a b c mode ha hb hc hz W)
    go_enter Try.func31, Try.ntmps31
    go_wp2_with fail
    go_region_held3 (fun w' => w'.cell? ⟨g, 0, none⟩ = some (.int .i64 a) ∧ w'.cell? ⟨g, 1, none⟩ = some (.int .i64 b) ∧ w'.cell? ⟨g, 2, none⟩ = some (.int .i64 c)) (refine ⟨?_, ?_, ?_⟩ <;> first | assumption | (go_simp; done))
      (first | (go_at_call 45; refine (KK.out _).mono ?_; rintro e w1 ⟨rfl, b1⟩; have B1 := Lib.hid (show Below w.heap.size w w1 from (Below.refl _ _).drew.trans b1); have u0 := (B1.out.cell (p := ⟨g, 0, none⟩) hg).trans h0; have u1 := (B1.out.cell (p := ⟨g, 1, none⟩) hg).trans h1; have u2 := (B1.out.cell (p := ⟨g, 2, none⟩) hg).trans h2; clear b1))
    all_goals go_wp2
    all_goals go_ret2
    all_goals exact ⟨rfl, B1.out⟩
/-- Operate, whichever operator. -/
theorem rop_any (op : Int) (hG : Gop op) (g cp n : Nat) (hn : shp op = (n : Int)) (mode a b c : Int) (ha : inR a) (hb : inR b) (hc : inR c) (w : World) (h0 : w.cell? ⟨g, 0, none⟩ = some (.int .i64 a)) (h1 : 1 < n → w.cell? ⟨g, 1, none⟩ = some (.int .i64 b)) (h2 : 2 < n → w.cell? ⟨g, 2, none⟩ = some (.int .i64 c)) :
    Calls Try.prog 31 #[.int .i64 op, .int .i64 mode, .slice (some ⟨g, 0, none⟩) n cp] w fun e w' => e = .returned (.tuple #[.int .i64 (opR op mode a b c).1, .int .i64 (opR op mode a b c).2]) ∧ Below w.heap.size w w' := by
  unfold Gop at hG
  rcases hG with rfl | rfl | rfl | rfl | rfl | rfl | rfl | rfl | rfl | rfl | rfl | rfl | rfl | rfl | rfl | rfl | rfl
  · obtain rfl : n = 1 := by have : shp 9 = 1 := rfl; omega
    exact rop_9 g cp mode a b c ha hb hc w h0
  · obtain rfl : n = 1 := by have : shp 10 = 1 := rfl; omega
    exact rop_10 g cp mode a b c ha hb hc w h0
  · obtain rfl : n = 1 := by have : shp 27 = 1 := rfl; omega
    exact rop_27 g cp mode a b c ha hb hc w h0
  · obtain rfl : n = 2 := by have : shp 11 = 2 := rfl; omega
    exact rop_11 g cp mode a b c ha hb hc w h0 (h1 (by omega))
  · obtain rfl : n = 2 := by have : shp 12 = 2 := rfl; omega
    exact rop_12 g cp mode a b c ha hb hc w h0 (h1 (by omega))
  · obtain rfl : n = 2 := by have : shp 13 = 2 := rfl; omega
    exact rop_13 g cp mode a b c ha hb hc w h0 (h1 (by omega))
  · obtain rfl : n = 2 := by have : shp 14 = 2 := rfl; omega
    exact rop_14 g cp mode a b c ha hb hc w h0 (h1 (by omega))
  · obtain rfl : n = 2 := by have : shp 15 = 2 := rfl; omega
    exact rop_15 g cp mode a b c ha hb hc w h0 (h1 (by omega))
  · obtain rfl : n = 2 := by have : shp 16 = 2 := rfl; omega
    exact rop_16 g cp mode a b c ha hb hc w h0 (h1 (by omega))
  · obtain rfl : n = 2 := by have : shp 17 = 2 := rfl; omega
    exact rop_17 g cp mode a b c ha hb hc w h0 (h1 (by omega))
  · obtain rfl : n = 2 := by have : shp 18 = 2 := rfl; omega
    exact rop_18 g cp mode a b c ha hb hc w h0 (h1 (by omega))
  · obtain rfl : n = 2 := by have : shp 19 = 2 := rfl; omega
    exact rop_19 g cp mode a b c ha hb hc w h0 (h1 (by omega))
  · obtain rfl : n = 2 := by have : shp 20 = 2 := rfl; omega
    exact rop_20 g cp mode a b c ha hb hc w h0 (h1 (by omega))
  · obtain rfl : n = 2 := by have : shp 21 = 2 := rfl; omega
    exact rop_21 g cp mode a b c ha hb hc w h0 (h1 (by omega))
  · obtain rfl : n = 2 := by have : shp 25 = 2 := rfl; omega
    exact rop_25 g cp mode a b c ha hb hc w h0 (h1 (by omega))
  · obtain rfl : n = 2 := by have : shp 26 = 2 := rfl; omega
    exact rop_26 g cp mode a b c ha hb hc w h0 (h1 (by omega))
  · obtain rfl : n = 3 := by have : shp 28 = 3 := rfl; omega
    exact rop_28 g cp mode a b c ha hb hc w h0 (h1 (by omega)) (h2 (by omega))
end Go.Proofs.Ytjlnbhmiahegmaa
