/-
  WALKS: lists that rise; numbers within bounds (made by gen_wcan2.py).
-/
import Derived.Test.YteedkcmjhdabeaaDoorWCan1
import Derived.Laws.Cover1
namespace Go.Proofs.YteedkcmjhdabeaaDoor
open Go.RowKit
set_option linter.unusedVariables false
set_option linter.unusedSimpArgs false
/-- y is not behind z. -/
def leS (y z : ByteArray) : Bool := Op.bytesLess y.toList z.toList || (y.toList == z.toList)
theorem bl_tot : ∀ x y : List UInt8, (Op.bytesLess x y || (x == y)) = !(Op.bytesLess y x)
  | [], [] => rfl
  | [], _ :: _ => rfl
  | _ :: _, [] => rfl
  | a :: x, b :: y => by
    have ih := bl_tot x y
    have e : (a :: x == b :: y) = ((a == b) && (x == y)) := rfl
    rw [e]
    simp only [Op.bytesLess]
    by_cases h1 : a = b
    · subst h1
      have n1 : ¬ a < a := by rw [UInt8.lt_iff_toNat_lt]; omega
      simp only [n1, decide_false, Bool.false_or, beq_self_eq_true, Bool.true_and]
      exact ih
    · have h2 : ¬ b = a := fun q => h1 q.symm
      have e1 : (a == b) = false := by simpa using h1
      have e2 : (b == a) = false := by simpa using h2
      rw [e1, e2]
      simp only [Bool.false_and, Bool.or_false]
      have h3 : a.toNat ≠ b.toNat := fun q => h1 (UInt8.toNat_inj.1 q)
      by_cases h4 : a.toNat < b.toNat
      · have p1 : a < b := by rw [UInt8.lt_iff_toNat_lt]; exact h4
        have p2 : ¬ b < a := by rw [UInt8.lt_iff_toNat_lt]; omega
        simp [p1, p2]
      · have p1 : ¬ a < b := by rw [UInt8.lt_iff_toNat_lt]; exact h4
        have p2 : b < a := by rw [UInt8.lt_iff_toNat_lt]; omega
        simp [p1, p2]
theorem leS_ge (y z : ByteArray) : leS y z = !(Op.bytesLess z.toList y.toList) := bl_tot _ _
def riseS (ss : List ByteArray) : Prop := ∀ i, i + 1 < ss.length → leS (ss.getD (i + 1) default) (ss.getD i default) = false
def riseN (l : List Int) : Prop := ∀ i, i + 1 < l.length → l.getD i 0 < l.getD (i + 1) 0
noncomputable instance (ss : List ByteArray) : Decidable (riseS ss) := Classical.propDecidable _
noncomputable instance (l : List Int) : Decidable (riseN l) := Classical.propDecidable _
set_option maxRecDepth 100000 in
set_option maxHeartbeats 1000000 in
theorem risesS_any {w : World} {a : Option Addr} {n c : Nat} {ss : List ByteArray} (h : SR w a n c ss) :
    Calls Tryd.prog 38 #[.slice a n c] w fun e w' => e = .returned (.bool (decide (riseS ss))) ∧ ∃ q, w' = w.drewN q := by
  obtain ⟨_, l1, b1, s1, r1⟩ := h
  have R1 := Lib.hid r1
  have L1 := Lib.hid l1
  clear l1 r1 s1
  go_enter Tryd.func38, Tryd.ntmps38
  go_wp2
  go_loopw [3] (fun t wr => ∃ k : Nat, 1 ≤ k ∧ (k ≤ n ∨ k = 1) ∧ t = .int .i64 k ∧ RowKit.Hid (∀ i, i + 1 < k → i + 1 < ss.length → leS (ss.getD (i + 1) default) (ss.getD i default) = false) ∧ ∃ q, wr = w.drewN q) (fun t _ => n - (intOf t).toNat)
  case atStart => exact ⟨1, by omega, by omega, rfl, (fun i hi => absurd hi (by omega)), 0, rfl⟩
  case round =>
    obtain ⟨k, hk1, hk, rfl, hE, q, rfl⟩ := hrel
    by_cases hlt : k < n
    · obtain ⟨x, o, rfl, _, hc⟩ := R1.out.oneP (by omega)
      obtain ⟨j, hj⟩ : ∃ j, k = j + 1 := ⟨k - 1, by omega⟩
      have HJ := Lib.hid hj
      have c0 := hc k hlt 0 (by omega)
      have c1 := hc j (by omega) 0 (by omega)
      simp only [Nat.mul_one, Nat.add_zero, List.getD_cons_zero] at c0 c1
      have kc : (k : Int) < (n : Int) := by omega
      have kw : IntKind.i64.wrap ((k : Int) - 1) = (j : Int) := by simp [IntKind.wrap, IntKind.bits, IntKind.signed]; omega
      have kj : (j : Int) < (n : Int) := by omega
      clear hc hj
      by_cases e : leS (ss.getD k default) (ss.getD j default) = false
      · have NX := Lib.hid (p := ∀ i, i + 1 < k + 1 → i + 1 < ss.length → leS (ss.getD (i + 1) default) (ss.getD i default) = false) (fun i hi hi2 => by
          rcases (show i + 1 < k ∨ i + 1 = k by omega) with r | r
          · exact hE.out i r hi2
          · have r2 : i = j := by have := HJ.out; omega
            rw [r, r2]; exact e)
        have f1 := e
        unfold leS at f1
        generalize ss.getD k default = y at *
        generalize ss.getD j default = z at *
        clear e hE
        go_wp2
        go_quiet (fail)
        go_wp2
        go_roundw
        case rel => exact ⟨k + 1, by omega, by omega, by go_num, NX.out, _, by first | rfl | exact World.drewN_drewN _ _ _⟩
        case measure => simp [intOf]; omega
      · have RR := Lib.hid (p := decide (riseS ss) = false) (decide_eq_false (fun q => by have hq := q j (by rw [L1.out, ← HJ.out]; exact hlt); rw [← HJ.out] at hq; rw [hq] at e; exact e rfl))
        have e := Bool.eq_false_or_eq_true _ |>.resolve_right e
        have f1 := e
        unfold leS at f1
        generalize ss.getD k default = y at *
        generalize ss.getD j default = z at *
        clear e hE
        go_wp2
        go_quiet (fail)
        go_wp2
        go_ret
        exact ⟨retBP RR.out.symm, _, by first | rfl | exact World.drewN_drewN _ _ _⟩
    · have RR := Lib.hid (p := decide (riseS ss) = true) (decide_eq_true (fun i hi => hE.out i (by rw [L1.out] at hi; omega) hi))
      have kc : ¬ (k : Int) < (n : Int) := by omega
      clear hE
      go_wp2
      go_ret
      exact ⟨retBP RR.out.symm, _, rfl⟩
set_option maxRecDepth 100000 in
set_option maxHeartbeats 1000000 in
theorem risesN_any {w : World} {a : Option Addr} {n c : Nat} {ss : List Int} (h : NR w a n c ss) :
    Calls Tryd.prog 40 #[.slice a n c] w fun e w' => e = .returned (.bool (decide (riseN ss))) ∧ ∃ q, w' = w.drewN q := by
  obtain ⟨_, l1, b1, s1, r1⟩ := h
  have R1 := Lib.hid r1
  have L1 := Lib.hid l1
  clear l1 r1 s1
  go_enter Tryd.func40, Tryd.ntmps40
  go_wp2
  go_loopw [3] (fun t wr => ∃ k : Nat, 1 ≤ k ∧ (k ≤ n ∨ k = 1) ∧ t = .int .i64 k ∧ RowKit.Hid (∀ i, i + 1 < k → i + 1 < ss.length → ss.getD i 0 < ss.getD (i + 1) 0) ∧ ∃ q, wr = w.drewN q) (fun t _ => n - (intOf t).toNat)
  case atStart => exact ⟨1, by omega, by omega, rfl, (fun i hi => absurd hi (by omega)), 0, rfl⟩
  case round =>
    obtain ⟨k, hk1, hk, rfl, hE, q, rfl⟩ := hrel
    by_cases hlt : k < n
    · obtain ⟨x, o, rfl, _, hc⟩ := R1.out.oneP (by omega)
      obtain ⟨j, hj⟩ : ∃ j, k = j + 1 := ⟨k - 1, by omega⟩
      have HJ := Lib.hid hj
      have c0 := hc k hlt 0 (by omega)
      have c1 := hc j (by omega) 0 (by omega)
      simp only [Nat.mul_one, Nat.add_zero, List.getD_cons_zero] at c0 c1
      have kc : (k : Int) < (n : Int) := by omega
      have kw : IntKind.i64.wrap ((k : Int) - 1) = (j : Int) := by simp [IntKind.wrap, IntKind.bits, IntKind.signed]; omega
      have kj : (j : Int) < (n : Int) := by omega
      clear hc hj
      by_cases e : ss.getD j 0 < ss.getD k 0
      · have NX := Lib.hid (p := ∀ i, i + 1 < k + 1 → i + 1 < ss.length → ss.getD i 0 < ss.getD (i + 1) 0) (fun i hi hi2 => by
          rcases (show i + 1 < k ∨ i + 1 = k by omega) with r | r
          · exact hE.out i r hi2
          · have r2 : i = j := by have := HJ.out; omega
            rw [r, r2]; exact e)
        have f1 : ¬ ss.getD k 0 ≤ ss.getD j 0 := by omega
        have f2 : decide (ss.getD k 0 ≤ ss.getD j 0) = false := decide_eq_false f1
        generalize ss.getD k 0 = y at *
        generalize ss.getD j 0 = z at *
        clear e hE
        go_wp2
        go_quiet (fail)
        go_wp2
        go_roundw
        case rel => exact ⟨k + 1, by omega, by omega, by go_num, NX.out, _, by first | rfl | exact World.drewN_drewN _ _ _⟩
        case measure => simp [intOf]; omega
      · have RR := Lib.hid (p := decide (riseN ss) = false) (decide_eq_false (fun q => by have hq := q j (by rw [L1.out, ← HJ.out]; exact hlt); rw [← HJ.out] at hq; exact e hq))
        have f1 : ss.getD k 0 ≤ ss.getD j 0 := by omega
        have f2 : decide (ss.getD k 0 ≤ ss.getD j 0) = true := decide_eq_true f1
        generalize ss.getD k 0 = y at *
        generalize ss.getD j 0 = z at *
        clear e hE
        go_wp2
        go_quiet (fail)
        go_wp2
        go_ret
        exact ⟨retBP RR.out.symm, _, by first | rfl | exact World.drewN_drewN _ _ _⟩
    · have RR := Lib.hid (p := decide (riseN ss) = true) (decide_eq_true (fun i hi => hE.out i (by rw [L1.out] at hi; omega) hi))
      have kc : ¬ (k : Int) < (n : Int) := by omega
      clear hE
      go_wp2
      go_ret
      exact ⟨retBP RR.out.symm, _, rfl⟩
theorem isWithin_any (x hi : Int) (w : World) : Calls Tryd.prog 35 #[.int .i64 x, .int .i64 hi] w fun e w' => e = .returned (.bool (decide (0 ≤ x) && decide (x ≤ hi))) ∧ w' = w := by
  by_cases h1 : 0 ≤ x
  · have b1 : decide (0 ≤ x) = true := decide_eq_true h1
    by_cases h2 : x ≤ hi
    · have b2 : decide (x ≤ hi) = true := decide_eq_true h2
      go_enter Tryd.func35, Tryd.ntmps35
      go_wp2
      go_ret
      exact ⟨by first | rfl | simp [b1, b2], rfl⟩
    · have b2 : decide (x ≤ hi) = false := decide_eq_false h2
      go_enter Tryd.func35, Tryd.ntmps35
      go_wp2
      go_ret
      exact ⟨by first | rfl | simp [b1, b2], rfl⟩
  · have b1 : decide (0 ≤ x) = false := decide_eq_false h1
    go_enter Tryd.func35, Tryd.ntmps35
    go_wp2
    go_ret
    exact ⟨by first | rfl | simp [b1], rfl⟩
end Go.Proofs.YteedkcmjhdabeaaDoor
