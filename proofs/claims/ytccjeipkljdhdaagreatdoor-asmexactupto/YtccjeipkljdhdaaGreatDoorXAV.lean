import Derived.Test.YtccjeipkljdhdaaGreatDoorXAG
import Derived.Laws.Cover1
namespace Go.Proofs.YtccjeipkljdhdaaGreatDoor
open Go.RowKit
set_option linter.unusedVariables false
set_option linter.unusedSimpArgs false
/-- y is not behind z. -/
def leS (y z : ByteArray) : Bool := Op.bytesLess y.toList z.toList || (y.toList == z.toList)
theorem bl_tot : ∀ x y : List UInt8, (Op.bytesLess x y || (x == y)) = !(Op.bytesLess y x)
  | [], [] => rfl
  | [], _ :: _ => rfl
  | _ :: _, [] => rfl
  | a :: x, b :: y => by
    have ih := bl_tot x y
    have e : (a :: x == b :: y) = ((a == b) && (x == y)) := rfl
    rw [e]
    simp only [Op.bytesLess]
    by_cases h1 : a = b
    · subst h1
      have n1 : ¬ a < a := by rw [UInt8.lt_iff_toNat_lt]; omega
      simp only [n1, decide_false, Bool.false_or, beq_self_eq_true, Bool.true_and]
      exact ih
    · have h2 : ¬ b = a := fun q => h1 q.symm
      have e1 : (a == b) = false := by simpa using h1
      have e2 : (b == a) = false := by simpa using h2
      rw [e1, e2]
      simp only [Bool.false_and, Bool.or_false]
      have h3 : a.toNat ≠ b.toNat := fun q => h1 (UInt8.toNat_inj.1 q)
      by_cases h4 : a.toNat < b.toNat
      · have p1 : a < b := by rw [UInt8.lt_iff_toNat_lt]; exact h4
        have p2 : ¬ b < a := by rw [UInt8.lt_iff_toNat_lt]; omega
        simp [p1, p2]
      · have p1 : ¬ a < b := by rw [UInt8.lt_iff_toNat_lt]; exact h4
        have p2 : b < a := by rw [UInt8.lt_iff_toNat_lt]; omega
        simp [p1, p2]
theorem leS_ge (y z : ByteArray) : leS y z = !(Op.bytesLess z.toList y.toList) := bl_tot _ _
def riseS (ss : List ByteArray) : Prop := ∀ i, i + 1 < ss.length → leS (ss.getD (i + 1) default) (ss.getD i default) = false
def riseN (l : List Int) : Prop := ∀ i, i + 1 < l.length → l.getD i 0 < l.getD (i + 1) 0
noncomputable instance (ss : List ByteArray) : Decidable (riseS ss) := Classical.propDecidable _
noncomputable instance (l : List Int) : Decidable (riseN l) := Classical.propDecidable _
set_option maxRecDepth 100000 in
set_option maxHeartbeats 1000000 in
theorem risesS_any {w : World} {a : Option Addr} {n c : Nat} {ss : List ByteArray} (h : SR w a n c ss) :
    Calls Tryz.prog 77 #[.slice a n c] w fun e w' => e = .returned (.bool (decide (riseS ss))) ∧ ∃ q, w' = w.drewN q := by
  obtain ⟨_, l1, b1, s1, r1⟩ := h
  have R1 := Lib.hid r1
  have L1 := Lib.hid l1
  clear l1 r1 s1
  go_enter Tryz.func77, Tryz.ntmps77
  go_wp2
  go_loopw [3] (fun t wr => ∃ k : Nat, 1 ≤ k ∧ (k ≤ n ∨ k = 1) ∧ t = .int .i64 k ∧ RowKit.Hid (∀ i, i + 1 < k → i + 1 < ss.length → leS (ss.getD (i + 1) default) (ss.getD i default) = false) ∧ ∃ q, wr = w.drewN q) (fun t _ => n - (intOf t).toNat)
  case atStart => exact ⟨1, by omega, by omega, rfl, (fun i hi => absurd hi (by omega)), 0, rfl⟩
  case round =>
    obtain ⟨k, hk1, hk, rfl, hE, q, rfl⟩ := hrel
    by_cases hlt : k < n
    · obtain ⟨x, o, rfl, _, hc⟩ := R1.out.oneP (by omega)
      obtain ⟨j, hj⟩ : ∃ j, k = j + 1 := ⟨k - 1, by omega⟩
      have HJ := Lib.hid hj
      have c0 := hc k hlt 0 (by omega)
      have c1 := hc j (by omega) 0 (by omega)
      simp only [Nat.mul_one, Nat.add_zero, List.getD_cons_zero] at c0 c1
      have kc : (k : Int) < (n : Int) := by omega
      have kw : IntKind.i64.wrap ((k : Int) - 1) = (j : Int) := by simp [IntKind.wrap, IntKind.bits, IntKind.signed]; omega
      have kj : (j : Int) < (n : Int) := by omega
      clear hc hj
      by_cases e : leS (ss.getD k default) (ss.getD j default) = false
      · have NX := Lib.hid (p := ∀ i, i + 1 < k + 1 → i + 1 < ss.length → leS (ss.getD (i + 1) default) (ss.getD i default) = false) (fun i hi hi2 => by
          rcases (show i + 1 < k ∨ i + 1 = k by omega) with r | r
          · exact hE.out i r hi2
          · have r2 : i = j := by have := HJ.out; omega
            rw [r, r2]; exact e)
        have f1 := e
        unfold leS at f1
        generalize ss.getD k default = y at *
        generalize ss.getD j default = z at *
        clear e hE
        go_wp2
        go_quiet (fail)
        go_wp2
        go_roundw
        case rel => exact ⟨k + 1, by omega, by omega, by go_num, NX.out, _, by first | rfl | exact World.drewN_drewN _ _ _⟩
        case measure => simp [intOf]; omega
      · have RR := Lib.hid (p := decide (riseS ss) = false) (decide_eq_false (fun q => by have hq := q j (by rw [L1.out, ← HJ.out]; exact hlt); rw [← HJ.out] at hq; rw [hq] at e; exact e rfl))
        have e := Bool.eq_false_or_eq_true _ |>.resolve_right e
        have f1 := e
        unfold leS at f1
        generalize ss.getD k default = y at *
        generalize ss.getD j default = z at *
        clear e hE
        go_wp2
        go_quiet (fail)
        go_wp2
        go_ret
        exact ⟨retBP RR.out.symm, _, by first | rfl | exact World.drewN_drewN _ _ _⟩
    · have RR := Lib.hid (p := decide (riseS ss) = true) (decide_eq_true (fun i hi => hE.out i (by rw [L1.out] at hi; omega) hi))
      have kc : ¬ (k : Int) < (n : Int) := by omega
      clear hE
      go_wp2
      go_ret
      exact ⟨retBP RR.out.symm, _, rfl⟩
set_option maxRecDepth 100000 in
set_option maxHeartbeats 1000000 in
theorem risesN_any {w : World} {a : Option Addr} {n c : Nat} {ss : List Int} (h : NR w a n c ss) :
    Calls Tryz.prog 79 #[.slice a n c] w fun e w' => e = .returned (.bool (decide (riseN ss))) ∧ ∃ q, w' = w.drewN q := by
  obtain ⟨_, l1, b1, s1, r1⟩ := h
  have R1 := Lib.hid r1
  have L1 := Lib.hid l1
  clear l1 r1 s1
  go_enter Tryz.func79, Tryz.ntmps79
  go_wp2
  go_loopw [3] (fun t wr => ∃ k : Nat, 1 ≤ k ∧ (k ≤ n ∨ k = 1) ∧ t = .int .i64 k ∧ RowKit.Hid (∀ i, i + 1 < k → i + 1 < ss.length → ss.getD i 0 < ss.getD (i + 1) 0) ∧ ∃ q, wr = w.drewN q) (fun t _ => n - (intOf t).toNat)
  case atStart => exact ⟨1, by omega, by omega, rfl, (fun i hi => absurd hi (by omega)), 0, rfl⟩
  case round =>
    obtain ⟨k, hk1, hk, rfl, hE, q, rfl⟩ := hrel
    by_cases hlt : k < n
    · obtain ⟨x, o, rfl, _, hc⟩ := R1.out.oneP (by omega)
      obtain ⟨j, hj⟩ : ∃ j, k = j + 1 := ⟨k - 1, by omega⟩
      have HJ := Lib.hid hj
      have c0 := hc k hlt 0 (by omega)
      have c1 := hc j (by omega) 0 (by omega)
      simp only [Nat.mul_one, Nat.add_zero, List.getD_cons_zero] at c0 c1
      have kc : (k : Int) < (n : Int) := by omega
      have kw : IntKind.i64.wrap ((k : Int) - 1) = (j : Int) := by simp [IntKind.wrap, IntKind.bits, IntKind.signed]; omega
      have kj : (j : Int) < (n : Int) := by omega
      clear hc hj
      by_cases e : ss.getD j 0 < ss.getD k 0
      · have NX := Lib.hid (p := ∀ i, i + 1 < k + 1 → i + 1 < ss.length → ss.getD i 0 < ss.getD (i + 1) 0) (fun i hi hi2 => by
          rcases (show i + 1 < k ∨ i + 1 = k by omega) with r | r
          · exact hE.out i r hi2
          · have r2 : i = j := by have := HJ.out; omega
            rw [r, r2]; exact e)
        have f1 : ¬ ss.getD k 0 ≤ ss.getD j 0 := by omega
        have f2 : decide (ss.getD k 0 ≤ ss.getD j 0) = false := decide_eq_false f1
        generalize ss.getD k 0 = y at *
        generalize ss.getD j 0 = z at *
        clear e hE
        go_wp2
        go_quiet (fail)
        go_wp2
        go_roundw
        case rel => exact ⟨k + 1, by omega, by omega, by go_num, NX.out, _, by first | rfl | exact World.drewN_drewN _ _ _⟩
        case measure => simp [intOf]; omega
      · have RR := Lib.hid (p := decide (riseN ss) = false) (decide_eq_false (fun q => by have hq := q j (by rw [L1.out, ← HJ.out]; exact hlt); rw [← HJ.out] at hq; exact e hq))
        have f1 : ss.getD k 0 ≤ ss.getD j 0 := by omega
        have f2 : decide (ss.getD k 0 ≤ ss.getD j 0) = true := decide_eq_true f1
        generalize ss.getD k 0 = y at *
        generalize ss.getD j 0 = z at *
        clear e hE
        go_wp2
        go_quiet (fail)
        go_wp2
        go_ret
        exact ⟨retBP RR.out.symm, _, by first | rfl | exact World.drewN_drewN _ _ _⟩
    · have RR := Lib.hid (p := decide (riseN ss) = true) (decide_eq_true (fun i hi => hE.out i (by rw [L1.out] at hi; omega) hi))
      have kc : ¬ (k : Int) < (n : Int) := by omega
      clear hE
      go_wp2
      go_ret
      exact ⟨retBP RR.out.symm, _, rfl⟩
set_option maxRecDepth 100000 in
set_option maxHeartbeats 1000000 in
theorem risingR_any {w : World} {a : Option Addr} {n c : Nat} {ss : List ByteArray} (h : SR w a n c ss) :
    Calls Tryz.prog 92 #[.slice a n c] w fun e w' => e = .returned (.bool (decide (riseS ss))) ∧ ∃ q, w' = w.drewN q := by
  obtain ⟨_, l1, b1, s1, r1⟩ := h
  have R1 := Lib.hid r1
  have L1 := Lib.hid l1
  clear l1 r1 s1
  go_enter Tryz.func92, Tryz.ntmps92
  go_wp2
  go_loopw [3] (fun t wr => ∃ k : Nat, 1 ≤ k ∧ (k ≤ n ∨ k = 1) ∧ t = .int .i64 k ∧ RowKit.Hid (∀ i, i + 1 < k → i + 1 < ss.length → leS (ss.getD (i + 1) default) (ss.getD i default) = false) ∧ ∃ q, wr = w.drewN q) (fun t _ => n - (intOf t).toNat)
  case atStart => exact ⟨1, by omega, by omega, rfl, (fun i hi => absurd hi (by omega)), 0, rfl⟩
  case round =>
    obtain ⟨k, hk1, hk, rfl, hE, q, rfl⟩ := hrel
    by_cases hlt : k < n
    · obtain ⟨x, o, rfl, _, hc⟩ := R1.out.oneP (by omega)
      obtain ⟨j, hj⟩ : ∃ j, k = j + 1 := ⟨k - 1, by omega⟩
      have HJ := Lib.hid hj
      have c0 := hc k hlt 0 (by omega)
      have c1 := hc j (by omega) 0 (by omega)
      simp only [Nat.mul_one, Nat.add_zero, List.getD_cons_zero] at c0 c1
      have kc : (k : Int) < (n : Int) := by omega
      have kw : IntKind.i64.wrap ((k : Int) - 1) = (j : Int) := by simp [IntKind.wrap, IntKind.bits, IntKind.signed]; omega
      have kj : (j : Int) < (n : Int) := by omega
      clear hc hj
      by_cases e : leS (ss.getD k default) (ss.getD j default) = false
      · have NX := Lib.hid (p := ∀ i, i + 1 < k + 1 → i + 1 < ss.length → leS (ss.getD (i + 1) default) (ss.getD i default) = false) (fun i hi hi2 => by
          rcases (show i + 1 < k ∨ i + 1 = k by omega) with r | r
          · exact hE.out i r hi2
          · have r2 : i = j := by have := HJ.out; omega
            rw [r, r2]; exact e)
        have f1 := leS_ge (ss.getD k default) (ss.getD j default)
        rw [e] at f1
        have f2 : Op.bytesLess (ss.getD j default).toList (ss.getD k default).toList = true := by simpa using f1.symm
        clear f1
        generalize ss.getD k default = y at *
        generalize ss.getD j default = z at *
        clear e hE
        go_wp2
        go_quiet (fail)
        go_wp2
        go_roundw
        case rel => exact ⟨k + 1, by omega, by omega, by go_num, NX.out, _, by first | rfl | exact World.drewN_drewN _ _ _⟩
        case measure => simp [intOf]; omega
      · have RR := Lib.hid (p := decide (riseS ss) = false) (decide_eq_false (fun q => by have hq := q j (by rw [L1.out, ← HJ.out]; exact hlt); rw [← HJ.out] at hq; rw [hq] at e; exact e rfl))
        have e := Bool.eq_false_or_eq_true _ |>.resolve_right e
        have f1 := leS_ge (ss.getD k default) (ss.getD j default)
        rw [e] at f1
        have f2 : Op.bytesLess (ss.getD j default).toList (ss.getD k default).toList = false := by simpa using f1.symm
        clear f1
        generalize ss.getD k default = y at *
        generalize ss.getD j default = z at *
        clear e hE
        go_wp2
        go_quiet (fail)
        go_wp2
        go_ret
        exact ⟨retBP RR.out.symm, _, by first | rfl | exact World.drewN_drewN _ _ _⟩
    · have RR := Lib.hid (p := decide (riseS ss) = true) (decide_eq_true (fun i hi => hE.out i (by rw [L1.out] at hi; omega) hi))
      have kc : ¬ (k : Int) < (n : Int) := by omega
      clear hE
      go_wp2
      go_ret
      exact ⟨retBP RR.out.symm, _, rfl⟩
theorem isWithin_any (x hi : Int) (w : World) : Calls Tryz.prog 74 #[.int .i64 x, .int .i64 hi] w fun e w' => e = .returned (.bool (decide (0 ≤ x) && decide (x ≤ hi))) ∧ w' = w := by
  by_cases h1 : 0 ≤ x
  · have b1 : decide (0 ≤ x) = true := decide_eq_true h1
    by_cases h2 : x ≤ hi
    · have b2 : decide (x ≤ hi) = true := decide_eq_true h2
      go_enter Tryz.func74, Tryz.ntmps74
      go_wp2
      go_ret
      exact ⟨by first | rfl | simp [b1, b2], rfl⟩
    · have b2 : decide (x ≤ hi) = false := decide_eq_false h2
      go_enter Tryz.func74, Tryz.ntmps74
      go_wp2
      go_ret
      exact ⟨by first | rfl | simp [b1, b2], rfl⟩
  · have b1 : decide (0 ≤ x) = false := decide_eq_false h1
    go_enter Tryz.func74, Tryz.ntmps74
    go_wp2
    go_ret
    exact ⟨by first | rfl | simp [b1], rfl⟩
theorem withinR_any (x hi : Int) (w : World) : Calls Tryz.prog 63 #[.int .i64 x, .int .i64 hi] w fun e w' => e = .returned (.bool (decide (0 ≤ x) && decide (x ≤ hi))) ∧ w' = w := by
  by_cases h1 : 0 ≤ x
  · have b1 : decide (0 ≤ x) = true := decide_eq_true h1
    by_cases h2 : x ≤ hi
    · have b2 : decide (x ≤ hi) = true := decide_eq_true h2
      go_enter Tryz.func63, Tryz.ntmps63
      go_wp2
      go_ret
      exact ⟨by first | rfl | simp [b1, b2], rfl⟩
    · have b2 : decide (x ≤ hi) = false := decide_eq_false h2
      go_enter Tryz.func63, Tryz.ntmps63
      go_wp2
      go_ret
      exact ⟨by first | rfl | simp [b1, b2], rfl⟩
  · have b1 : decide (0 ≤ x) = false := decide_eq_false h1
    go_enter Tryz.func63, Tryz.ntmps63
    go_wp2
    go_ret
    exact ⟨by first | rfl | simp [b1], rfl⟩
end Go.Proofs.YtccjeipkljdhdaaGreatDoor

namespace Go.Proofs.YtccjeipkljdhdaaGreatDoor
open Go.RowKit
set_option linter.unusedVariables false
set_option linter.unusedSimpArgs false
def wB (x hi : Int) : Bool := decide (0 ≤ x) && decide (x ≤ hi)
def numP (p : Pg) : Bool := wB p.hor 3660 && wB p.cells 32768 && wB p.slots 16384 && wB p.stack 16384
def lstP (p : Pg) : Prop := p.names.length ≤ 64 ∧ p.names.all capP = true ∧ riseS p.names ∧ p.curs.length ≤ 4096 ∧ p.curs.all curP = true ∧ riseS p.curs ∧ p.pool.length ≤ 16384 ∧ riseN p.pool
noncomputable instance (p : Pg) : Decidable (lstP p) := Classical.propDecidable _
theorem BkP.laterP {W W' : World} {b : Nat} {cs : Array Value} {t : TypeId} (h : BkP W b cs t) (g : Below W.heap.size W W') : BkP W' b cs t := h.grown (gr_below g none) (by simp)
set_option maxRecDepth 100000 in
set_option maxHeartbeats 4000000 in
theorem numbersFit_any {w : World} {p : Pg} : Calls Tryz.prog 44 #[p.agg] w fun e w' => e = .returned (.bool (numP p)) ∧ Below w.heap.size w w' := by
  unfold Pg.agg
  cases e0 : wB p.hor 3660 with
  | true =>
    cases e1 : wB p.cells 32768 with
    | true =>
      cases e2 : wB p.slots 16384 with
      | true =>
        cases e3 : wB p.stack 16384 with
        | true =>
          have K0 := Lib.hid (isWithin_any p.hor 3660 (w.alloc p.box))
          rw [show (decide (0 ≤ p.hor) && decide (p.hor ≤ 3660)) = true from e0] at K0
          have K1 := Lib.hid (isWithin_any p.cells 32768 (w.alloc p.box))
          rw [show (decide (0 ≤ p.cells) && decide (p.cells ≤ 32768)) = true from e1] at K1
          have K2 := Lib.hid (isWithin_any p.slots 16384 (w.alloc p.box))
          rw [show (decide (0 ≤ p.slots) && decide (p.slots ≤ 16384)) = true from e2] at K2
          have K3 := Lib.hid (isWithin_any p.stack 16384 (w.alloc p.box))
          rw [show (decide (0 ≤ p.stack) && decide (p.stack ≤ 16384)) = true from e3] at K3
          have R := Lib.hid (p := numP p = true) (by unfold numP; rw [e0, e1, e2, e3]; rfl)
          obtain ⟨na, nc, names, ua, uc, curs, pa, pc, pool, hor, cells, slots, stack, da, dc, days⟩ := p
          unfold Pg.box at K0 K1 K2 K3
          simp only at K0 K1 K2 K3
          clear e0 e1 e2 e3
          have M0 : True := trivial
          have M1 : True := trivial
          have M2 : True := trivial
          go_enter Tryz.func44, Tryz.ntmps44
          go_wp2_with (first
            | (go_at_call 74; have qq := M0; refine K0.out.mono ?_; rintro e w1 ⟨rfl, h0⟩; subst h0; clear M0)
            | (go_at_call 74; have qq := M1; refine K1.out.mono ?_; rintro e w2 ⟨rfl, h1⟩; subst h1; clear M1)
            | (go_at_call 74; have qq := M2; refine K2.out.mono ?_; rintro e w3 ⟨rfl, h2⟩; subst h2; clear M2)
            | (go_at_call 74; refine K3.out.mono ?_; rintro e w4 ⟨rfl, h3⟩; subst h3))
          go_ret
          exact ⟨retBP R.out.symm, allocBP w _⟩
        | false =>
          have K0 := Lib.hid (isWithin_any p.hor 3660 (w.alloc p.box))
          rw [show (decide (0 ≤ p.hor) && decide (p.hor ≤ 3660)) = true from e0] at K0
          have K1 := Lib.hid (isWithin_any p.cells 32768 (w.alloc p.box))
          rw [show (decide (0 ≤ p.cells) && decide (p.cells ≤ 32768)) = true from e1] at K1
          have K2 := Lib.hid (isWithin_any p.slots 16384 (w.alloc p.box))
          rw [show (decide (0 ≤ p.slots) && decide (p.slots ≤ 16384)) = true from e2] at K2
          have K3 := Lib.hid (isWithin_any p.stack 16384 (w.alloc p.box))
          rw [show (decide (0 ≤ p.stack) && decide (p.stack ≤ 16384)) = false from e3] at K3
          have R := Lib.hid (p := numP p = false) (by unfold numP; rw [e0, e1, e2, e3]; simp)
          obtain ⟨na, nc, names, ua, uc, curs, pa, pc, pool, hor, cells, slots, stack, da, dc, days⟩ := p
          unfold Pg.box at K0 K1 K2 K3
          simp only at K0 K1 K2 K3
          clear e0 e1 e2 e3
          have M0 : True := trivial
          have M1 : True := trivial
          have M2 : True := trivial
          go_enter Tryz.func44, Tryz.ntmps44
          go_wp2_with (first
            | (go_at_call 74; have qq := M0; refine K0.out.mono ?_; rintro e w1 ⟨rfl, h0⟩; subst h0; clear M0)
            | (go_at_call 74; have qq := M1; refine K1.out.mono ?_; rintro e w2 ⟨rfl, h1⟩; subst h1; clear M1)
            | (go_at_call 74; have qq := M2; refine K2.out.mono ?_; rintro e w3 ⟨rfl, h2⟩; subst h2; clear M2)
            | (go_at_call 74; refine K3.out.mono ?_; rintro e w4 ⟨rfl, h3⟩; subst h3))
          go_ret
          exact ⟨retBP R.out.symm, allocBP w _⟩
      | false =>
        have K0 := Lib.hid (isWithin_any p.hor 3660 (w.alloc p.box))
        rw [show (decide (0 ≤ p.hor) && decide (p.hor ≤ 3660)) = true from e0] at K0
        have K1 := Lib.hid (isWithin_any p.cells 32768 (w.alloc p.box))
        rw [show (decide (0 ≤ p.cells) && decide (p.cells ≤ 32768)) = true from e1] at K1
        have K2 := Lib.hid (isWithin_any p.slots 16384 (w.alloc p.box))
        rw [show (decide (0 ≤ p.slots) && decide (p.slots ≤ 16384)) = false from e2] at K2
        have R := Lib.hid (p := numP p = false) (by unfold numP; rw [e0, e1, e2]; simp)
        obtain ⟨na, nc, names, ua, uc, curs, pa, pc, pool, hor, cells, slots, stack, da, dc, days⟩ := p
        unfold Pg.box at K0 K1 K2
        simp only at K0 K1 K2
        clear e0 e1 e2
        have M0 : True := trivial
        have M1 : True := trivial
        have M2 : True := trivial
        go_enter Tryz.func44, Tryz.ntmps44
        go_wp2_with (first
          | (go_at_call 74; have qq := M0; refine K0.out.mono ?_; rintro e w1 ⟨rfl, h0⟩; subst h0; clear M0)
          | (go_at_call 74; have qq := M1; refine K1.out.mono ?_; rintro e w2 ⟨rfl, h1⟩; subst h1; clear M1)
          | (go_at_call 74; have qq := M2; refine K2.out.mono ?_; rintro e w3 ⟨rfl, h2⟩; subst h2; clear M2))
        go_ret
        exact ⟨retBP R.out.symm, allocBP w _⟩
    | false =>
      have K0 := Lib.hid (isWithin_any p.hor 3660 (w.alloc p.box))
      rw [show (decide (0 ≤ p.hor) && decide (p.hor ≤ 3660)) = true from e0] at K0
      have K1 := Lib.hid (isWithin_any p.cells 32768 (w.alloc p.box))
      rw [show (decide (0 ≤ p.cells) && decide (p.cells ≤ 32768)) = false from e1] at K1
      have R := Lib.hid (p := numP p = false) (by unfold numP; rw [e0, e1]; simp)
      obtain ⟨na, nc, names, ua, uc, curs, pa, pc, pool, hor, cells, slots, stack, da, dc, days⟩ := p
      unfold Pg.box at K0 K1
      simp only at K0 K1
      clear e0 e1
      have M0 : True := trivial
      have M1 : True := trivial
      have M2 : True := trivial
      go_enter Tryz.func44, Tryz.ntmps44
      go_wp2_with (first
        | (go_at_call 74; have qq := M0; refine K0.out.mono ?_; rintro e w1 ⟨rfl, h0⟩; subst h0; clear M0)
        | (go_at_call 74; have qq := M1; refine K1.out.mono ?_; rintro e w2 ⟨rfl, h1⟩; subst h1; clear M1))
      go_ret
      exact ⟨retBP R.out.symm, allocBP w _⟩
  | false =>
    have K0 := Lib.hid (isWithin_any p.hor 3660 (w.alloc p.box))
    rw [show (decide (0 ≤ p.hor) && decide (p.hor ≤ 3660)) = false from e0] at K0
    have R := Lib.hid (p := numP p = false) (by unfold numP; rw [e0]; simp)
    obtain ⟨na, nc, names, ua, uc, curs, pa, pc, pool, hor, cells, slots, stack, da, dc, days⟩ := p
    unfold Pg.box at K0
    simp only at K0
    clear e0
    have M0 : True := trivial
    have M1 : True := trivial
    have M2 : True := trivial
    go_enter Tryz.func44, Tryz.ntmps44
    go_wp2_with (first
      | (go_at_call 74; have qq := M0; refine K0.out.mono ?_; rintro e w1 ⟨rfl, h0⟩; subst h0; clear M0))
    go_ret
    exact ⟨retBP R.out.symm, allocBP w _⟩
set_option maxRecDepth 100000 in
set_option maxHeartbeats 8000000 in
theorem listsFit_any {w : World} {p : Pg} (h : PV w p) : Calls Tryz.prog 45 #[p.agg] w fun e w' => e = .returned (.bool (decide (lstP p))) ∧ Below w.heap.size w w' := by
  have KC := Lib.hid (fun W (b : Below w.heap.size w W) => eachC_any (h.names.later b))
  have KU := Lib.hid (fun W (b : Below w.heap.size w W) => eachU_any (h.curs.later b))
  have KS0 := Lib.hid (fun W (b : Below w.heap.size w W) => risesS_any (h.names.later b))
  have KS1 := Lib.hid (fun W (b : Below w.heap.size w W) => risesS_any (h.curs.later b))
  have KN := Lib.hid (fun W (b : Below w.heap.size w W) => risesN_any (h.pool.later b))
  have B0 := Lib.hid (allocBP w p.box)
  have TB := Lib.hid (p := BkP (w.alloc p.box) w.heap.size p.arr 27) (heapN _ _)
  unfold Pg.agg
  unfold Pg.box at B0 TB
  unfold Pg.arr at TB
  clear h
  by_cases e0 : p.names.length ≤ 64
  · by_cases e1 : p.names.all capP = true
    · by_cases e2 : riseS p.names
      · by_cases e3 : p.curs.length ≤ 4096
        · by_cases e4 : p.curs.all curP = true
          · by_cases e5 : riseS p.curs
            · by_cases e6 : p.pool.length ≤ 16384
              · by_cases e7 : riseN p.pool
                · have R := Lib.hid (p := decide (lstP p) = true) (decide_eq_true ⟨e0, e1, e2, e3, e4, e5, e6, e7⟩)
                  have b0 : decide ((p.names.length : Int) ≤ 64) = true := decide_eq_true (by omega)
                  have d0 : (p.names.length : Int) ≤ 64 := by omega
                  rw [e1] at KC
                  simp only [decide_eq_true e2] at KS0
                  have b3 : decide ((p.curs.length : Int) ≤ 4096) = true := decide_eq_true (by omega)
                  have d3 : (p.curs.length : Int) ≤ 4096 := by omega
                  rw [e4] at KU
                  simp only [decide_eq_true e5] at KS1
                  have b6 : decide ((p.pool.length : Int) ≤ 16384) = true := decide_eq_true (by omega)
                  have d6 : (p.pool.length : Int) ≤ 16384 := by omega
                  simp only [decide_eq_true e7] at KN
                  obtain ⟨na, nc, names, ua, uc, curs, pa, pc, pool, hor, cells, slots, stack, da, dc, days⟩ := p
                  simp only at KC KU KS0 KS1 KN B0 TB R b0 d0 b3 d3 b6 d6
                  clear e0 e1 e2 e3 e4 e5 e6 e7
                  have M0 : True := trivial
                  have M1 : True := trivial
                  go_enter Tryz.func45, Tryz.ntmps45
                  go_wp2_with (first
                    | (go_at_call 75; have qq := M0; refine (KC.out _ B0.out).mono ?_; rintro e w1 ⟨rfl, h1⟩; have B1 := Lib.hid (B0.out.trans (h1.mono B0.out.size)); have T1 := Lib.hid (TB.out.laterP h1); obtain ⟨x0, x1, x2, _, _, _, _, _⟩ := box_all8 (T1.out); clear h1 M0)
                    | (go_at_call 77; have qq := M1; refine (KS0.out _ B1.out).mono ?_; rintro e w2 ⟨rfl, q2, rfl⟩; have B2 := Lib.hid (B1.out.trans ((drewBP _ q2).mono B1.out.size)); have T2 := Lib.hid (T1.out.laterP (drewBP _ q2)); clear M1)
                    | (go_at_call 75; refine (KU.out _ B2.out).mono ?_; rintro e w3 ⟨rfl, h1⟩; have B3 := Lib.hid (B2.out.trans (h1.mono B2.out.size)); have T3 := Lib.hid (T2.out.laterP h1); obtain ⟨y0, y1, y2, _, _, _, _, _⟩ := box_all8 (T3.out); clear h1)
                    | (go_at_call 77; refine (KS1.out _ B3.out).mono ?_; rintro e w4 ⟨rfl, q4, rfl⟩; have B4 := Lib.hid (B3.out.trans ((drewBP _ q4).mono B3.out.size)))
                    | (go_at_call 79; refine (KN.out _ B4.out).mono ?_; rintro e w5 ⟨rfl, q5, rfl⟩; have B5 := Lib.hid (B4.out.trans ((drewBP _ q5).mono B4.out.size))))
                  go_ret
                  exact ⟨retBP R.out.symm, by first | exact B5.out | (have t := B5.out; rwa [World.drewN_drewN] at t)⟩
                · have R := Lib.hid (p := decide (lstP p) = false) (decide_eq_false (fun z => e7 z.2.2.2.2.2.2.2))
                  have b0 : decide ((p.names.length : Int) ≤ 64) = true := decide_eq_true (by omega)
                  have d0 : (p.names.length : Int) ≤ 64 := by omega
                  rw [e1] at KC
                  simp only [decide_eq_true e2] at KS0
                  have b3 : decide ((p.curs.length : Int) ≤ 4096) = true := decide_eq_true (by omega)
                  have d3 : (p.curs.length : Int) ≤ 4096 := by omega
                  rw [e4] at KU
                  simp only [decide_eq_true e5] at KS1
                  have b6 : decide ((p.pool.length : Int) ≤ 16384) = true := decide_eq_true (by omega)
                  have d6 : (p.pool.length : Int) ≤ 16384 := by omega
                  simp only [decide_eq_false e7] at KN
                  obtain ⟨na, nc, names, ua, uc, curs, pa, pc, pool, hor, cells, slots, stack, da, dc, days⟩ := p
                  simp only at KC KU KS0 KS1 KN B0 TB R b0 d0 b3 d3 b6 d6
                  clear e0 e1 e2 e3 e4 e5 e6 e7
                  have M0 : True := trivial
                  have M1 : True := trivial
                  go_enter Tryz.func45, Tryz.ntmps45
                  go_wp2_with (first
                    | (go_at_call 75; have qq := M0; refine (KC.out _ B0.out).mono ?_; rintro e w1 ⟨rfl, h1⟩; have B1 := Lib.hid (B0.out.trans (h1.mono B0.out.size)); have T1 := Lib.hid (TB.out.laterP h1); obtain ⟨x0, x1, x2, _, _, _, _, _⟩ := box_all8 (T1.out); clear h1 M0)
                    | (go_at_call 77; have qq := M1; refine (KS0.out _ B1.out).mono ?_; rintro e w2 ⟨rfl, q2, rfl⟩; have B2 := Lib.hid (B1.out.trans ((drewBP _ q2).mono B1.out.size)); have T2 := Lib.hid (T1.out.laterP (drewBP _ q2)); clear M1)
                    | (go_at_call 75; refine (KU.out _ B2.out).mono ?_; rintro e w3 ⟨rfl, h1⟩; have B3 := Lib.hid (B2.out.trans (h1.mono B2.out.size)); have T3 := Lib.hid (T2.out.laterP h1); obtain ⟨y0, y1, y2, _, _, _, _, _⟩ := box_all8 (T3.out); clear h1)
                    | (go_at_call 77; refine (KS1.out _ B3.out).mono ?_; rintro e w4 ⟨rfl, q4, rfl⟩; have B4 := Lib.hid (B3.out.trans ((drewBP _ q4).mono B3.out.size)))
                    | (go_at_call 79; refine (KN.out _ B4.out).mono ?_; rintro e w5 ⟨rfl, q5, rfl⟩; have B5 := Lib.hid (B4.out.trans ((drewBP _ q5).mono B4.out.size))))
                  go_ret
                  exact ⟨retBP R.out.symm, by first | exact B5.out | (have t := B5.out; rwa [World.drewN_drewN] at t)⟩
              · have R := Lib.hid (p := decide (lstP p) = false) (decide_eq_false (fun z => e6 z.2.2.2.2.2.2.1))
                have b0 : decide ((p.names.length : Int) ≤ 64) = true := decide_eq_true (by omega)
                have d0 : (p.names.length : Int) ≤ 64 := by omega
                rw [e1] at KC
                simp only [decide_eq_true e2] at KS0
                have b3 : decide ((p.curs.length : Int) ≤ 4096) = true := decide_eq_true (by omega)
                have d3 : (p.curs.length : Int) ≤ 4096 := by omega
                rw [e4] at KU
                simp only [decide_eq_true e5] at KS1
                have b6 : decide ((p.pool.length : Int) ≤ 16384) = false := decide_eq_false (by omega)
                have d6 : ¬ (p.pool.length : Int) ≤ 16384 := by omega
                obtain ⟨na, nc, names, ua, uc, curs, pa, pc, pool, hor, cells, slots, stack, da, dc, days⟩ := p
                simp only at KC KU KS0 KS1 KN B0 TB R b0 d0 b3 d3 b6 d6
                clear e0 e1 e2 e3 e4 e5 e6
                have M0 : True := trivial
                have M1 : True := trivial
                go_enter Tryz.func45, Tryz.ntmps45
                go_wp2_with (first
                  | (go_at_call 75; have qq := M0; refine (KC.out _ B0.out).mono ?_; rintro e w1 ⟨rfl, h1⟩; have B1 := Lib.hid (B0.out.trans (h1.mono B0.out.size)); have T1 := Lib.hid (TB.out.laterP h1); obtain ⟨x0, x1, x2, _, _, _, _, _⟩ := box_all8 (T1.out); clear h1 M0)
                  | (go_at_call 77; have qq := M1; refine (KS0.out _ B1.out).mono ?_; rintro e w2 ⟨rfl, q2, rfl⟩; have B2 := Lib.hid (B1.out.trans ((drewBP _ q2).mono B1.out.size)); have T2 := Lib.hid (T1.out.laterP (drewBP _ q2)); clear M1)
                  | (go_at_call 75; refine (KU.out _ B2.out).mono ?_; rintro e w3 ⟨rfl, h1⟩; have B3 := Lib.hid (B2.out.trans (h1.mono B2.out.size)); have T3 := Lib.hid (T2.out.laterP h1); obtain ⟨y0, y1, y2, _, _, _, _, _⟩ := box_all8 (T3.out); clear h1)
                  | (go_at_call 77; refine (KS1.out _ B3.out).mono ?_; rintro e w4 ⟨rfl, q4, rfl⟩; have B4 := Lib.hid (B3.out.trans ((drewBP _ q4).mono B3.out.size))))
                go_ret
                exact ⟨retBP R.out.symm, by first | exact B4.out | (have t := B4.out; rwa [World.drewN_drewN] at t)⟩
            · have R := Lib.hid (p := decide (lstP p) = false) (decide_eq_false (fun z => e5 z.2.2.2.2.2.1))
              have b0 : decide ((p.names.length : Int) ≤ 64) = true := decide_eq_true (by omega)
              have d0 : (p.names.length : Int) ≤ 64 := by omega
              rw [e1] at KC
              simp only [decide_eq_true e2] at KS0
              have b3 : decide ((p.curs.length : Int) ≤ 4096) = true := decide_eq_true (by omega)
              have d3 : (p.curs.length : Int) ≤ 4096 := by omega
              rw [e4] at KU
              simp only [decide_eq_false e5] at KS1
              obtain ⟨na, nc, names, ua, uc, curs, pa, pc, pool, hor, cells, slots, stack, da, dc, days⟩ := p
              simp only at KC KU KS0 KS1 KN B0 TB R b0 d0 b3 d3
              clear e0 e1 e2 e3 e4 e5
              have M0 : True := trivial
              have M1 : True := trivial
              go_enter Tryz.func45, Tryz.ntmps45
              go_wp2_with (first
                | (go_at_call 75; have qq := M0; refine (KC.out _ B0.out).mono ?_; rintro e w1 ⟨rfl, h1⟩; have B1 := Lib.hid (B0.out.trans (h1.mono B0.out.size)); have T1 := Lib.hid (TB.out.laterP h1); obtain ⟨x0, x1, x2, _, _, _, _, _⟩ := box_all8 (T1.out); clear h1 M0)
                | (go_at_call 77; have qq := M1; refine (KS0.out _ B1.out).mono ?_; rintro e w2 ⟨rfl, q2, rfl⟩; have B2 := Lib.hid (B1.out.trans ((drewBP _ q2).mono B1.out.size)); have T2 := Lib.hid (T1.out.laterP (drewBP _ q2)); clear M1)
                | (go_at_call 75; refine (KU.out _ B2.out).mono ?_; rintro e w3 ⟨rfl, h1⟩; have B3 := Lib.hid (B2.out.trans (h1.mono B2.out.size)); have T3 := Lib.hid (T2.out.laterP h1); obtain ⟨y0, y1, y2, _, _, _, _, _⟩ := box_all8 (T3.out); clear h1)
                | (go_at_call 77; refine (KS1.out _ B3.out).mono ?_; rintro e w4 ⟨rfl, q4, rfl⟩; have B4 := Lib.hid (B3.out.trans ((drewBP _ q4).mono B3.out.size))))
              go_ret
              exact ⟨retBP R.out.symm, by first | exact B4.out | (have t := B4.out; rwa [World.drewN_drewN] at t)⟩
          · have R := Lib.hid (p := decide (lstP p) = false) (decide_eq_false (fun z => e4 z.2.2.2.2.1))
            have b0 : decide ((p.names.length : Int) ≤ 64) = true := decide_eq_true (by omega)
            have d0 : (p.names.length : Int) ≤ 64 := by omega
            rw [e1] at KC
            simp only [decide_eq_true e2] at KS0
            have b3 : decide ((p.curs.length : Int) ≤ 4096) = true := decide_eq_true (by omega)
            have d3 : (p.curs.length : Int) ≤ 4096 := by omega
            rw [Bool.eq_false_iff.2 e4] at KU
            obtain ⟨na, nc, names, ua, uc, curs, pa, pc, pool, hor, cells, slots, stack, da, dc, days⟩ := p
            simp only at KC KU KS0 KS1 KN B0 TB R b0 d0 b3 d3
            clear e0 e1 e2 e3 e4
            have M0 : True := trivial
            have M1 : True := trivial
            go_enter Tryz.func45, Tryz.ntmps45
            go_wp2_with (first
              | (go_at_call 75; have qq := M0; refine (KC.out _ B0.out).mono ?_; rintro e w1 ⟨rfl, h1⟩; have B1 := Lib.hid (B0.out.trans (h1.mono B0.out.size)); have T1 := Lib.hid (TB.out.laterP h1); obtain ⟨x0, x1, x2, _, _, _, _, _⟩ := box_all8 (T1.out); clear h1 M0)
              | (go_at_call 77; have qq := M1; refine (KS0.out _ B1.out).mono ?_; rintro e w2 ⟨rfl, q2, rfl⟩; have B2 := Lib.hid (B1.out.trans ((drewBP _ q2).mono B1.out.size)); have T2 := Lib.hid (T1.out.laterP (drewBP _ q2)); clear M1)
              | (go_at_call 75; refine (KU.out _ B2.out).mono ?_; rintro e w3 ⟨rfl, h1⟩; have B3 := Lib.hid (B2.out.trans (h1.mono B2.out.size)); have T3 := Lib.hid (T2.out.laterP h1); obtain ⟨y0, y1, y2, _, _, _, _, _⟩ := box_all8 (T3.out); clear h1))
            go_ret
            exact ⟨retBP R.out.symm, by first | exact B3.out | (have t := B3.out; rwa [World.drewN_drewN] at t)⟩
        · have R := Lib.hid (p := decide (lstP p) = false) (decide_eq_false (fun z => e3 z.2.2.2.1))
          have b0 : decide ((p.names.length : Int) ≤ 64) = true := decide_eq_true (by omega)
          have d0 : (p.names.length : Int) ≤ 64 := by omega
          rw [e1] at KC
          simp only [decide_eq_true e2] at KS0
          have b3 : decide ((p.curs.length : Int) ≤ 4096) = false := decide_eq_false (by omega)
          have d3 : ¬ (p.curs.length : Int) ≤ 4096 := by omega
          obtain ⟨na, nc, names, ua, uc, curs, pa, pc, pool, hor, cells, slots, stack, da, dc, days⟩ := p
          simp only at KC KU KS0 KS1 KN B0 TB R b0 d0 b3 d3
          clear e0 e1 e2 e3
          have M0 : True := trivial
          have M1 : True := trivial
          go_enter Tryz.func45, Tryz.ntmps45
          go_wp2_with (first
            | (go_at_call 75; have qq := M0; refine (KC.out _ B0.out).mono ?_; rintro e w1 ⟨rfl, h1⟩; have B1 := Lib.hid (B0.out.trans (h1.mono B0.out.size)); have T1 := Lib.hid (TB.out.laterP h1); obtain ⟨x0, x1, x2, _, _, _, _, _⟩ := box_all8 (T1.out); clear h1 M0)
            | (go_at_call 77; have qq := M1; refine (KS0.out _ B1.out).mono ?_; rintro e w2 ⟨rfl, q2, rfl⟩; have B2 := Lib.hid (B1.out.trans ((drewBP _ q2).mono B1.out.size)); have T2 := Lib.hid (T1.out.laterP (drewBP _ q2)); clear M1))
          go_ret
          exact ⟨retBP R.out.symm, by first | exact B2.out | (have t := B2.out; rwa [World.drewN_drewN] at t)⟩
      · have R := Lib.hid (p := decide (lstP p) = false) (decide_eq_false (fun z => e2 z.2.2.1))
        have b0 : decide ((p.names.length : Int) ≤ 64) = true := decide_eq_true (by omega)
        have d0 : (p.names.length : Int) ≤ 64 := by omega
        rw [e1] at KC
        simp only [decide_eq_false e2] at KS0
        obtain ⟨na, nc, names, ua, uc, curs, pa, pc, pool, hor, cells, slots, stack, da, dc, days⟩ := p
        simp only at KC KU KS0 KS1 KN B0 TB R b0 d0
        clear e0 e1 e2
        have M0 : True := trivial
        have M1 : True := trivial
        go_enter Tryz.func45, Tryz.ntmps45
        go_wp2_with (first
          | (go_at_call 75; have qq := M0; refine (KC.out _ B0.out).mono ?_; rintro e w1 ⟨rfl, h1⟩; have B1 := Lib.hid (B0.out.trans (h1.mono B0.out.size)); have T1 := Lib.hid (TB.out.laterP h1); obtain ⟨x0, x1, x2, _, _, _, _, _⟩ := box_all8 (T1.out); clear h1 M0)
          | (go_at_call 77; have qq := M1; refine (KS0.out _ B1.out).mono ?_; rintro e w2 ⟨rfl, q2, rfl⟩; have B2 := Lib.hid (B1.out.trans ((drewBP _ q2).mono B1.out.size)); have T2 := Lib.hid (T1.out.laterP (drewBP _ q2)); clear M1))
        go_ret
        exact ⟨retBP R.out.symm, by first | exact B2.out | (have t := B2.out; rwa [World.drewN_drewN] at t)⟩
    · have R := Lib.hid (p := decide (lstP p) = false) (decide_eq_false (fun z => e1 z.2.1))
      have b0 : decide ((p.names.length : Int) ≤ 64) = true := decide_eq_true (by omega)
      have d0 : (p.names.length : Int) ≤ 64 := by omega
      rw [Bool.eq_false_iff.2 e1] at KC
      obtain ⟨na, nc, names, ua, uc, curs, pa, pc, pool, hor, cells, slots, stack, da, dc, days⟩ := p
      simp only at KC KU KS0 KS1 KN B0 TB R b0 d0
      clear e0 e1
      have M0 : True := trivial
      have M1 : True := trivial
      go_enter Tryz.func45, Tryz.ntmps45
      go_wp2_with (first
        | (go_at_call 75; have qq := M0; refine (KC.out _ B0.out).mono ?_; rintro e w1 ⟨rfl, h1⟩; have B1 := Lib.hid (B0.out.trans (h1.mono B0.out.size)); have T1 := Lib.hid (TB.out.laterP h1); obtain ⟨x0, x1, x2, _, _, _, _, _⟩ := box_all8 (T1.out); clear h1 M0))
      go_ret
      exact ⟨retBP R.out.symm, by first | exact B1.out | (have t := B1.out; rwa [World.drewN_drewN] at t)⟩
  · have R := Lib.hid (p := decide (lstP p) = false) (decide_eq_false (fun z => e0 z.1))
    have b0 : decide ((p.names.length : Int) ≤ 64) = false := decide_eq_false (by omega)
    have d0 : ¬ (p.names.length : Int) ≤ 64 := by omega
    obtain ⟨na, nc, names, ua, uc, curs, pa, pc, pool, hor, cells, slots, stack, da, dc, days⟩ := p
    simp only at KC KU KS0 KS1 KN B0 TB R b0 d0
    clear e0
    have M0 : True := trivial
    have M1 : True := trivial
    go_enter Tryz.func45, Tryz.ntmps45
    go_wp2
    go_ret
    exact ⟨retBP R.out.symm, by first | exact B0.out | (have t := B0.out; rwa [World.drewN_drewN] at t)⟩
end Go.Proofs.YtccjeipkljdhdaaGreatDoor
