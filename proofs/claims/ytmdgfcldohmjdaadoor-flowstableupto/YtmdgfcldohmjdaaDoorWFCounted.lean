/-
  WALK: counted.
-/
import Derived.Test.YtmdgfcldohmjdaaDoorWFSmall
namespace Go.Proofs.YtmdgfcldohmjdaaDoor
open Go.RowKit
set_option linter.unusedVariables false
set_option linter.unusedSimpArgs false

theorem str_neD {x y : ByteArray} (h : x ≠ y) : (x.toList == y.toList) = false := by
  rw [beq_eq_false_iff_ne]
  exact fun e => h (toList_one e)
theorem fl_row {w : World} {a : Option Addr} {n : Nat} {fs : List Fl} (h : FL w a n fs) (h0 : 0 < n) : ∃ b o, a = some ⟨b, o, none⟩ ∧ b < w.heap.size ∧ ∀ i, i < n → FC w b (o + i * 3) (fs.getD i default) := by
  rcases h.2.2 with q | q
  · omega
  · exact q
theorem fc_q {w wr : World} {b o : Nat} {f : Fl} {q : Nat} (h : FC w b o f) (e : wr = w.drewN q) : wr.cell? ⟨b, o, none⟩ = some (.int .i64 f.d) ∧ wr.cell? ⟨b, o + 1, none⟩ = some (.string f.c) ∧ wr.cell? ⟨b, o + 2, none⟩ = some (.int .i64 f.a) := by
  subst e; exact ⟨h.1, h.2.1, h.2.2⟩
theorem drewN_tw (w : World) (a b : Nat) : ∃ c, (w.drewN a).drewN b = w.drewN c := ⟨a + b, by simp [World.drewN]; omega⟩
set_option maxRecDepth 100000 in
set_option maxHeartbeats 2000000 in
theorem counted_any (am an : Option Addr) (n1 n2 c1 c2 : Nat) (ms ns : List Fl) (w : World) (hm : FL w am n1 ms) (hn : FL w an n2 ns) (hall : ∀ i, i < n1 → ∃ j, j < n2 ∧ (ns.getD j default).d = (ms.getD i default).d ∧ (ns.getD j default).c = (ms.getD i default).c) :
    Calls Tryd.prog 19 #[.slice am n1 c1, .slice an n2 c2] w fun e w' => e = .returned (.bool true) ∧ Below w.heap.size w w' := by
  have l1 := hm.2.1
  have l2 := hn.2.1
  have RM := Lib.hid (fun h0 => fl_row hm h0)
  have RN := Lib.hid (fun h0 => fl_row hn h0)
  have AL := Lib.hid hall
  clear hm hn hall
  go_enter Tryd.func19, Tryd.ntmps19
  go_wp2
  go_loopw [5] (fun t wr => ∃ (i : Nat), i ≤ n1 ∧ t = .int .i64 (i : Int) ∧ ∃ q, wr = w.drewN q) (fun t _ => n1 - (intOf t).toNat)
  case atStart => exact ⟨0, by omega, rfl, 0, rfl⟩
  case round =>
    obtain ⟨i, hi, rfl, q, hwr⟩ := hrel
    rename World => wr
    by_cases hlt : i < n1
    · obtain ⟨bm, om, rfl, hbm, hcm⟩ := RM.out (by omega)
      have CM := Lib.hid (hcm i hlt)
      obtain ⟨j0, j1, j2, j3⟩ := AL.out i hlt
      obtain ⟨bn, on, rfl, hbn, hcn⟩ := RN.out (by omega)
      have CN := Lib.hid hcn
      have JJ := Lib.hid (p := j0 < n2 ∧ (ns.getD j0 default).d = (ms.getD i default).d ∧ (ns.getD j0 default).c = (ms.getD i default).c) ⟨j1, j2, j3⟩
      have HW := Lib.hid hwr
      clear hcm hcn j1 j2 j3 hwr
      generalize ms.getD i default = m at *
      obtain ⟨md, mc, ma⟩ := m
      simp only at JJ
      have kc : (i : Int) < (n1 : Int) := by omega
      have kw : IntKind.i64.wrap ((i : Int) + 1) = (i : Int) + 1 := by simp [IntKind.wrap, IntKind.bits, IntKind.signed]; omega
      go_wp2
      go_loopw [6, 7] (fun x t wy => ∃ (k : Nat) (fb : Bool), k ≤ n2 ∧ t = .int .i64 (k : Int) ∧ x = .bool fb ∧ RowKit.Hid (fb = false → ∀ j, j < k → ¬ ((ns.getD j default).d = md ∧ (ns.getD j default).c = mc)) ∧ ∃ q, wy = w.drewN q) (fun _ t _ => n2 - (intOf t).toNat)
      case atStart => exact ⟨0, false, by omega, rfl, rfl, fun _ j hj => absurd hj (by omega), q, HW.out⟩
      case round =>
        obtain ⟨k, fb, hk, rfl, rfl, hF, q2, hwy⟩ := hrel
        rename World => wy
        have HY := Lib.hid hwy
        cases fb with
        | true =>
          clear hwy hF
          by_cases hk2 : k < n2
          · have kk : decide ((k : Int) < (n2 : Int)) = true := decide_eq_true (by omega)
            have kk' : (k : Int) < (n2 : Int) := by omega
            go_wp2
            go_roundw
            case rel => exact ⟨i + 1, by omega, by simp, q2, HY.out⟩
            case measure => simp [intOf]; omega
          · have kk : decide ((k : Int) < (n2 : Int)) = false := decide_eq_false (by omega)
            have kk' : ¬ (k : Int) < (n2 : Int) := by omega
            go_wp2
            go_roundw
            case rel => exact ⟨i + 1, by omega, by simp, q2, HY.out⟩
            case measure => simp [intOf]; omega
        | false =>
          by_cases hk2 : k < n2
          · obtain ⟨m0, m1, m2⟩ := fc_q CM.out hwy
            obtain ⟨n0, n1', n2'⟩ := fc_q (CN.out k hk2) hwy
            have NX := Lib.hid (p := ¬ ((ns.getD k default).d = md ∧ (ns.getD k default).c = mc) → ∀ j, j < k + 1 → ¬ ((ns.getD j default).d = md ∧ (ns.getD j default).c = mc)) (fun g j hj => by
              rcases (show j < k ∨ j = k by omega) with r | r
              · exact hF.out rfl j r
              · rw [r]; exact g)
            generalize ns.getD k default = f at *
            obtain ⟨fd, fc, fa⟩ := f
            simp only at m0 m1 m2 n0 n1' n2' NX
            have kk : decide ((k : Int) < (n2 : Int)) = true := decide_eq_true (by omega)
            have kk' : (k : Int) < (n2 : Int) := by omega
            have kw2 : IntKind.i64.wrap ((k : Int) + 1) = (k : Int) + 1 := by simp [IntKind.wrap, IntKind.bits, IntKind.signed]; omega
            clear hwy hF
            by_cases hd : fd = md
            · by_cases hc : fc = mc
              · subst hd
                subst hc
                have ss : (fc.toList == fc.toList) = true := by simp
                go_wp2
                go_quiet (fail)
                go_wp2
                go_roundw
                case rel => exact ⟨k + 1, true, by omega, by simp, rfl, fun r => (by cases r), by rw [HY.out]; exact drewN_tw _ _ _⟩
                case measure => simp [intOf]; omega
              · have ss := str_neD hc
                subst hd
                have NY := Lib.hid (NX.out (fun r => hc r.2))
                go_wp2
                go_quiet (fail)
                go_wp2
                go_roundw
                case rel => exact ⟨k + 1, false, by omega, by simp, rfl, fun _ => NY.out, by rw [HY.out]; exact drewN_tw _ _ _⟩
                case measure => simp [intOf]; omega
            · have dd : (fd == md) = false := by rw [beq_eq_false_iff_ne]; exact hd
              have NY := Lib.hid (NX.out (fun r => hd r.1))
              go_wp2
              go_quiet (fail)
              go_wp2
              go_roundw
              case rel => exact ⟨k + 1, false, by omega, by simp, rfl, fun _ => NY.out, by rw [HY.out]; exact drewN_tw _ _ _⟩
              case measure => simp [intOf]; omega
          · exfalso
            obtain rfl : k = n2 := by omega
            exact hF.out rfl j0 JJ.out.1 JJ.out.2
    · obtain rfl : i = n1 := by omega
      have BX := Lib.hid (p := Below w.heap.size w wr) (by rw [hwr]; exact ⟨rfl, rfl, rfl, Nat.le_refl _, fun _ _ => rfl⟩)
      clear hwr
      go_wp2
      go_ret
      exact ⟨rfl, BX.out⟩
end Go.Proofs.YtmdgfcldohmjdaaDoor
