/-
  WALK: the document's answer (payoffref01): times.
-/
import Derived.Test.YtjlnbhmiahegmaaWRef2
import Derived.Test.YtjlnbhmiahegmaaPlainTimes
import Derived.Outline
namespace Go.Proofs.Ytjlnbhmiahegmaa
open Go.RowKit
set_option maxRecDepth 100000
set_option linter.unusedVariables false

/-- A store into a row of the call's own. -/
theorem own_set {w : World} {B g N : Nat} {os : List Int} (h : w.ownsRow B 3 1 (.slice (some ⟨g, 0, none⟩) N N) N (os.map (Value.int .i64))) (j : Nat) (d : Int) :
    (w.setCell ⟨g, j, none⟩ (.int .i64 d)).ownsRow B 3 1 (.slice (some ⟨g, 0, none⟩) N N) N ((os.set j d).map (Value.int .i64)) := by
  have := (h.stored j (.int .i64 d)).1
  rw [List.map_set]; exact this
theorem own_cell {w : World} {B g N : Nat} {os : List Int} (h : w.ownsRow B 3 1 (.slice (some ⟨g, 0, none⟩) N N) N (os.map (Value.int .i64))) (hl : os.length = N) (j : Nat) (hj : j < N) :
    w.cell? ⟨g, j, none⟩ = some (.int .i64 (os.getD j 0)) := by
  rw [h.cellAt j (by omega)]
  simp [show j < os.length by omega]

set_option maxHeartbeats 1600000 in
theorem times_any (va vb : Value) (a b : List Int) (w : World) (ha : Dg w va a) (hb : Dg w vb b) (la : a.length ≤ 150) (lb : b.length ≤ 150) :
    Calls Try.prog 82 #[va, vb] w fun e w' => ∃ v, e = .returned v ∧ Below w.heap.size w w' ∧ ∃ ds, Dg w' v ds ∧ dval ds = dval a * dval b ∧ Norm ds ∧ Fresh w.heap.size v := by
  obtain ⟨i0, hi, hz0, hz1, hz2⟩ := info_parts info3
  have HA := veil ha
  have HB := veil hb
  obtain ⟨a1, a2, ao, cap, rfl, ac, am, ar⟩ := ha
  obtain ⟨b1, b2, bo, cap', rfl, bc, bm, br⟩ := hb
  have A1 := veil a1
  have B1 := veil b1
  have HC : ∀ i, i < a.length → ∃ p off, ao = some ⟨p, off, none⟩ ∧ p < w.heap.size ∧ w.cell? ⟨p, off + i, none⟩ = some (.int .i64 (a.getD i 0)) := by
    intro i hi
    rcases ar with h0 | ⟨p, off, h1, h2, h3⟩
    · omega
    · exact ⟨p, off, h1, h2, h3 i hi⟩
  have HC' := veil HC
  clear ar br a1 b1 ac bc a2 b2 HC
  go_enter Try.func82, Try.ntmps82
  go_wp2_with (at_make; refine wpList_make_full _ rfl _ _ 26 rfl w.heap.size 3 i0 (.int .i64 0) 1 Try.underlying26 hi hz0 hz1 .i64 .i64 _ _ (a.length + b.length + 1) rfl rfl (by omega) (by omega) (by rw [hz2]; omega) (by unfold maxLen; omega) (Nat.le_refl _) ?_; intro w1 hown1 hgrow1)
  have own0 : w1.ownsRow w.heap.size 3 1 (.slice (some ⟨w.heap.size, 0, none⟩) (a.length + b.length + 1) (a.length + b.length + 1)) (a.length + b.length + 1) ((List.replicate (a.length + b.length + 1) (0 : Int)).map (Value.int .i64)) := by
    rw [List.map_replicate]
    have e := toList_madeCells_one (.int .i64 0) (a.length + b.length + 1)
    rw [← e]
    have h := hown1
    rw [Nat.mul_one] at h
    exact h
  have bel0 : Below w.heap.size w w1 := (Below.refl _ _).grown hgrow1 (Nat.le_refl _) (by simp)
  clear hown1 hgrow1
  generalize hN : a.length + b.length + 1 = N at *
  have HN := veil hN
  have hN1 : a.length + b.length + 1 ≤ N := by omega
  have hN2 : N ≤ a.length + b.length + 1 := by omega
  clear hN
  go_loopw [6] (fun i wr => ∃ k : Nat, k ≤ a.length ∧ i = .int .i64 k ∧ ∃ os : List Int, os.length = N ∧ Digs os ∧ dval os = dval (a.take k) * dval b ∧ wr.ownsRow w.heap.size 3 1 (.slice (some ⟨w.heap.size, 0, none⟩) N N) N (os.map (Value.int .i64)) ∧ Below w.heap.size w wr) (fun i _ => a.length - (intOf i).toNat)
  case atStart => exact ⟨0, by omega, rfl, _, by simp, digs_replicate _, by simp [dval, dval_replicate], own0, bel0⟩
  case round =>
    obtain ⟨k, hk, rfl, os, olen, odig, oval, oown, obel⟩ := hrel
    have OL := veil olen
    have OD := veil odig
    have OV := veil oval
    have OO := veil oown
    have OB := veil obel
    clear olen odig oval oown
    by_cases h1 : k < a.length
    · obtain ⟨p, off, rfl, hp, hcell⟩ := unveil HC' k h1
      have EA : ∃ ai, a.getD k 0 = ai := ⟨_, rfl⟩
      obtain ⟨ai, hai⟩ := EA
      have ba := unveil A1 k
      rw [hai] at hcell ba
      obtain ⟨ba1, ba2⟩ := ba
      have AI := veil hai
      have ACELL := veil hcell
      clear hai hcell
      go_wp2_with fail
      go_loopw [7, 8] (fun c j wq => ∃ (m : Nat) (cc : Int) (os : List Int), m ≤ b.length + 1 ∧ j = .int .i64 m ∧ c = .int .i64 cc ∧ 0 ≤ cc ∧ cc ≤ 9 ∧ os.length = N ∧ Digs os ∧ dval os + ten (k + m) * cc = dval (a.take k) * dval b + ten k * (ai * dval (b.take m)) ∧ (m = b.length + 1 → cc = 0) ∧
          wq.ownsRow w.heap.size 3 1 (.slice (some ⟨w.heap.size, 0, none⟩) N N) N (os.map (Value.int .i64)) ∧ Below w.heap.size w wq) (fun _ j _ => b.length + 1 - (intOf j).toNat)
      case atStart => exact ⟨0, 0, os, by omega, rfl, rfl, by omega, by omega, unveil OL, unveil OD, by simp [dval, unveil OV], fun _ => rfl, unveil OO, unveil OB⟩
      case round =>
        clear OL OD OV OO OB os
        obtain ⟨m, cc, os, hm, rfl, rfl, c0, c1, olen, odig, oval, otop, oown, obel2⟩ := hrel
        have hkm : k + m < N ∨ (b.length + 1 ≤ m) := by omega
        have acell : wr.cell? ⟨p, off + k, none⟩ = some (.int .i64 ai) := (obel2.cell (p := ⟨p, off + k, none⟩) hp).trans (unveil ACELL)
        have CB := veil (fun n => at_any _ b m (wr.drewN n) (by omega) (((unveil HB).later obel2).draws n))
        have OL := veil olen
        have OD := veil odig
        have OV := veil oval
        have OT := veil otop
        have OO := veil oown
        have OB := veil obel2
        have TOP := veil (fun (hmb : m = b.length) => by
          subst hmb
          exact times_top (unveil A1) (unveil B1) odig h1 (unveil AI) oval)
        have ROW := veil (fun (hmb : b.length ≤ m) (hc : cc = 0) => by
          subst hc
          exact times_row (unveil AI) hmb oval)
        by_cases h3 : m ≤ b.length
        · have ocell := own_cell oown olen (k + m) (by omega)
          have bd := odig (k + m)
          have bb := unveil B1 m
          have V0 := times_step (os := os) (b := b) (i := k) (j := m) (c := cc) (ai := ai) (by omega) oval rfl rfl rfl
          have V := veil V0
          have EB := veil (fun (h : ¬ m < b.length) => show b.getD m 0 = 0 by simp [List.getElem?_eq_none (Nat.le_of_not_lt h)])
          have TP := veil (fun (hmb : m = b.length) => show os.getD (k + m) 0 + cc ≤ 9 by subst hmb; exact unveil TOP rfl)
          clear V0 TOP odig oval otop oown obel2 olen
          generalize os.getD (k + m) 0 = d at *
          generalize b.getD m 0 = bj at *
          obtain ⟨bd1, bd2⟩ := bd
          obtain ⟨bb1, bb2⟩ := bb
          have pr1 : 0 ≤ ai * bj := Int.mul_nonneg ba1 bb1
          have pr2 : ai * bj ≤ 81 := by
            have m1 := Int.mul_le_mul_of_nonneg_right ba2 bb1
            omega
          by_cases h4 : m < b.length
          · go_wp2_with fail
            go_quiet ((go_at_call 83; exact Calls.quiet_of_same (unveil CB _)))
            have O2 : (wr.drewN nq).ownsRow w.heap.size 3 1 (.slice (some ⟨w.heap.size, 0, none⟩) N N) N (os.map (Value.int .i64)) := unveil OO
            have B2 : Below w.heap.size w (wr.drewN nq) := below_nq (unveil OB) nq
            have oc2 : (wr.drewN nq).cell? ⟨w.heap.size, k + m, none⟩ = some (.int .i64 d) := ocell
            have of2 : (wr.drewN nq).frozen? ⟨w.heap.size, k + m, none⟩ = false := O2.frozenAt (k + m)
            have R1 := veil (own_set O2 (k + m) ((d + ai * bj + cc) % 10))
            have R2 := veil (B2.setCell (p := ⟨w.heap.size, k + m, none⟩) (Nat.le_refl _) (.int .i64 ((d + ai * bj + cc) % 10)))
            clear O2 B2 ocell acell CB
            generalize wr.drewN nq = wz at *
            go_wp2_with fail
            go_roundw
            case rel => exact ⟨m + 1, (d + ai * bj + cc) / 10, os.set (k + m) ((d + ai * bj + cc) % 10), by omega, by go_num, rfl, by omega, by omega, by simp [unveil OL], digs_set (unveil OD) _ (by omega) (by omega), unveil V, by omega, unveil R1, unveil R2⟩
            case measure => simp [intOf]; omega
          · have h4' : decide ((m : Int) < (b.length : Int)) = false := by simp; omega
            have hmb : m = b.length := by omega
            have hb0 : bj = 0 := unveil EB h4
            have tp := unveil TP hmb
            have pr3 : ai * bj ≤ 0 := by rw [hb0]; simp
            clear hb0 hmb
            by_cases h5 : 0 < cc
            · go_wp2_with fail
              go_quiet ((go_at_call 83; exact Calls.quiet_of_same (unveil CB _)))
              have O2 : (wr.drewN nq).ownsRow w.heap.size 3 1 (.slice (some ⟨w.heap.size, 0, none⟩) N N) N (os.map (Value.int .i64)) := unveil OO
              have B2 : Below w.heap.size w (wr.drewN nq) := below_nq (unveil OB) nq
              have oc2 : (wr.drewN nq).cell? ⟨w.heap.size, k + m, none⟩ = some (.int .i64 d) := ocell
              have of2 : (wr.drewN nq).frozen? ⟨w.heap.size, k + m, none⟩ = false := O2.frozenAt (k + m)
              have R1 := veil (own_set O2 (k + m) ((d + ai * bj + cc) % 10))
              have R2 := veil (B2.setCell (p := ⟨w.heap.size, k + m, none⟩) (Nat.le_refl _) (.int .i64 ((d + ai * bj + cc) % 10)))
              clear O2 B2 ocell acell CB
              generalize wr.drewN nq = wz at *
              go_wp2_with fail
              go_roundw
              case rel => exact ⟨m + 1, (d + ai * bj + cc) / 10, os.set (k + m) ((d + ai * bj + cc) % 10), by omega, by go_num, rfl, by omega, by omega, by simp [unveil OL], digs_set (unveil OD) _ (by omega) (by omega), unveil V, by omega, unveil R1, unveil R2⟩
              case measure => simp [intOf]; omega
            · have h5' : decide (0 < cc) = false := by simp; omega
              have R := veil (unveil ROW (by omega) (by omega))
              go_wp2_with fail
              go_roundw
              case rel => exact ⟨k + 1, by omega, by go_num, os, unveil OL, unveil OD, unveil R, unveil OO, unveil OB⟩
              case measure => simp [intOf]; omega
        · have h4' : decide ((m : Int) < (b.length : Int)) = false := by simp; omega
          have hc : cc = 0 := otop (by omega)
          have h5' : decide (0 < cc) = false := by simp; omega
          have R := veil (unveil ROW (by omega) hc)
          clear hc TOP odig oval otop oown obel2 olen
          go_wp2_with fail
          go_roundw
          case rel => exact ⟨k + 1, by omega, by go_num, os, unveil OL, unveil OD, unveil R, unveil OO, unveil OB⟩
          case measure => simp [intOf]; omega
    · have hka : k = a.length := by omega
      have F := veil (show dval os = dval a * dval b by rw [unveil OV, hka, dval_take_all a _ (Nat.le_refl _)])
      subst hka
      have hl : os.length = N := unveil OL
      have DG := veil (dg_of_own (ds := os) (by rw [hl]; exact unveil OO) (unveil OD) (by omega))
      have FR := veil (fresh_of_own (unveil OO))
      clear hl
      go_wp2_with fail
      refine (trim_any _ os wr (unveil DG)).mono ?_
      rintro e w' ⟨v, rfl, rfl, dt, d1, d2, d3, d4, d5⟩
      go_wp2_with fail
      go_ret
      exact ⟨_, rfl, unveil OB, dt, d1, d2.trans (unveil F), d3, d5 _ (unveil FR)⟩

end Go.Proofs.Ytjlnbhmiahegmaa
