/-
  PLAIN ARITHMETIC: the school's product of two lists of digits. No Go in sight.
-/
import Derived.Test.YtjlnbhmiahegmaaMN1
import Derived.Outline
import Derived.Deep.RegionHeld3
import Derived.Test.YtjlnbhmiahegmaaWDiv
import Derived.Laws.AppendOwnNone
import Derived.Test.YtjlnbhmiahegmaaWRatio
namespace Go.Proofs.Ytjlnbhmiahegmaa
open Go.RowKit

theorem dval_ge {os : List Int} (h : Digs os) (k : Nat) : ten k * os.getD k 0 ≤ dval os := by
  by_cases hk : k < os.length
  · have e := dval_split os (k + 1) (by omega)
    rw [dval_take_succ] at e
    have h1 := (dval_bd _ (digs_take h k)).1
    have h3 : Digs (os.drop (k + 1)) := fun i => by
      have := h (k + 1 + i)
      simp only [List.getD_eq_getElem?_getD, List.getElem?_drop] at *
      exact this
    have h2 := Int.mul_nonneg (show 0 ≤ ten (k + 1) by have := ten_pos (k + 1); omega) (dval_bd _ h3).1
    omega
  · have e : os.getD k 0 = 0 := by simp [List.getElem?_eq_none (Nat.le_of_not_lt hk)]
    rw [e]
    have := (dval_bd os h).1
    simp; exact this

/-- One place of a product's row. -/
theorem times_step {os b : List Int} {i j : Nat} {c ai bj d P s : Int} (hl : i + j < os.length) (h : dval os + ten (i + j) * c = P + ten i * (ai * dval (b.take j))) (ed : os.getD (i + j) 0 = d) (eb : b.getD j 0 = bj) (hs : d + ai * bj + c = s) :
    dval (os.set (i + j) (s % 10)) + ten (i + (j + 1)) * (s / 10) = P + ten i * (ai * dval (b.take (j + 1))) := by
  rw [dval_set _ _ _ hl, ed, dval_take_succ, eb, ← Nat.add_assoc, ten_succ]
  have e1 : 10 * ten (i + j) * (s / 10) = ten (i + j) * (10 * (s / 10)) := by rw [Int.mul_comm 10, Int.mul_assoc]
  have e2 : ten (i + j) * (s % 10 - d) + ten (i + j) * (10 * (s / 10)) = ten (i + j) * (s - d) := by rw [← Int.mul_add]; congr 1; omega
  have e3 : ten (i + j) * (s - d) = ten (i + j) * (ai * bj) + ten (i + j) * c := by rw [← Int.mul_add]; congr 1; omega
  have e4 : ten i * (ai * (dval (b.take j) + ten j * bj)) = ten i * (ai * dval (b.take j)) + ten (i + j) * (ai * bj) := by
    rw [Int.mul_add, Int.mul_add, ten_add]
    have : ten i * (ai * (ten j * bj)) = ten i * ten j * (ai * bj) := by
      rw [Int.mul_assoc (ten i) (ten j), ← Int.mul_assoc ai (ten j), Int.mul_comm ai (ten j), Int.mul_assoc (ten j) ai]
    rw [this]
  omega
/-- Behind the last digit what is carried fits one place. -/
theorem times_top {os a b : List Int} {i : Nat} {c ai : Int} (ha : Digs a) (hb : Digs b) (ho : Digs os) (hi : i < a.length) (ea : a.getD i 0 = ai)
    (h : dval os + ten (i + b.length) * c = dval (a.take i) * dval b + ten i * (ai * dval (b.take b.length))) : os.getD (i + b.length) 0 + c ≤ 9 := by
  rw [dval_take_all b _ (Nat.le_refl _)] at h
  have e : dval (a.take i) * dval b + ten i * (ai * dval b) = dval (a.take (i + 1)) * dval b := by
    rw [dval_take_succ, ea, Int.add_mul, Int.mul_assoc]
  rw [e] at h
  have h1 := dval_bd _ (digs_take ha (i + 1))
  rw [List.length_take, Nat.min_eq_left (by omega)] at h1
  have h2 := dval_bd b hb
  have h3 := dval_ge ho (i + b.length)
  have hp := ten_pos (i + b.length)
  have hp1 := ten_pos (i + 1)
  have h4 : dval (a.take (i + 1)) * dval b < ten (i + 1) * ten b.length := by
    have m1 := Int.mul_le_mul_of_nonneg_right (show dval (a.take (i + 1)) ≤ ten (i + 1) by omega) h2.1
    have m2 := Int.mul_lt_mul_of_pos_left h2.2 hp1
    omega
  rw [← ten_add, show i + 1 + b.length = i + b.length + 1 by omega, ten_succ] at h4
  refine Int.not_lt.1 fun hc => ?_
  have h5 := Int.mul_le_mul_of_nonneg_left (show 10 ≤ os.getD (i + b.length) 0 + c by omega) (show 0 ≤ ten (i + b.length) by omega)
  rw [Int.mul_add] at h5
  omega
/-- A row of the product is done. -/
theorem times_row {os a b : List Int} {i j : Nat} {ai : Int} (ea : a.getD i 0 = ai) (hj : b.length ≤ j) (h : dval os + ten (i + j) * 0 = dval (a.take i) * dval b + ten i * (ai * dval (b.take j))) : dval os = dval (a.take (i + 1)) * dval b := by
  rw [dval_take_all b _ hj] at h
  rw [dval_take_succ, ea, Int.add_mul, Int.mul_assoc]
  simpa using h

end Go.Proofs.Ytjlnbhmiahegmaa

namespace Go.Proofs.Ytjlnbhmiahegmaa
open Go.RowKit
set_option maxRecDepth 100000
set_option linter.unusedVariables false

/-- A store into a row of the call's own. -/
theorem own_set {w : World} {B g N : Nat} {os : List Int} (h : w.ownsRow B 3 1 (.slice (some ⟨g, 0, none⟩) N N) N (os.map (Value.int .i64))) (j : Nat) (d : Int) :
    (w.setCell ⟨g, j, none⟩ (.int .i64 d)).ownsRow B 3 1 (.slice (some ⟨g, 0, none⟩) N N) N ((os.set j d).map (Value.int .i64)) := by
  have := (h.stored j (.int .i64 d)).1
  rw [List.map_set]; exact this
theorem own_cell {w : World} {B g N : Nat} {os : List Int} (h : w.ownsRow B 3 1 (.slice (some ⟨g, 0, none⟩) N N) N (os.map (Value.int .i64))) (hl : os.length = N) (j : Nat) (hj : j < N) :
    w.cell? ⟨g, j, none⟩ = some (.int .i64 (os.getD j 0)) := by
  rw [h.cellAt j (by omega)]
  simp [show j < os.length by omega]

set_option maxHeartbeats 1600000 in
theorem times_any (va vb : Value) (a b : List Int) (w : World) (ha : Dg w va a) (hb : Dg w vb b) (la : a.length ≤ 150) (lb : b.length ≤ 150) :
    Calls Try.prog 82 #[va, vb] w fun e w' => ∃ v, e = .returned v ∧ Below w.heap.size w w' ∧ ∃ ds, Dg w' v ds ∧ dval ds = dval a * dval b ∧ Norm ds ∧ Fresh w.heap.size v := by
  obtain ⟨i0, hi, hz0, hz1, hz2⟩ := info_parts info3
  have HA := veil ha
  have HB := veil hb
  obtain ⟨a1, a2, ao, cap, rfl, ac, am, ar⟩ := ha
  obtain ⟨b1, b2, bo, cap', rfl, bc, bm, br⟩ := hb
  have A1 := veil a1
  have B1 := veil b1
  have HC : ∀ i, i < a.length → ∃ p off, ao = some ⟨p, off, none⟩ ∧ p < w.heap.size ∧ w.cell? ⟨p, off + i, none⟩ = some (.int .i64 (a.getD i 0)) := by
    intro i hi
    rcases ar with h0 | ⟨p, off, h1, h2, h3⟩
    · omega
    · exact ⟨p, off, h1, h2, h3 i hi⟩
  have HC' := veil HC
  clear ar br a1 b1 ac bc a2 b2 HC
  go_enter Try.func82, Try.ntmps82
  go_wp2_with (at_make; refine wpList_make_full _ rfl _ _ 26 rfl w.heap.size 3 i0 (.int .i64 0) 1 Try.underlying26 hi hz0 hz1 .i64 .i64 _ _ (a.length + b.length + 1) rfl rfl (by omega) (by omega) (by rw [hz2]; omega) (by unfold maxLen; omega) (Nat.le_refl _) ?_; intro w1 hown1 hgrow1)
  have own0 : w1.ownsRow w.heap.size 3 1 (.slice (some ⟨w.heap.size, 0, none⟩) (a.length + b.length + 1) (a.length + b.length + 1)) (a.length + b.length + 1) ((List.replicate (a.length + b.length + 1) (0 : Int)).map (Value.int .i64)) := by
    rw [List.map_replicate]
    have e := toList_madeCells_one (.int .i64 0) (a.length + b.length + 1)
    rw [← e]
    have h := hown1
    rw [Nat.mul_one] at h
    exact h
  have bel0 : Below w.heap.size w w1 := (Below.refl _ _).grown hgrow1 (Nat.le_refl _) (by simp)
  clear hown1 hgrow1
  generalize hN : a.length + b.length + 1 = N at *
  have HN := veil hN
  have hN1 : a.length + b.length + 1 ≤ N := by omega
  have hN2 : N ≤ a.length + b.length + 1 := by omega
  clear hN
  go_loopw [6] (fun i wr => ∃ k : Nat, k ≤ a.length ∧ i = .int .i64 k ∧ ∃ os : List Int, os.length = N ∧ Digs os ∧ dval os = dval (a.take k) * dval b ∧ wr.ownsRow w.heap.size 3 1 (.slice (some ⟨w.heap.size, 0, none⟩) N N) N (os.map (Value.int .i64)) ∧ Below w.heap.size w wr) (fun i _ => a.length - (intOf i).toNat)
  case atStart => exact ⟨0, by omega, rfl, _, by simp, digs_replicate _, by simp [dval, dval_replicate], own0, bel0⟩
  case round =>
    obtain ⟨k, hk, rfl, os, olen, odig, oval, oown, obel⟩ := hrel
    have OL := veil olen
    have OD := veil odig
    have OV := veil oval
    have OO := veil oown
    have OB := veil obel
    clear olen odig oval oown
    by_cases h1 : k < a.length
    · obtain ⟨p, off, rfl, hp, hcell⟩ := unveil HC' k h1
      have EA : ∃ ai, a.getD k 0 = ai := ⟨_, rfl⟩
      obtain ⟨ai, hai⟩ := EA
      have ba := unveil A1 k
      rw [hai] at hcell ba
      obtain ⟨ba1, ba2⟩ := ba
      have AI := veil hai
      have ACELL := veil hcell
      clear hai hcell
      go_wp2_with fail
      go_loopw [7, 8] (fun c j wq => ∃ (m : Nat) (cc : Int) (os : List Int), m ≤ b.length + 1 ∧ j = .int .i64 m ∧ c = .int .i64 cc ∧ 0 ≤ cc ∧ cc ≤ 9 ∧ os.length = N ∧ Digs os ∧ dval os + ten (k + m) * cc = dval (a.take k) * dval b + ten k * (ai * dval (b.take m)) ∧ (m = b.length + 1 → cc = 0) ∧
          wq.ownsRow w.heap.size 3 1 (.slice (some ⟨w.heap.size, 0, none⟩) N N) N (os.map (Value.int .i64)) ∧ Below w.heap.size w wq) (fun _ j _ => b.length + 1 - (intOf j).toNat)
      case atStart => exact ⟨0, 0, os, by omega, rfl, rfl, by omega, by omega, unveil OL, unveil OD, by simp [dval, unveil OV], fun _ => rfl, unveil OO, unveil OB⟩
      case round =>
        clear OL OD OV OO OB os
        obtain ⟨m, cc, os, hm, rfl, rfl, c0, c1, olen, odig, oval, otop, oown, obel2⟩ := hrel
        have hkm : k + m < N ∨ (b.length + 1 ≤ m) := by omega
        have acell : wr.cell? ⟨p, off + k, none⟩ = some (.int .i64 ai) := (obel2.cell (p := ⟨p, off + k, none⟩) hp).trans (unveil ACELL)
        have CB := veil (fun n => at_any _ b m (wr.drewN n) (by omega) (((unveil HB).later obel2).draws n))
        have OL := veil olen
        have OD := veil odig
        have OV := veil oval
        have OT := veil otop
        have OO := veil oown
        have OB := veil obel2
        have TOP := veil (fun (hmb : m = b.length) => by
          subst hmb
          exact times_top (unveil A1) (unveil B1) odig h1 (unveil AI) oval)
        have ROW := veil (fun (hmb : b.length ≤ m) (hc : cc = 0) => by
          subst hc
          exact times_row (unveil AI) hmb oval)
        by_cases h3 : m ≤ b.length
        · have ocell := own_cell oown olen (k + m) (by omega)
          have bd := odig (k + m)
          have bb := unveil B1 m
          have V0 := times_step (os := os) (b := b) (i := k) (j := m) (c := cc) (ai := ai) (by omega) oval rfl rfl rfl
          have V := veil V0
          have EB := veil (fun (h : ¬ m < b.length) => show b.getD m 0 = 0 by simp [List.getElem?_eq_none (Nat.le_of_not_lt h)])
          have TP := veil (fun (hmb : m = b.length) => show os.getD (k + m) 0 + cc ≤ 9 by subst hmb; exact unveil TOP rfl)
          clear V0 TOP odig oval otop oown obel2 olen
          generalize os.getD (k + m) 0 = d at *
          generalize b.getD m 0 = bj at *
          obtain ⟨bd1, bd2⟩ := bd
          obtain ⟨bb1, bb2⟩ := bb
          have pr1 : 0 ≤ ai * bj := Int.mul_nonneg ba1 bb1
          have pr2 : ai * bj ≤ 81 := by
            have m1 := Int.mul_le_mul_of_nonneg_right ba2 bb1
            omega
          by_cases h4 : m < b.length
          · go_wp2_with fail
            go_quiet ((go_at_call 83; exact Calls.quiet_of_same (unveil CB _)))
            have O2 : (wr.drewN nq).ownsRow w.heap.size 3 1 (.slice (some ⟨w.heap.size, 0, none⟩) N N) N (os.map (Value.int .i64)) := unveil OO
            have B2 : Below w.heap.size w (wr.drewN nq) := below_nq (unveil OB) nq
            have oc2 : (wr.drewN nq).cell? ⟨w.heap.size, k + m, none⟩ = some (.int .i64 d) := ocell
            have of2 : (wr.drewN nq).frozen? ⟨w.heap.size, k + m, none⟩ = false := O2.frozenAt (k + m)
            have R1 := veil (own_set O2 (k + m) ((d + ai * bj + cc) % 10))
            have R2 := veil (B2.setCell (p := ⟨w.heap.size, k + m, none⟩) (Nat.le_refl _) (.int .i64 ((d + ai * bj + cc) % 10)))
            clear O2 B2 ocell acell CB
            generalize wr.drewN nq = wz at *
            go_wp2_with fail
            go_roundw
            case rel => exact ⟨m + 1, (d + ai * bj + cc) / 10, os.set (k + m) ((d + ai * bj + cc) % 10), by omega, by go_num, rfl, by omega, by omega, by simp [unveil OL], digs_set (unveil OD) _ (by omega) (by omega), unveil V, by omega, unveil R1, unveil R2⟩
            case measure => simp [intOf]; omega
          · have h4' : decide ((m : Int) < (b.length : Int)) = false := by simp; omega
            have hmb : m = b.length := by omega
            have hb0 : bj = 0 := unveil EB h4
            have tp := unveil TP hmb
            have pr3 : ai * bj ≤ 0 := by rw [hb0]; simp
            clear hb0 hmb
            by_cases h5 : 0 < cc
            · go_wp2_with fail
              go_quiet ((go_at_call 83; exact Calls.quiet_of_same (unveil CB _)))
              have O2 : (wr.drewN nq).ownsRow w.heap.size 3 1 (.slice (some ⟨w.heap.size, 0, none⟩) N N) N (os.map (Value.int .i64)) := unveil OO
              have B2 : Below w.heap.size w (wr.drewN nq) := below_nq (unveil OB) nq
              have oc2 : (wr.drewN nq).cell? ⟨w.heap.size, k + m, none⟩ = some (.int .i64 d) := ocell
              have of2 : (wr.drewN nq).frozen? ⟨w.heap.size, k + m, none⟩ = false := O2.frozenAt (k + m)
              have R1 := veil (own_set O2 (k + m) ((d + ai * bj + cc) % 10))
              have R2 := veil (B2.setCell (p := ⟨w.heap.size, k + m, none⟩) (Nat.le_refl _) (.int .i64 ((d + ai * bj + cc) % 10)))
              clear O2 B2 ocell acell CB
              generalize wr.drewN nq = wz at *
              go_wp2_with fail
              go_roundw
              case rel => exact ⟨m + 1, (d + ai * bj + cc) / 10, os.set (k + m) ((d + ai * bj + cc) % 10), by omega, by go_num, rfl, by omega, by omega, by simp [unveil OL], digs_set (unveil OD) _ (by omega) (by omega), unveil V, by omega, unveil R1, unveil R2⟩
              case measure => simp [intOf]; omega
            · have h5' : decide (0 < cc) = false := by simp; omega
              have R := veil (unveil ROW (by omega) (by omega))
              go_wp2_with fail
              go_roundw
              case rel => exact ⟨k + 1, by omega, by go_num, os, unveil OL, unveil OD, unveil R, unveil OO, unveil OB⟩
              case measure => simp [intOf]; omega
        · have h4' : decide ((m : Int) < (b.length : Int)) = false := by simp; omega
          have hc : cc = 0 := otop (by omega)
          have h5' : decide (0 < cc) = false := by simp; omega
          have R := veil (unveil ROW (by omega) hc)
          clear hc TOP odig oval otop oown obel2 olen
          go_wp2_with fail
          go_roundw
          case rel => exact ⟨k + 1, by omega, by go_num, os, unveil OL, unveil OD, unveil R, unveil OO, unveil OB⟩
          case measure => simp [intOf]; omega
    · have hka : k = a.length := by omega
      have F := veil (show dval os = dval a * dval b by rw [unveil OV, hka, dval_take_all a _ (Nat.le_refl _)])
      subst hka
      have hl : os.length = N := unveil OL
      have DG := veil (dg_of_own (ds := os) (by rw [hl]; exact unveil OO) (unveil OD) (by omega))
      have FR := veil (fresh_of_own (unveil OO))
      clear hl
      go_wp2_with fail
      refine (trim_any _ os wr (unveil DG)).mono ?_
      rintro e w' ⟨v, rfl, rfl, dt, d1, d2, d3, d4, d5⟩
      go_wp2_with fail
      go_ret
      exact ⟨_, rfl, unveil OB, dt, d1, d2.trans (unveil F), d3, d5 _ (unveil FR)⟩

end Go.Proofs.Ytjlnbhmiahegmaa

namespace Go.Proofs.Ytjlnbhmiahegmaa
open Go.RowKit
set_option maxRecDepth 100000
set_option linter.unusedVariables false

set_option maxHeartbeats 1600000 in
theorem timesB_box (na nb : Bool) (oa ob : Option Addr) (ca cb : Nat) (a b : List Int) (w : World) (ha : Dg w (.slice oa a.length ca) a) (hb : Dg w (.slice ob b.length cb) b) (la : a.length ≤ 150) (lb : b.length ≤ 150) :
    Calls Try.prog 60 #[.agg #[.bool na, .slice oa a.length ca], .agg #[.bool nb, .slice ob b.length cb]] w fun e w' => ∃ v, ∃ ds, e = .returned (.agg #[.bool ((na != nb) && decide (0 < ds.length)), v]) ∧ Below w.heap.size w w' ∧ Dg w' v ds ∧ dval ds = dval a * dval b ∧ Norm ds := by
  have Ha := veil ha
  have Hb := veil hb
  have PM := PBox.made w na nb (.slice oa a.length ca) (.slice ob b.length cb)
  clear ha hb
  go_enter Try.func60, Try.ntmps60
  go_wp2_with fail
  generalize (((w.alloc (.cells #[.bool na, .slice oa a.length ca] 98)).alloc (.cells #[.bool nb, .slice ob b.length cb] 98)).alloc (.cells #[.bool false, .slice none 0 0] 98)) = W at *
  have PV := veil PM
  obtain ⟨s, bel, a0, a1, b0, b1, r0, r1, q0, q1⟩ := PM
  have CP := veil (times_any _ _ a b W.drew ((unveil Ha).later bel.drew) ((unveil Hb).later bel.drew) la lb)
  have PD := veil (unveil PV).drew
  go_region_held3 (fun w' => w'.cell? ⟨w.heap.size, 0, none⟩ = some (.bool na) ∧ w'.cell? ⟨w.heap.size, 1, none⟩ = some (.slice oa a.length ca) ∧ w'.cell? ⟨w.heap.size + 1, 0, none⟩ = some (.bool nb) ∧ w'.cell? ⟨w.heap.size + 1, 1, none⟩ = some (.slice ob b.length cb)) (refine ⟨?_, ?_, ?_, ?_⟩ <;> first | assumption | (rw [World.cell?_setCell_other _ _ _ _ (by simp), World.cell?_setCell_other _ _ _ _ (by simp)]; assumption) | (simp [*]; done)) (first | (go_at_call 82; refine (unveil CP).mono ?_; rintro e w3 ⟨v, rfl, hb3, ds, d3, v3, n3, f3⟩; have P3 := (unveil PD).later hb3; obtain ⟨s3, bel3, a03, a13, b03, b13, r03, r13, q03, q13⟩ := id P3; obtain ⟨_, _, o3, c3, rfl, _⟩ := id d3; have D3 := veil d3; have V3 := veil v3; have N3 := veil n3; have F3 := veil f3; have P3' := veil P3; clear d3 v3 n3 P3 hb3 f3) | (go_at_call 63; refine (sign_any _ _ ds w3 (unveil D3)).mono ?_; rintro e w4 ⟨rfl, hb4⟩; have P4 := (unveil P3').later hb4; obtain ⟨s4, bel4, a04, a14, b04, b14, r04, r14, q04, q14⟩ := id P4; have D4 := veil ((unveil D3).later hb4); clear hb4 P4))
  all_goals go_wp2_with fail
  all_goals
    refine bodyPost_ret (v := .agg #[.bool (!(na == nb) && decide (0 < ds.length)), .slice o3 ds.length c3]) (by simp [results, Try.results60, go_sem, r04, r14]) rfl ?_
    exact ⟨_, ds, rfl, (bel4.setCell (by simp; omega) _).setCell (by simp; omega) _, ((unveil D4).set (unveil F3) s _).set (unveil F3) s _, unveil V3, unveil N3⟩

theorem absI_mul (p q : Int) : absI (p * q) = absI p * absI q := by
  have h := sgn_mul p q
  have h0 := Int.mul_nonneg (absI_nonneg p) (absI_nonneg q)
  rw [← h]
  unfold sgn
  split
  · have e : absI (-(absI p * absI q)) = absI (absI p * absI q) := by generalize absI p * absI q = t; unfold absI; split <;> split <;> omega
    rw [e, absI_pos (by omega)]
  · rw [absI_pos (by omega)]
theorem sign_mul (p q : Int) (h : ¬ p * q = 0) : (decide (p < 0) != decide (q < 0)) = decide (p * q < 0) := by
  have e := sgn_mul p q
  have h0 := Int.mul_nonneg (absI_nonneg p) (absI_nonneg q)
  show dif p q = _
  cases hd : dif p q
  · rw [hd] at e
    simp only [sgn] at e
    rw [← e]
    exact (decide_eq_false (by simpa using h0)).symm
  · rw [hd] at e
    simp only [sgn, if_true] at e
    exact (decide_eq_true (by omega)).symm

theorem timesB_any (x y : Value) (p q : Int) (w : World) (hx : BigR w x p) (hy : BigR w y q) (bp : absI p < ten 100) (bq : absI q < ten 100) :
    Calls Try.prog 60 #[x, y] w fun e w' => ∃ z, e = .returned z ∧ Below w.heap.size w w' ∧ BigR w' z (p * q) := by
  obtain ⟨o1, rfl, a, da, na, va⟩ := hx
  obtain ⟨o2, rfl, b, db, nb, vb⟩ := hy
  obtain ⟨_, _, oa, ca, rfl, _⟩ := id da
  obtain ⟨_, _, ob, cb, rfl, _⟩ := id db
  have la := norm_len da.1 na (k := 100) (by omega)
  have lb := norm_len db.1 nb (k := 100) (by omega)
  refine (timesB_box _ _ oa ob ca cb a b w da db (by omega) (by omega)).mono ?_
  rintro e w' ⟨v, ds, rfl, hbel, hd, hv, hn⟩
  exact ⟨_, rfl, hbel, bigR_sign hd hn (by rw [hv, va, vb, absI_mul]) (sign_mul p q)⟩

theorem ten100' (z : Int) (h : inR z) : absI z < ten 100 := by
  have h1 := (absI_bd z h).2
  have h2 := ten_le (show 19 ≤ 100 by omega)
  rw [ten19] at h2
  omega

end Go.Proofs.Ytjlnbhmiahegmaa

namespace Go.Proofs.Ytjlnbhmiahegmaa
open Go.RowKit

theorem add_in {a b c : Int} (ha : inR a) (hb : inR b) (hc : a + b = c) (h : inR c) (w : World) :
    Calls Try.prog 72 #[.int .i64 a, .int .i64 b] w fun e w' => e = .returned (.tuple #[.int .i64 c, .int .i64 0]) ∧ w' = w := by
  have := add_any a b ha hb w
  rw [hc, fitV_in h, fitF_in h] at this
  exact this
theorem add_out {a b : Int} (ha : inR a) (hb : inR b) (h : ¬ inR (a + b)) (w : World) :
    Calls Try.prog 72 #[.int .i64 a, .int .i64 b] w fun e w' => e = .returned (.tuple #[.int .i64 0, .int .i64 1]) ∧ w' = w := by
  have := add_any a b ha hb w
  rw [fitV_out h, fitF_out h] at this
  exact this
theorem add_as {a b c : Int} (ha : inR a) (hb : inR b) (hc : a + b = c) (w : World) :
    Calls Try.prog 72 #[.int .i64 a, .int .i64 b] w fun e w' => e = .returned (.tuple #[.int .i64 (fitV c), .int .i64 (fitF c)]) ∧ w' = w := by
  rw [← hc]; exact add_any a b ha hb w
theorem sub_in {a b c : Int} (ha : inR a) (hb : inR b) (hc : a - b = c) (h : inR c) (w : World) :
    Calls Try.prog 73 #[.int .i64 a, .int .i64 b] w fun e w' => e = .returned (.tuple #[.int .i64 c, .int .i64 0]) ∧ w' = w := by
  have := sub_any a b ha hb w
  rw [hc, fitV_in h, fitF_in h] at this
  exact this
theorem mul_as {a b c : Int} (ha : inR a) (hb : inR b) (hc : a * b = c) (w : World) :
    Calls Try.prog 74 #[.int .i64 a, .int .i64 b] w fun e w' => e = .returned (.tuple #[.int .i64 (fitV c), .int .i64 (fitF c)]) ∧ w' = w := by
  rw [← hc]; exact mul_any a b ha hb w
theorem mul_in {a b c : Int} (ha : inR a) (hb : inR b) (hc : a * b = c) (h : inR c) (w : World) :
    Calls Try.prog 74 #[.int .i64 a, .int .i64 b] w fun e w' => e = .returned (.tuple #[.int .i64 c, .int .i64 0]) ∧ w' = w := by
  have := mul_any a b ha hb w
  rw [hc, fitV_in h, fitF_in h] at this
  exact this
theorem neg_in {a : Int} (ha : inR a) (h : inR (-a)) (w : World) :
    Calls Try.prog 70 #[.int .i64 a] w fun e w' => e = .returned (.tuple #[.int .i64 (-a), .int .i64 0]) ∧ w' = w := by
  have := neg_any a ha w
  rw [fitV_in h, fitF_in h] at this
  exact this
theorem neg_out {a : Int} (ha : inR a) (h : ¬ inR (-a)) (w : World) :
    Calls Try.prog 70 #[.int .i64 a] w fun e w' => e = .returned (.tuple #[.int .i64 0, .int .i64 1]) ∧ w' = w := by
  have := neg_any a ha w
  rw [fitV_out h, fitF_out h] at this
  exact this

end Go.Proofs.Ytjlnbhmiahegmaa

namespace Go.Proofs.Ytjlnbhmiahegmaa
open Go.RowKit
set_option maxRecDepth 100000

theorem refMul_any (a b : Int) (ha : inR a) (hb : inR b) (w : World) :
    Calls Try.prog 42 #[.int .i64 a, .int .i64 b] w fun e w' => e = .returned (.tuple #[.int .i64 (fitV (a * b)), .int .i64 (fitF (a * b))]) ∧ Below w.heap.size w w' := by
  go_enter Try.func42, Try.ntmps42
  go_wp2_with fail
  refine (from_any a ha _).mono ?_
  rintro e w1 ⟨x, rfl, hb1, hx⟩
  go_wp2_with fail
  refine (from_any b hb _).mono ?_
  rintro e w2 ⟨y, rfl, hb2, hy⟩
  go_wp2_with fail
  refine (timesB_any _ _ a b w2 (hx.later hb2) hy (ten100' a ha) (ten100' b hb)).mono ?_
  rintro e w3 ⟨z, rfl, hb3, hz⟩
  go_wp2_with fail
  refine (out_any _ _ w3 hz).mono ?_
  rintro e w4 ⟨rfl, hb4⟩
  go_wp2_with fail
  go_ret2
  exact ⟨rfl, chain (chain (chain hb1 (Nat.le_refl _) hb2) (Nat.le_refl _) hb3) (Nat.le_refl _) hb4⟩

end Go.Proofs.Ytjlnbhmiahegmaa

namespace Go.Proofs.Ytjlnbhmiahegmaa
open Go.RowKit

theorem dval_drop (a : List Int) (m : Nat) (h : m < a.length) : dval (a.drop m) = a.getD m 0 + 10 * dval (a.drop (m + 1)) := by
  rw [List.drop_eq_getElem_cons h, dval]
  simp [h]
theorem drop_set (q : List Int) (m : Nat) (c : Int) : (q.set m c).drop (m + 1) = q.drop (m + 1) := by
  rw [List.drop_set]; simp
/-- One digit of a quotient is done. -/
theorem over_digit {a q : List Int} {m : Nat} {B R c R' x : Int} (ha : m < a.length) (hq : m < q.length) (ex : a.getD m 0 = x) (h : dval (a.drop (m + 1)) = dval (q.drop (m + 1)) * B + R) (hc : x + 10 * R = c * B + R') :
    dval (a.drop m) = dval ((q.set m c).drop m) * B + R' := by
  rw [dval_drop a m ha, ex, h, dval_drop (q.set m c) m (by simpa using hq), drop_set]
  have e : (q.set m c).getD m 0 = c := by simp [hq]
  rw [e, Int.add_mul, Int.mul_add, Int.mul_assoc]
  omega
/-- .. and not more than nine times. -/
theorem over_nine {B R c R' x : Int} (hB : 0 < B) (hR : R < B) (hx : x ≤ 9) (h : x + 10 * R = c * B + R') (h0 : B ≤ R') : c ≤ 8 := by
  refine Int.not_lt.1 fun hc => ?_
  have m1 := Int.mul_le_mul_of_nonneg_right (show 9 ≤ c by omega) (show 0 ≤ B by omega)
  omega

end Go.Proofs.Ytjlnbhmiahegmaa

namespace Go.Proofs.Ytjlnbhmiahegmaa
open Go.RowKit
set_option maxRecDepth 100000
set_option linter.unusedVariables false

/-- 'append([]int{x}, r...)'. -/
theorem wp_cons {ops : Array Oper} {rest : List Oper} {o : Oper} {a : Act} {Q : Exit → Act → World → Prop} (w : World) (x : Int) (r : Value) (ds : List Int) (hgd : o.guard = none) (s y : Operand)
    (ho : o.op = .call { callee := .builtin .append, args := #[s, y], argTypes := #[26, 26] }) (base : Nat) (hs : a.eval s = .slice (some ⟨w.heap.size, 0, none⟩) 1 1)
    (hy : a.eval y = r) (hd : Dg w r ds) (hl : ds.length ≤ 900) (hb : base ≤ w.heap.size)
    (h : ∀ v' w', w'.ownsRow base 3 1 v' (x :: ds).length ((x :: ds).map (Value.int .i64)) → (w.alloc (.cells #[.int .i64 x] 3)).grownBy w' (some w.heap.size) → wpList Try.prog ops Q rest (a.put o.dst v') w') :
    wpList Try.prog ops Q (o :: rest) a (w.alloc (.cells #[.int .i64 x] 3)) := by
  obtain ⟨i0, hi, hz0, hz1, hz2⟩ := info_parts info3
  obtain ⟨h1, h2, ao, cap, rfl, hc, hm, hr⟩ := hd
  have lit : (w.alloc (.cells #[.int .i64 x] 3)).ownsRow base 3 1 (.slice (some ⟨w.heap.size, 0, none⟩) 1 1) 1 [.int .i64 x] := World.ownsRow_lit w #[.int .i64 x] 1 hb (by decide) rfl
  cases ao with
  | none =>
    have h0 : ds.length = 0 := by
      rcases hr with h0 | ⟨b, off, e, _⟩
      · exact h0
      · cases e
    have hnil := List.eq_nil_of_length_eq_zero h0
    have hcap : cap = 0 := hm.2 rfl
    refine wpList_append_own_none hgd s y 26 ho base 3 i0 1 Try.underlying26 hi _ 1 _ hs lit (by rw [hy, h0, hcap]) ?_
    refine h _ _ ?_ (World.grownBy.refl _ _)
    rw [hnil]; exact lit
  | some ad =>
    refine wpList_append_own _ hgd s y 26 ho base 3 i0 (.int .i64 0) 1 8 Try.underlying26 hi hz0 hz1 hz2 rfl (by decide) _ 1 _ hs lit ad ds.length cap (ds.map (Value.int .i64)) hy (by simp) ?_ (ints_oneCell _ _) (by unfold maxLen; omega) (by omega) (by simp; omega) ?_
    · intro j u hj
      rcases hr with h0 | ⟨b, off, e, hlt, hcell⟩
      · rw [List.eq_nil_of_length_eq_zero h0] at hj; simp at hj
      · injection e with e
        subst e
        have hjl : j < ds.length := by
          refine Nat.lt_of_not_le fun hc => ?_
          rw [List.getElem?_eq_none (by simpa using hc)] at hj
          cases hj
        have e2 : (⟨b, off, none⟩ : Addr).add j = ⟨b, off + j, none⟩ := by simp [Addr.add]
        rw [e2, World.cell?_alloc_past _ _ _ hlt, hcell j hjl, ← hj]
        simp [hjl]
    · intro v' w' g1 g2 _
      refine h v' w' ?_ g2
      have e : ([Value.int .i64 x] ++ ds.map (Value.int .i64)) = (x :: ds).map (Value.int .i64) := rfl
      rw [e] at g1
      rw [List.length_cons, Nat.add_comm]; exact g1

theorem own_later {w w' : World} {B : Nat} {v : Value} {n : Nat} {xs : List Value} (h : w.ownsRow B 3 1 v n xs) (hb : Below w.heap.size w w') : w'.ownsRow B 3 1 v n xs := by
  refine ⟨h.1, ?_⟩
  rcases h.2 with h0 | ⟨g, cap, cur, hv, hg, hh, rest⟩
  · exact Or.inl h0
  · refine Or.inr ⟨g, cap, cur, hv, hg, ?_, rest⟩
    have hlt := (h.lt g (by rw [hv]; rfl)).2
    rw [hb.block g hlt]; exact hh

/-- The number in a cell. -/
def cellN (w : World) (a : Addr) : Nat := match w.cell? a with
  | some v => (intOf v).toNat
  | none => 0
theorem cellN_of {w : World} {a : Addr} {n : Int} (h : w.cell? a = some (.int .i64 n)) : cellN w a = n.toNat := by unfold cellN; rw [h]; rfl

/-- What holds of the row of the quotient's digits. -/
structure QRow (w wr : World) (N : Nat) (qs : List Int) : Prop where
  len : qs.length = N
  dig : Digs qs
  own : wr.ownsRow w.heap.size 3 1 (.slice (some ⟨w.heap.size, 0, none⟩) N N) N (qs.map (Value.int .i64))
  bel : Below w.heap.size w wr
  lt : w.heap.size < wr.heap.size
theorem QRow.later {w wa wb : World} {N : Nat} {qs : List Int} (h : QRow w wa N qs) (hb : Below wa.heap.size wa wb) : QRow w wb N qs :=
  ⟨h.len, h.dig, own_later h.own hb, h.bel.trans (hb.mono (Nat.le_of_lt h.lt)), Nat.lt_of_lt_of_le h.lt hb.size⟩
/-- What holds of the rest. -/
structure RVal (w wr : World) (rv : Value) (rds : List Int) : Prop where
  dg : Dg wr rv rds
  norm : Norm rds
  fresh : Fresh (w.heap.size + 1) rv
theorem RVal.later {w wa wb : World} {rv : Value} {rds : List Int} (h : RVal w wa rv rds) (hb : Below wa.heap.size wa wb) : RVal w wb rv rds := ⟨h.dg.later hb, h.norm, h.fresh⟩

theorem QRow.draws {w wr : World} {N : Nat} {qs : List Int} (h : QRow w wr N qs) (n : Nat) : QRow w (wr.drewN n) N qs := ⟨h.len, h.dig, h.own, below_nq h.bel n, h.lt⟩
theorem RVal.draws {w wr : World} {rv : Value} {rds : List Int} (h : RVal w wr rv rds) (n : Nat) : RVal w (wr.drewN n) rv rds := ⟨h.dg, h.norm, h.fresh⟩
theorem QRow.set {w wr : World} {N : Nat} {qs : List Int} (h : QRow w wr N qs) (m : Nat) {d : Int} (h0 : 0 ≤ d) (h1 : d ≤ 9) : QRow w (wr.setCell ⟨w.heap.size, m, none⟩ (.int .i64 d)) N (qs.set m d) :=
  ⟨by simp [h.len], digs_set h.dig m h0 h1, own_set h.own m d, h.bel.setCell (Nat.le_refl _) _, by simpa using h.lt⟩
theorem RVal.set {w wr : World} {rv : Value} {rds : List Int} (h : RVal w wr rv rds) (m : Nat) (u : Value) : RVal w (wr.setCell ⟨w.heap.size, m, none⟩ u) rv rds := ⟨h.dg.set h.fresh (by omega) u, h.norm, h.fresh⟩

set_option maxHeartbeats 3200000 in
theorem over_any (va vb : Value) (a b : List Int) (w : World) (ha : Dg w va a) (hb : Dg w vb b) (nb : Norm b) (hB : 0 < dval b) (la : a.length ≤ 150) (lb : b.length ≤ 150) :
    Calls Try.prog 62 #[va, vb] w fun e w' => ∃ q r, e = .returned (.tuple #[q, r]) ∧ Below w.heap.size w w' ∧ ∃ qs rs, Dg w' q qs ∧ Norm qs ∧ Dg w' r rs ∧ Norm rs ∧ dval a = dval qs * dval b + dval rs ∧ dval rs < dval b := by
  obtain ⟨i0, hi, hz0, hz1, hz2⟩ := info_parts info3
  have HA := veil ha
  have HB := veil hb
  have NB := veil nb
  have HBP := veil hB
  obtain ⟨a1, a2, ao, cap, rfl, ac, am, ar⟩ := ha
  obtain ⟨b1, b2, bo, cap', rfl, bc, bm, br⟩ := hb
  have A1 := veil a1
  have B1 := veil b1
  have HC : ∀ i, i < a.length → ∃ p off, ao = some ⟨p, off, none⟩ ∧ p < w.heap.size ∧ w.cell? ⟨p, off + i, none⟩ = some (.int .i64 (a.getD i 0)) := by
    intro i hi
    rcases ar with h0 | ⟨p, off, h1, h2, h3⟩
    · omega
    · exact ⟨p, off, h1, h2, h3 i hi⟩
  have HC' := veil HC
  clear ar br a1 b1 ac bc a2 b2 HC nb hB
  go_enter Try.func62, Try.ntmps62
  go_wp2_with (at_make; refine wpList_make_full _ rfl _ _ 26 rfl w.heap.size 3 i0 (.int .i64 0) 1 Try.underlying26 hi hz0 hz1 .i64 .i64 _ _ a.length rfl rfl (by omega) (by omega) (by rw [hz2]; omega) (by unfold maxLen; omega) (Nat.le_refl _) ?_; intro w1 hown1 hgrow1)
  have own0 : w1.ownsRow w.heap.size 3 1 (.slice (some ⟨w.heap.size, 0, none⟩) a.length a.length) a.length ((List.replicate a.length (0 : Int)).map (Value.int .i64)) := by
    rw [List.map_replicate]
    have e := toList_madeCells_one (.int .i64 0) a.length
    rw [← e]
    have h := hown1
    rw [Nat.mul_one] at h
    exact h
  have bel0 : Below w.heap.size w w1 := (Below.refl _ _).grown hgrow1 (Nat.le_refl _) (by simp)
  have Q0 : QRow w w1 a.length (List.replicate a.length 0) := ⟨by simp, digs_replicate _, own0, bel0, (own0.lt w.heap.size rfl).2⟩
  have Q0' := veil Q0
  clear hown1 hgrow1 own0 bel0 Q0
  have E0 := veil (show dval (a.drop a.length) = dval ((List.replicate a.length (0 : Int)).drop a.length) * dval b + dval [] by rw [List.drop_of_length_le (Nat.le_refl _), List.drop_of_length_le (by simp)]; simp [dval])
  generalize hN : a.length = N at *
  have HN := veil hN
  clear hN
  go_loopw [7, 8] (fun r i wr => ∃ k : Nat, k ≤ N ∧ i = .int .i64 ((k : Int) - 1) ∧ ∃ rds qs : List Int, RVal w wr r rds ∧ QRow w wr N qs ∧ dval rds < dval b ∧ (∀ j, j < k → qs.getD j 0 = 0) ∧ dval (a.drop k) = dval (qs.drop k) * dval b + dval rds) (fun _ i _ => (intOf i + 1).toNat)
  case atStart =>
    refine ⟨N, Nat.le_refl _, rfl, [], _, ⟨⟨digs_nil, by simp, none, 0, rfl, by simp, ⟨by unfold maxLen; omega, fun _ => rfl⟩, Or.inl rfl⟩, Or.inl rfl, fun p n c e => by cases e⟩, unveil Q0', unveil HBP, ?_, unveil E0⟩
    intro j _
    simp only [List.getD_eq_getElem?_getD, List.getElem?_replicate]; split <;> simp
  case round =>
    obtain ⟨k, hk, rfl, rds, qs, hR0, hQ0, hlt0, hz0', hv0⟩ := hrel
    have hR := veil hR0
    have hQ := veil hQ0
    have hlt := veil hlt0
    have hz := veil hz0'
    have hv := veil hv0
    have hrl : rds.length ≤ b.length := by
      refine Nat.le_of_not_lt fun hc => ?_
      have := norm_longer hR0.dg.1 hR0.norm (unveil B1) hc
      omega
    have hql : qs.length ≤ N := by have := hQ0.len; omega
    obtain ⟨_, _, rao, rcap, rfl, _⟩ := id hR0.dg
    clear hR0 hQ0 hlt0 hz0' hv0
    cases k with
    | zero =>
      have F := veil (show dval a = dval qs * dval b + dval rds by have := unveil hv; simpa using this)
      have DQ := veil (dg_of_own (ds := qs) (by rw [(unveil hQ).len]; exact (unveil hQ).own) (unveil hQ).dig (by omega))
      go_wp2_with fail
      refine (trim_any _ qs wr (unveil DQ)).mono ?_
      rintro e w' ⟨v, rfl, rfl, dt, d1, d2, d3, d4, d5⟩
      go_wp2_with fail
      go_ret2
      exact ⟨_, _, rfl, (unveil hQ).bel, dt, rds, d1, d3, (unveil hR).dg, (unveil hR).norm, by rw [d2]; exact unveil F, unveil hlt⟩
    | succ m =>
      obtain ⟨p, off, rfl, hp, hcell⟩ := unveil HC' m (by omega)
      have EA : ∃ x, a.getD m 0 = x := ⟨_, rfl⟩
      obtain ⟨x, hx⟩ := EA
      have ba := unveil A1 m
      rw [hx] at hcell ba
      obtain ⟨ba1, ba2⟩ := ba
      have AX := veil hx
      have acell : wr.cell? ⟨p, off + m, none⟩ = some (.int .i64 x) := ((unveil hQ).bel.cell (p := ⟨p, off + m, none⟩) hp).trans hcell
      have hm : (((m + 1 : Nat) : Int) - 1) = (m : Int) := by omega
      rw [hm]
      clear hx hcell hm
      go_wp2_with (at_builtin; refine wp_cons wr x _ rds rfl _ _ rfl (w.heap.size + 1) rfl rfl (unveil hR).dg (by omega) (by have := (unveil hQ).lt; omega) ?_; intro v2 w2 hown2 hgrow2)
      have hb2 : Below wr.heap.size wr w2 := ((Below.refl wr.heap.size wr).alloc (Nat.le_refl _) _).grown hgrow2 (by simp) (fun k e => by injection e with e; omega)
      have Q2 := veil ((unveil hQ).later hb2)
      have D2 := veil (dg_of_own hown2 (digs_cons (unveil hR).dg.1 ba1 ba2) (by simp; omega))
      have F2 := veil (fresh_of_own hown2)
      clear hown2 hgrow2 hb2 acell
      refine (trim_any _ (x :: rds) w2 (unveil D2)).mono ?_
      rintro e w3 ⟨v3, rfl, rfl, ds3, d3, e3, n3, l3, f3⟩
      have R3 := veil (show RVal w w3 v3 ds3 from ⟨d3, n3, f3 _ (unveil F2)⟩)
      have bB := dval_bd b (unveil B1)
      have V3 : dval ds3 = x + 10 * dval rds := e3
      have T3 := veil (show dval ds3 < ten (b.length + 1) by rw [ten_succ, V3]; have := unveil hlt; omega)
      have C3 := veil (show x + 10 * dval rds = ((0 : Nat) : Int) * dval b + dval ds3 by rw [V3]; simp)
      have S0 : qs.set m ((0 : Nat) : Int) = qs := by
        have hmq : m < qs.length := by have := (unveil hQ).len; omega
        have e0 := unveil hz m (by omega)
        have e1 : qs.getD m 0 = qs[m] := by simp [hmq]
        have e2 : qs[m] = 0 := by rw [← e1]; exact e0
        refine List.ext_getElem (by simp) fun j h1 h2 => ?_
        rw [List.getElem_set]
        split
        · subst_vars; simp [e2]
        · rfl
      have Q3 := veil (show QRow w w3 N (qs.set m ((0 : Nat) : Int)) by rw [S0]; exact unveil Q2)
      clear d3 e3 n3 l3 f3 V3 S0 bB F2 D2 Q2
      go_wp2_with fail
      go_loopw [7] (fun r wq => ∃ (c : Nat) (ds : List Int), c ≤ 9 ∧ RVal w wq r ds ∧ QRow w wq N (qs.set m (c : Int)) ∧ dval ds < ten (b.length + 1) ∧ x + 10 * dval rds = (c : Int) * dval b + dval ds) (fun _ wq => 10 - cellN wq ⟨w.heap.size, m, none⟩)
      case atStart => exact ⟨0, ds3, by omega, unveil R3, unveil Q3, unveil T3, unveil C3⟩
      case round =>
        clear R3 Q3 T3 C3
        obtain ⟨c, ds, c9, r0, q0, t0, x0⟩ := hrel
        have hmq : m < (qs.set m (c : Int)).length := by have := (unveil hQ).len; simp; omega
        have qc : (qs.set m (c : Int)).getD m 0 = c := by simp at hmq; simp [hmq]
        have qcell := own_cell q0.own q0.len m (by omega)
        rw [qc] at qcell
        have MC := veil (cellN_of qcell)
        have R0 := veil r0
        have Q0 := veil q0
        have T0 := veil t0
        have X0 := veil x0
        have dl := norm_len r0.dg.1 r0.norm t0
        obtain ⟨_, _, dao, dcap, rfl, _⟩ := id r0.dg
        have AB := veil (above_any _ _ b ds wr ((unveil HB).later q0.bel) r0.dg (unveil NB) r0.norm)
        by_cases hcmp : dval b ≤ dval ds
        · have hlen : b.length ≤ ds.length := by
            refine Nat.le_of_not_lt fun hc => ?_
            have := norm_longer (unveil B1) (unveil NB) r0.dg.1 hc
            omega
          have c8 := over_nine (unveil HBP) (unveil hlt) ba2 x0 hcmp
          have NX := veil (show x + 10 * dval rds = ((c + 1 : Nat) : Int) * dval b + (dval ds - dval b) by
            rw [x0]; simp [Int.add_mul]; omega)
          have CMP := veil hcmp
          have AF := veil (show decide (dval ds < dval b) = false by simp; omega)
          clear r0 q0 t0 x0 qc qcell hmq hcmp
          go_wp2_with fail
          refine (unveil AB).mono ?_
          rintro e w4 ⟨rfl, n4, hw4⟩
          rw [unveil AF]
          have R4 := veil (show RVal w w4 (.slice dao ds.length dcap) ds by rw [hw4]; exact (unveil R0).draws n4)
          have Q4 := veil (show QRow w w4 N (qs.set m (c : Int)) by rw [hw4]; exact (unveil Q0).draws n4)
          clear hw4
          go_wp2_with fail
          refine (minus_any _ _ ds b w4 (unveil R4).dg ((unveil HB).later (unveil Q4).bel) (by omega) hlen (unveil CMP)).mono ?_
          rintro e w5 ⟨v5, rfl, hb5, ds5, d5, e5, n5, f5⟩
          have R5 := veil (show RVal w w5 v5 ds5 from ⟨d5, n5, f5.mono (by have := (unveil Q4).lt; omega)⟩)
          have Q5 := (unveil Q4).later hb5
          have qc5 : (qs.set m (c : Int)).getD m 0 = c := by
            have : m < qs.length := by have := (unveil hQ).len; omega
            simp [this]
          have cell5 := own_cell Q5.own Q5.len m (by omega)
          rw [qc5] at cell5
          have fro5 := Q5.own.frozenAt m
          have Q6 := veil (show QRow w (w5.setCell ⟨w.heap.size, m, none⟩ (.int .i64 ((c : Int) + 1))) N (qs.set m ((c + 1 : Nat) : Int)) by
            have := Q5.set m (d := (c : Int) + 1) (by omega) (by omega)
            rw [List.set_set] at this
            exact this)
          have R6 := veil ((unveil R5).set m (.int .i64 ((c : Int) + 1)))
          have E5 := veil e5
          have D5 := veil d5
          obtain ⟨_, _, ao5, cap5, rfl, _⟩ := id d5
          clear hb5 d5 e5 n5 f5 Q5 qc5
          go_wp2_with fail
          go_roundw
          case rel => exact ⟨c + 1, ds5, by omega, unveil R6, unveil Q6, by rw [unveil E5]; have := unveil T0; have := unveil HBP; omega, by rw [unveil E5]; exact unveil NX⟩
          case measure =>
            have m1 := unveil MC
            have m2 := cellN_of (World.cell?_setCell_same (w := w5) (a := ⟨w.heap.size, m, none⟩) (v := .int .i64 ((c : Int) + 1)) cell5)
            rw [m1, m2]; omega
        · have AT := veil (show decide (dval ds < dval b) = true by simp; omega)
          have NX := veil (over_digit (a := a) (q := qs) (by have := unveil HN; omega) (by have := (unveil hQ).len; omega) (unveil AX) (unveil hv) x0)
          have ZZ := veil (show ∀ j, j < m → (qs.set m (c : Int)).getD j 0 = 0 by
            intro j hj
            have := unveil hz j (by omega)
            simp only [List.getD_eq_getElem?_getD, List.getElem?_set] at *
            rw [if_neg (by omega)]; exact this)
          have CMP := veil hcmp
          clear r0 q0 t0 x0 qc qcell hmq hcmp
          go_wp2_with fail
          refine (unveil AB).mono ?_
          rintro e w4 ⟨rfl, n4, hw4⟩
          rw [unveil AT]
          have R4 := veil (show RVal w w4 (.slice dao ds.length dcap) ds by rw [hw4]; exact (unveil R0).draws n4)
          have Q4 := veil (show QRow w w4 N (qs.set m (c : Int)) by rw [hw4]; exact (unveil Q0).draws n4)
          clear hw4
          go_wp2_with fail
          go_roundw
          case rel => exact ⟨m, by omega, by go_num, ds, _, unveil R4, unveil Q4, by have := unveil CMP; omega, unveil ZZ, unveil NX⟩
          case measure => simp [intOf]

end Go.Proofs.Ytjlnbhmiahegmaa

namespace Go.Proofs.Ytjlnbhmiahegmaa
open Go.RowKit
set_option maxRecDepth 100000
set_option linter.unusedVariables false

/-- What the two boxes of Round hold. -/
structure BBox (w W : World) (va vb ra rb : Value) : Prop where
  size : w.heap.size + 1 < W.heap.size
  bel : Below w.heap.size w W
  a0 : W.cell? ⟨w.heap.size, 0, none⟩ = some ra
  a1 : W.cell? ⟨w.heap.size, 1, none⟩ = some va
  b0 : W.cell? ⟨w.heap.size + 1, 0, none⟩ = some rb
  b1 : W.cell? ⟨w.heap.size + 1, 1, none⟩ = some vb
theorem BBox.later {w W W' : World} {va vb ra rb : Value} (h : BBox w W va vb ra rb) (hb : Below W.heap.size W W') : BBox w W' va vb ra rb := by
  obtain ⟨s, bel, a0, a1, b0, b1⟩ := h
  have c : ∀ k j, k ≤ w.heap.size + 1 → W'.cell? ⟨k, j, none⟩ = W.cell? ⟨k, j, none⟩ := fun k j hk => (box_later hb (by omega)).1
  exact ⟨Nat.lt_of_lt_of_le s hb.size, bel.trans (hb.mono (by omega)), (c _ _ (by omega)).trans a0, (c _ _ (by omega)).trans a1, (c _ _ (by omega)).trans b0, (c _ _ (by omega)).trans b1⟩
theorem BBox.drewN {w W : World} {va vb ra rb : Value} (h : BBox w W va vb ra rb) (n : Nat) : BBox w (W.drewN n) va vb ra rb :=
  ⟨h.size, below_nq h.bel n, h.a0, h.a1, h.b0, h.b1⟩
theorem BBox.made (w : World) (na nb : Bool) (va vb : Value) : BBox w ((w.alloc (.cells #[.bool na, va] 98)).alloc (.cells #[.bool nb, vb] 98)) va vb (.bool na) (.bool nb) :=
  ⟨by simp, ((Below.refl _ _).alloc (Nat.le_refl _) _).alloc (by simp) _, by simp [go_sem], by simp [go_sem], by simp [go_sem], by simp [go_sem]⟩

/-- over, with Lean's own words for the quotient and the rest. -/
theorem over_div (va vb : Value) (a b : List Int) (w : World) (ha : Dg w va a) (hb : Dg w vb b) (nb : Norm b) (hB : 0 < dval b) (la : a.length ≤ 150) (lb : b.length ≤ 150) :
    Calls Try.prog 62 #[va, vb] w fun e w' => ∃ qo qc ro rc, ∃ qs rs : List Int, e = .returned (.tuple #[.slice qo qs.length qc, .slice ro rs.length rc]) ∧ Below w.heap.size w w' ∧ Dg w' (.slice qo qs.length qc) qs ∧ Norm qs ∧ Dg w' (.slice ro rs.length rc) rs ∧ Norm rs ∧ dval qs = dval a / dval b ∧ dval rs = dval a % dval b := by
  refine (over_any va vb a b w ha hb nb hB la lb).mono ?_
  rintro e w' ⟨q, r, rfl, hbel, qs, rs, dq, nq, dr, nr, hv, hlt⟩
  obtain ⟨_, _, qo, qc, rfl, _⟩ := id dq
  obtain ⟨_, _, ro, rc, rfl, _⟩ := id dr
  have h0 := (dval_bd rs dr.1).1
  have e1 : dval a / dval b = dval qs := by
    rw [hv, Int.add_comm, Int.mul_comm, Int.add_mul_ediv_left _ _ (by omega), Int.ediv_eq_zero_of_lt h0 hlt]; omega
  have e2 : dval a % dval b = dval rs := by
    rw [hv, Int.add_comm, Int.mul_comm, Int.add_mul_emod_self_left, Int.emod_eq_of_lt h0 hlt]
  exact ⟨qo, qc, ro, rc, qs, rs, rfl, hbel, dq, nq, dr, nr, e1.symm, e2.symm⟩

/-- The list of the one digit 1. -/
theorem dg_one (w : World) : Dg (w.alloc (.cells #[.int .i64 1] 3)) (.slice (some ⟨w.heap.size, 0, none⟩) 1 1) [1] := by
  refine ⟨digs_cons digs_nil (by omega) (by omega), by simp, some ⟨w.heap.size, 0, none⟩, 1, rfl, by simp, ⟨by decide, fun e => by cases e⟩, Or.inr ⟨w.heap.size, 0, rfl, by simp, fun i hi => ?_⟩⟩
  match i, hi with
  | 0, _ => simp
theorem dval_len (a : List Int) (h : Digs a) (hn : Norm a) (k : Nat) (hk : dval a < ten k) : a.length ≤ k := norm_len h hn hk
theorem dval_pos_len {rs : List Int} (h : Digs rs) (hn : Norm rs) (hp : 0 < dval rs) : 0 < rs.length := by
  refine Nat.pos_of_ne_zero fun hc => ?_
  have := (norm_zero h hn).2 hc
  omega
theorem dval_odd (qs : List Int) : dval qs % 2 = qs.getD 0 0 % 2 := by
  cases qs with
  | nil => simp [dval]
  | cons d qs => simp [dval]; omega
theorem quo_len {a b : List Int} (ha : Digs a) (hB : 0 < dval b) (la : a.length ≤ 150) : dval a / dval b < ten 150 := by
  have h1 := (dval_bd a ha)
  have h2 := ten_le la
  have h3 : dval a / dval b ≤ dval a := Int.ediv_le_self _ h1.1
  omega
theorem rem_len {a b : List Int} (hb : Digs b) (hB : 0 < dval b) (lb : b.length ≤ 150) : dval a % dval b < ten 150 := by
  have h1 := (dval_bd b hb).2
  have h2 := ten_le lb
  have h3 := Int.emod_lt_of_pos (dval a) hB
  omega

end Go.Proofs.Ytjlnbhmiahegmaa

namespace Go.Proofs.Ytjlnbhmiahegmaa
open Go.RowKit
set_option maxRecDepth 100000
set_option linter.unusedVariables false


/-- What Round says where 'aw' tells whether the quotient goes away from zero. -/
def RoundSays (na nb : Bool) (mode : Int) (aw : Bool) (oa ob : Option Addr) (ca cb : Nat) (a b : List Int) (w : World) : Prop :=
    Calls Try.prog 61 #[.agg #[.bool na, .slice oa a.length ca], .agg #[.bool nb, .slice ob b.length cb], .int .i64 mode] w fun e w' =>
      e = .returned (.tuple #[.int .i64 (fitV (sgn (na != nb) (dval a / dval b + if aw then 1 else 0))), .int .i64 (fitF (sgn (na != nb) (dval a / dval b + if aw then 1 else 0)))]) ∧ Below w.heap.size w w'
theorem bigR_round {w : World} {v : Value} {ds : List Int} {Q : Int} (neg : Bool) (hd : Dg w v ds) (hn : Norm ds) (hv : dval ds = Q) :
    BigR w (.agg #[.bool (neg && decide (0 < ds.length)), v]) (sgn neg Q) := by
  have h0 := (dval_bd ds hd.1).1
  refine bigR_sign hd hn ?_ ?_
  · rw [hv] at *; unfold sgn absI; split <;> split <;> omega
  · intro hz
    unfold sgn at *
    cases neg
    · simp at *; omega
    · simp at *; omega

set_option maxHeartbeats 1600000 in
theorem round_down_gt (na : Bool) (nb : Bool) (mode : Int) (h1 : ¬ mode = 1) (h2 : ¬ mode = 2) (h3 : ¬ mode = 3) (h4 : ¬ mode = 4) (oa ob : Option Addr) (ca cb : Nat) (a b : List Int) (w : World) (ha : Dg w (.slice oa a.length ca) a) (hb : Dg w (.slice ob b.length cb) b) (nrm : Norm b) (hB : 0 < dval b) (la : a.length ≤ 150) (lb : b.length ≤ 150) (hc : dval b < 2 * (dval a % dval b))  :
    RoundSays na nb mode false oa ob ca cb a b w := by
  have Ha := veil ha
  have Hb := veil hb
  have NB := veil nrm
  have HBP := veil hB
  have HC := veil hc
  have PM := BBox.made w na nb (.slice oa a.length ca) (.slice ob b.length cb)
  have f1 : (mode == 1) = false := by simp [h1]
  have f2 : (mode == 2) = false := by simp [h2]
  have f3 : (mode == 3) = false := by simp [h3]
  have f4 : (mode == 4) = false := by simp [h4]
  clear ha hb nrm hB hc
  unfold RoundSays
  go_enter Try.func61, Try.ntmps61
  go_wp2_with fail
  generalize ((w.alloc (.cells #[.bool na, .slice oa a.length ca] 98)).alloc (.cells #[.bool nb, .slice ob b.length cb] 98)) = W at *
  refine (over_div _ _ a b W ((unveil Ha).later PM.bel) ((unveil Hb).later PM.bel) (unveil NB) (unveil HBP) la lb).mono ?_
  rintro e w1 ⟨qo, qc, ro, rc, qs, rs, rfl, hb1, dq, nq, dr, nr, vq, vr⟩
  have P1 := PM.later hb1
  have P1' := veil P1
  obtain ⟨s1, bel1, a01, a11, b01, b11⟩ := P1
  have rl := dval_len rs dr.1 nr 150 (by rw [vr]; exact rem_len (unveil Hb).1 (unveil HBP) lb)
  have ql := dval_len qs dq.1 nq 150 (by rw [vq]; exact quo_len (unveil Ha).1 (unveil HBP) la)
  have DQ := veil dq
  have NQ := veil nq
  have DR := veil dr
  have NR := veil nr
  have VQ := veil vq
  have VR := veil vr
  clear hb1 dq nq dr nr vq vr PM
  go_wp2_with fail
  refine (plus_any _ _ rs rs w1 (unveil DR) (unveil DR) 150 rl rl (by omega)).mono ?_
  rintro e w2 ⟨v2, rfl, hb2, two, d2, v2e, n2, f2⟩
  have P2 := (unveil P1').later hb2
  have P2' := veil P2
  obtain ⟨s2, bel2, a02, a12, b02, b12⟩ := P2
  have D2 := veil d2
  have N2 := veil n2
  have DQ2 := veil ((unveil DQ).later hb2)
  have CMP1 := veil (show decide (dval b < dval two) = true by rw [v2e, unveil VR]; have := unveil HC; simp; omega)
  have CMP2 := veil (show decide (dval two < dval b) = false by rw [v2e, unveil VR]; have := unveil HC; simp; omega)
  clear hb2 d2 v2e n2 f2
  go_wp2_with fail
  refine (above_any _ _ two b w2 (unveil D2) ((unveil Hb).later (unveil P2').bel) (unveil N2) (unveil NB)).mono ?_
  rintro e w3 ⟨rfl, m3, hw3⟩
  rw [unveil CMP1]
  have P3 : BBox w w3 (.slice oa a.length ca) (.slice ob b.length cb) (.bool na) (.bool nb) := by rw [hw3]; exact (unveil P2').drewN m3
  have P3' := veil P3
  obtain ⟨s3, bel3, a03, a13, b03, b13⟩ := P3
  have D3 := veil (show Dg w3 v2 two by rw [hw3]; exact unveil D2)
  have DQ3 := veil (show Dg w3 (.slice qo qs.length qc) qs by rw [hw3]; exact unveil DQ2)
  clear hw3
  go_wp2_with fail
  have bl3 := (unveil P3').bel
  refine (sign_any _ _ qs w3 (unveil DQ3)).mono ?_
  rintro e w4 ⟨rfl, hbs⟩
  have bl4 : Below w.heap.size w w4 := bl3.trans (hbs.mono bl3.size)
  have BS := veil (bigR_round (na != nb) ((unveil DQ3).later hbs) (unveil NQ) (unveil VQ))
  clear hbs
  go_wp2_with fail
  refine (out_any _ _ w4 (unveil BS)).mono ?_
  rintro e w5 ⟨rfl, hbo⟩
  have bl5 : Below w.heap.size w w5 := bl4.trans (hbo.mono bl4.size)
  clear hbo
  go_wp2_with fail
  go_ret2
  exact ⟨rfl, bl5⟩

set_option maxHeartbeats 1600000 in
theorem round_down_eq (na : Bool) (nb : Bool) (mode : Int) (h1 : ¬ mode = 1) (h2 : ¬ mode = 2) (h3 : ¬ mode = 3) (h4 : ¬ mode = 4) (oa ob : Option Addr) (ca cb : Nat) (a b : List Int) (w : World) (ha : Dg w (.slice oa a.length ca) a) (hb : Dg w (.slice ob b.length cb) b) (nrm : Norm b) (hB : 0 < dval b) (la : a.length ≤ 150) (lb : b.length ≤ 150) (hc : 2 * (dval a % dval b) = dval b)  :
    RoundSays na nb mode false oa ob ca cb a b w := by
  have Ha := veil ha
  have Hb := veil hb
  have NB := veil nrm
  have HBP := veil hB
  have HC := veil hc
  have PM := BBox.made w na nb (.slice oa a.length ca) (.slice ob b.length cb)
  have f1 : (mode == 1) = false := by simp [h1]
  have f2 : (mode == 2) = false := by simp [h2]
  have f3 : (mode == 3) = false := by simp [h3]
  have f4 : (mode == 4) = false := by simp [h4]
  clear ha hb nrm hB hc
  unfold RoundSays
  go_enter Try.func61, Try.ntmps61
  go_wp2_with fail
  generalize ((w.alloc (.cells #[.bool na, .slice oa a.length ca] 98)).alloc (.cells #[.bool nb, .slice ob b.length cb] 98)) = W at *
  refine (over_div _ _ a b W ((unveil Ha).later PM.bel) ((unveil Hb).later PM.bel) (unveil NB) (unveil HBP) la lb).mono ?_
  rintro e w1 ⟨qo, qc, ro, rc, qs, rs, rfl, hb1, dq, nq, dr, nr, vq, vr⟩
  have P1 := PM.later hb1
  have P1' := veil P1
  obtain ⟨s1, bel1, a01, a11, b01, b11⟩ := P1
  have rl := dval_len rs dr.1 nr 150 (by rw [vr]; exact rem_len (unveil Hb).1 (unveil HBP) lb)
  have ql := dval_len qs dq.1 nq 150 (by rw [vq]; exact quo_len (unveil Ha).1 (unveil HBP) la)
  have DQ := veil dq
  have NQ := veil nq
  have DR := veil dr
  have NR := veil nr
  have VQ := veil vq
  have VR := veil vr
  clear hb1 dq nq dr nr vq vr PM
  go_wp2_with fail
  refine (plus_any _ _ rs rs w1 (unveil DR) (unveil DR) 150 rl rl (by omega)).mono ?_
  rintro e w2 ⟨v2, rfl, hb2, two, d2, v2e, n2, f2⟩
  have P2 := (unveil P1').later hb2
  have P2' := veil P2
  obtain ⟨s2, bel2, a02, a12, b02, b12⟩ := P2
  have D2 := veil d2
  have N2 := veil n2
  have DQ2 := veil ((unveil DQ).later hb2)
  have CMP1 := veil (show decide (dval b < dval two) = false by rw [v2e, unveil VR]; have := unveil HC; simp; omega)
  have CMP2 := veil (show decide (dval two < dval b) = false by rw [v2e, unveil VR]; have := unveil HC; simp; omega)
  clear hb2 d2 v2e n2 f2
  go_wp2_with fail
  refine (above_any _ _ two b w2 (unveil D2) ((unveil Hb).later (unveil P2').bel) (unveil N2) (unveil NB)).mono ?_
  rintro e w3 ⟨rfl, m3, hw3⟩
  rw [unveil CMP1]
  have P3 : BBox w w3 (.slice oa a.length ca) (.slice ob b.length cb) (.bool na) (.bool nb) := by rw [hw3]; exact (unveil P2').drewN m3
  have P3' := veil P3
  obtain ⟨s3, bel3, a03, a13, b03, b13⟩ := P3
  have D3 := veil (show Dg w3 v2 two by rw [hw3]; exact unveil D2)
  have DQ3 := veil (show Dg w3 (.slice qo qs.length qc) qs by rw [hw3]; exact unveil DQ2)
  clear hw3
  go_wp2_with fail
  refine (above_any _ _ b two w3 ((unveil Hb).later (unveil P3').bel) (unveil D3) (unveil NB) (unveil N2)).mono ?_
  rintro e w4 ⟨rfl, m4, hw4⟩
  rw [unveil CMP2]
  have P4 : BBox w w4 (.slice oa a.length ca) (.slice ob b.length cb) (.bool na) (.bool nb) := by rw [hw4]; exact (unveil P3').drewN m4
  have P4' := veil P4
  obtain ⟨s4, bel4, a04, a14, b04, b14⟩ := P4
  have D4 := veil (show Dg w4 v2 two by rw [hw4]; exact unveil D3)
  have DQ4 := veil (show Dg w4 (.slice qo qs.length qc) qs by rw [hw4]; exact unveil DQ3)
  clear hw4
  go_wp2_with fail
  have bl4 := (unveil P4').bel
  refine (sign_any _ _ qs w4 (unveil DQ4)).mono ?_
  rintro e w5 ⟨rfl, hbs⟩
  have bl5 : Below w.heap.size w w5 := bl4.trans (hbs.mono bl4.size)
  have BS := veil (bigR_round (na != nb) ((unveil DQ4).later hbs) (unveil NQ) (unveil VQ))
  clear hbs
  go_wp2_with fail
  refine (out_any _ _ w5 (unveil BS)).mono ?_
  rintro e w6 ⟨rfl, hbo⟩
  have bl6 : Below w.heap.size w w6 := bl5.trans (hbo.mono bl5.size)
  clear hbo
  go_wp2_with fail
  go_ret2
  exact ⟨rfl, bl6⟩

set_option maxHeartbeats 1600000 in
theorem round_down_lt (na : Bool) (nb : Bool) (mode : Int) (h1 : ¬ mode = 1) (h2 : ¬ mode = 2) (h3 : ¬ mode = 3) (h4 : ¬ mode = 4) (oa ob : Option Addr) (ca cb : Nat) (a b : List Int) (w : World) (ha : Dg w (.slice oa a.length ca) a) (hb : Dg w (.slice ob b.length cb) b) (nrm : Norm b) (hB : 0 < dval b) (la : a.length ≤ 150) (lb : b.length ≤ 150) (hc : 2 * (dval a % dval b) < dval b)  :
    RoundSays na nb mode false oa ob ca cb a b w := by
  have Ha := veil ha
  have Hb := veil hb
  have NB := veil nrm
  have HBP := veil hB
  have HC := veil hc
  have PM := BBox.made w na nb (.slice oa a.length ca) (.slice ob b.length cb)
  have f1 : (mode == 1) = false := by simp [h1]
  have f2 : (mode == 2) = false := by simp [h2]
  have f3 : (mode == 3) = false := by simp [h3]
  have f4 : (mode == 4) = false := by simp [h4]
  clear ha hb nrm hB hc
  unfold RoundSays
  go_enter Try.func61, Try.ntmps61
  go_wp2_with fail
  generalize ((w.alloc (.cells #[.bool na, .slice oa a.length ca] 98)).alloc (.cells #[.bool nb, .slice ob b.length cb] 98)) = W at *
  refine (over_div _ _ a b W ((unveil Ha).later PM.bel) ((unveil Hb).later PM.bel) (unveil NB) (unveil HBP) la lb).mono ?_
  rintro e w1 ⟨qo, qc, ro, rc, qs, rs, rfl, hb1, dq, nq, dr, nr, vq, vr⟩
  have P1 := PM.later hb1
  have P1' := veil P1
  obtain ⟨s1, bel1, a01, a11, b01, b11⟩ := P1
  have rl := dval_len rs dr.1 nr 150 (by rw [vr]; exact rem_len (unveil Hb).1 (unveil HBP) lb)
  have ql := dval_len qs dq.1 nq 150 (by rw [vq]; exact quo_len (unveil Ha).1 (unveil HBP) la)
  have DQ := veil dq
  have NQ := veil nq
  have DR := veil dr
  have NR := veil nr
  have VQ := veil vq
  have VR := veil vr
  clear hb1 dq nq dr nr vq vr PM
  go_wp2_with fail
  refine (plus_any _ _ rs rs w1 (unveil DR) (unveil DR) 150 rl rl (by omega)).mono ?_
  rintro e w2 ⟨v2, rfl, hb2, two, d2, v2e, n2, f2⟩
  have P2 := (unveil P1').later hb2
  have P2' := veil P2
  obtain ⟨s2, bel2, a02, a12, b02, b12⟩ := P2
  have D2 := veil d2
  have N2 := veil n2
  have DQ2 := veil ((unveil DQ).later hb2)
  have CMP1 := veil (show decide (dval b < dval two) = false by rw [v2e, unveil VR]; have := unveil HC; simp; omega)
  have CMP2 := veil (show decide (dval two < dval b) = true by rw [v2e, unveil VR]; have := unveil HC; simp; omega)
  clear hb2 d2 v2e n2 f2
  go_wp2_with fail
  refine (above_any _ _ two b w2 (unveil D2) ((unveil Hb).later (unveil P2').bel) (unveil N2) (unveil NB)).mono ?_
  rintro e w3 ⟨rfl, m3, hw3⟩
  rw [unveil CMP1]
  have P3 : BBox w w3 (.slice oa a.length ca) (.slice ob b.length cb) (.bool na) (.bool nb) := by rw [hw3]; exact (unveil P2').drewN m3
  have P3' := veil P3
  obtain ⟨s3, bel3, a03, a13, b03, b13⟩ := P3
  have D3 := veil (show Dg w3 v2 two by rw [hw3]; exact unveil D2)
  have DQ3 := veil (show Dg w3 (.slice qo qs.length qc) qs by rw [hw3]; exact unveil DQ2)
  clear hw3
  go_wp2_with fail
  refine (above_any _ _ b two w3 ((unveil Hb).later (unveil P3').bel) (unveil D3) (unveil NB) (unveil N2)).mono ?_
  rintro e w4 ⟨rfl, m4, hw4⟩
  rw [unveil CMP2]
  have P4 : BBox w w4 (.slice oa a.length ca) (.slice ob b.length cb) (.bool na) (.bool nb) := by rw [hw4]; exact (unveil P3').drewN m4
  have P4' := veil P4
  obtain ⟨s4, bel4, a04, a14, b04, b14⟩ := P4
  have D4 := veil (show Dg w4 v2 two by rw [hw4]; exact unveil D3)
  have DQ4 := veil (show Dg w4 (.slice qo qs.length qc) qs by rw [hw4]; exact unveil DQ3)
  clear hw4
  go_wp2_with fail
  have bl4 := (unveil P4').bel
  refine (sign_any _ _ qs w4 (unveil DQ4)).mono ?_
  rintro e w5 ⟨rfl, hbs⟩
  have bl5 : Below w.heap.size w w5 := bl4.trans (hbs.mono bl4.size)
  have BS := veil (bigR_round (na != nb) ((unveil DQ4).later hbs) (unveil NQ) (unveil VQ))
  clear hbs
  go_wp2_with fail
  refine (out_any _ _ w5 (unveil BS)).mono ?_
  rintro e w6 ⟨rfl, hbo⟩
  have bl6 : Below w.heap.size w w6 := bl5.trans (hbo.mono bl5.size)
  clear hbo
  go_wp2_with fail
  go_ret2
  exact ⟨rfl, bl6⟩

end Go.Proofs.Ytjlnbhmiahegmaa

namespace Go.Proofs.Ytjlnbhmiahegmaa
open Go.RowKit
set_option maxRecDepth 100000
set_option linter.unusedVariables false

set_option maxHeartbeats 1600000 in
theorem round_floor_no_gt (na : Bool) (oa ob : Option Addr) (ca cb : Nat) (a b : List Int) (w : World) (ha : Dg w (.slice oa a.length ca) a) (hb : Dg w (.slice ob b.length cb) b) (nrm : Norm b) (hB : 0 < dval b) (la : a.length ≤ 150) (lb : b.length ≤ 150) (hc : dval b < 2 * (dval a % dval b))  :
    RoundSays na na 1 false oa ob ca cb a b w := by
  have Ha := veil ha
  have Hb := veil hb
  have NB := veil nrm
  have HBP := veil hB
  have HC := veil hc
  have PM := BBox.made w na na (.slice oa a.length ca) (.slice ob b.length cb)
  clear ha hb nrm hB hc
  unfold RoundSays
  rw [show (na != na) = false by cases na <;> rfl]
  go_enter Try.func61, Try.ntmps61
  go_wp2_with fail
  generalize ((w.alloc (.cells #[.bool na, .slice oa a.length ca] 98)).alloc (.cells #[.bool na, .slice ob b.length cb] 98)) = W at *
  refine (over_div _ _ a b W ((unveil Ha).later PM.bel) ((unveil Hb).later PM.bel) (unveil NB) (unveil HBP) la lb).mono ?_
  rintro e w1 ⟨qo, qc, ro, rc, qs, rs, rfl, hb1, dq, nq, dr, nr, vq, vr⟩
  have P1 := PM.later hb1
  have P1' := veil P1
  obtain ⟨s1, bel1, a01, a11, b01, b11⟩ := P1
  have rl := dval_len rs dr.1 nr 150 (by rw [vr]; exact rem_len (unveil Hb).1 (unveil HBP) lb)
  have ql := dval_len qs dq.1 nq 150 (by rw [vq]; exact quo_len (unveil Ha).1 (unveil HBP) la)
  have DQ := veil dq
  have NQ := veil nq
  have DR := veil dr
  have NR := veil nr
  have VQ := veil vq
  have VR := veil vr
  clear hb1 dq nq dr nr vq vr PM
  go_wp2_with fail
  refine (plus_any _ _ rs rs w1 (unveil DR) (unveil DR) 150 rl rl (by omega)).mono ?_
  rintro e w2 ⟨v2, rfl, hb2, two, d2, v2e, n2, f2⟩
  have P2 := (unveil P1').later hb2
  have P2' := veil P2
  obtain ⟨s2, bel2, a02, a12, b02, b12⟩ := P2
  have D2 := veil d2
  have N2 := veil n2
  have DQ2 := veil ((unveil DQ).later hb2)
  have CMP1 := veil (show decide (dval b < dval two) = true by rw [v2e, unveil VR]; have := unveil HC; simp; omega)
  have CMP2 := veil (show decide (dval two < dval b) = false by rw [v2e, unveil VR]; have := unveil HC; simp; omega)
  clear hb2 d2 v2e n2 f2
  go_wp2_with fail
  refine (above_any _ _ two b w2 (unveil D2) ((unveil Hb).later (unveil P2').bel) (unveil N2) (unveil NB)).mono ?_
  rintro e w3 ⟨rfl, m3, hw3⟩
  rw [unveil CMP1]
  have P3 : BBox w w3 (.slice oa a.length ca) (.slice ob b.length cb) (.bool na) (.bool na) := by rw [hw3]; exact (unveil P2').drewN m3
  have P3' := veil P3
  obtain ⟨s3, bel3, a03, a13, b03, b13⟩ := P3
  have D3 := veil (show Dg w3 v2 two by rw [hw3]; exact unveil D2)
  have DQ3 := veil (show Dg w3 (.slice qo qs.length qc) qs by rw [hw3]; exact unveil DQ2)
  clear hw3
  go_wp2_with fail
  have bl3 := (unveil P3').bel
  refine (sign_any _ _ qs w3 (unveil DQ3)).mono ?_
  rintro e w4 ⟨rfl, hbs⟩
  have bl4 : Below w.heap.size w w4 := bl3.trans (hbs.mono bl3.size)
  have BS := veil (show BigR w4 (.agg #[.bool false, _]) _ from bigR_round false ((unveil DQ3).later hbs) (unveil NQ) (unveil VQ))
  clear hbs
  go_wp2_with fail
  refine (out_any _ _ w4 (unveil BS)).mono ?_
  rintro e w5 ⟨rfl, hbo⟩
  have bl5 : Below w.heap.size w w5 := bl4.trans (hbo.mono bl4.size)
  clear hbo
  go_wp2_with fail
  go_ret2
  exact ⟨rfl, bl5⟩

set_option maxHeartbeats 1600000 in
theorem round_floor_yes_gt (na : Bool) (oa ob : Option Addr) (ca cb : Nat) (a b : List Int) (w : World) (ha : Dg w (.slice oa a.length ca) a) (hb : Dg w (.slice ob b.length cb) b) (nrm : Norm b) (hB : 0 < dval b) (la : a.length ≤ 150) (lb : b.length ≤ 150) (hc : dval b < 2 * (dval a % dval b)) (hr : 0 < dval a % dval b) :
    RoundSays na (!na) 1 true oa ob ca cb a b w := by
  have Ha := veil ha
  have Hb := veil hb
  have NB := veil nrm
  have HBP := veil hB
  have HC := veil hc
  have PM := BBox.made w na (!na) (.slice oa a.length ca) (.slice ob b.length cb)
  clear ha hb nrm hB hc
  unfold RoundSays
  rw [show (na != (!na)) = true by cases na <;> rfl]
  go_enter Try.func61, Try.ntmps61
  go_wp2_with fail
  generalize ((w.alloc (.cells #[.bool na, .slice oa a.length ca] 98)).alloc (.cells #[.bool (!na), .slice ob b.length cb] 98)) = W at *
  refine (over_div _ _ a b W ((unveil Ha).later PM.bel) ((unveil Hb).later PM.bel) (unveil NB) (unveil HBP) la lb).mono ?_
  rintro e w1 ⟨qo, qc, ro, rc, qs, rs, rfl, hb1, dq, nq, dr, nr, vq, vr⟩
  have P1 := PM.later hb1
  have P1' := veil P1
  obtain ⟨s1, bel1, a01, a11, b01, b11⟩ := P1
  have rl := dval_len rs dr.1 nr 150 (by rw [vr]; exact rem_len (unveil Hb).1 (unveil HBP) lb)
  have ql := dval_len qs dq.1 nq 150 (by rw [vq]; exact quo_len (unveil Ha).1 (unveil HBP) la)
  have DQ := veil dq
  have NQ := veil nq
  have DR := veil dr
  have NR := veil nr
  have VQ := veil vq
  have VR := veil vr
  have rp : 0 < rs.length := dval_pos_len dr.1 nr (by rw [vr]; exact hr)
  have rp' : (0 : Int) < (rs.length : Int) := by omega
  clear hb1 dq nq dr nr vq vr PM
  go_wp2_with fail
  refine (plus_any _ _ rs rs w1 (unveil DR) (unveil DR) 150 rl rl (by omega)).mono ?_
  rintro e w2 ⟨v2, rfl, hb2, two, d2, v2e, n2, f2⟩
  have P2 := (unveil P1').later hb2
  have P2' := veil P2
  obtain ⟨s2, bel2, a02, a12, b02, b12⟩ := P2
  have D2 := veil d2
  have N2 := veil n2
  have DQ2 := veil ((unveil DQ).later hb2)
  have CMP1 := veil (show decide (dval b < dval two) = true by rw [v2e, unveil VR]; have := unveil HC; simp; omega)
  have CMP2 := veil (show decide (dval two < dval b) = false by rw [v2e, unveil VR]; have := unveil HC; simp; omega)
  clear hb2 d2 v2e n2 f2
  go_wp2_with fail
  refine (above_any _ _ two b w2 (unveil D2) ((unveil Hb).later (unveil P2').bel) (unveil N2) (unveil NB)).mono ?_
  rintro e w3 ⟨rfl, m3, hw3⟩
  rw [unveil CMP1]
  have P3 : BBox w w3 (.slice oa a.length ca) (.slice ob b.length cb) (.bool na) (.bool (!na)) := by rw [hw3]; exact (unveil P2').drewN m3
  have P3' := veil P3
  obtain ⟨s3, bel3, a03, a13, b03, b13⟩ := P3
  have D3 := veil (show Dg w3 v2 two by rw [hw3]; exact unveil D2)
  have DQ3 := veil (show Dg w3 (.slice qo qs.length qc) qs by rw [hw3]; exact unveil DQ2)
  clear hw3
  go_wp2_with fail
  have bl3 := (unveil P3').bel
  refine (plus_any _ _ qs [1] _ ((unveil DQ3).later ((Below.refl _ _).alloc (Nat.le_refl _) _)) (dg_one w3) 150 ql (by simp) (by omega)).mono ?_
  rintro e w4 ⟨v9, rfl, hb9, q9, d9, v9e, n9, f9⟩
  have bl4 : Below w.heap.size w w4 := (bl3.alloc (by have := s3; omega) _).trans (hb9.mono (by have := s3; simp; omega))
  obtain ⟨_, _, o9, c9, rfl, _⟩ := id d9
  have D9 := veil d9
  have V9 := veil (show dval q9 = dval a / dval b + 1 by rw [v9e, unveil VQ]; rfl)
  have N9 := veil n9
  clear hb9 d9 v9e n9 f9
  go_wp2_with fail
  refine (sign_any _ _ q9 w4 (unveil D9)).mono ?_
  rintro e w5 ⟨rfl, hbs⟩
  have bl5 : Below w.heap.size w w5 := bl4.trans (hbs.mono bl4.size)
  have BS := veil (show BigR w5 (.agg #[.bool (decide (0 < q9.length)), _]) _ from bigR_round true ((unveil D9).later hbs) (unveil N9) (unveil V9))
  clear hbs
  go_wp2_with fail
  refine (out_any _ _ w5 (unveil BS)).mono ?_
  rintro e w6 ⟨rfl, hbo⟩
  have bl6 : Below w.heap.size w w6 := bl5.trans (hbo.mono bl5.size)
  clear hbo
  go_wp2_with fail
  go_ret2
  exact ⟨rfl, bl6⟩

set_option maxHeartbeats 1600000 in
theorem round_floor_no_eq (na : Bool) (oa ob : Option Addr) (ca cb : Nat) (a b : List Int) (w : World) (ha : Dg w (.slice oa a.length ca) a) (hb : Dg w (.slice ob b.length cb) b) (nrm : Norm b) (hB : 0 < dval b) (la : a.length ≤ 150) (lb : b.length ≤ 150) (hc : 2 * (dval a % dval b) = dval b)  :
    RoundSays na na 1 false oa ob ca cb a b w := by
  have Ha := veil ha
  have Hb := veil hb
  have NB := veil nrm
  have HBP := veil hB
  have HC := veil hc
  have PM := BBox.made w na na (.slice oa a.length ca) (.slice ob b.length cb)
  clear ha hb nrm hB hc
  unfold RoundSays
  rw [show (na != na) = false by cases na <;> rfl]
  go_enter Try.func61, Try.ntmps61
  go_wp2_with fail
  generalize ((w.alloc (.cells #[.bool na, .slice oa a.length ca] 98)).alloc (.cells #[.bool na, .slice ob b.length cb] 98)) = W at *
  refine (over_div _ _ a b W ((unveil Ha).later PM.bel) ((unveil Hb).later PM.bel) (unveil NB) (unveil HBP) la lb).mono ?_
  rintro e w1 ⟨qo, qc, ro, rc, qs, rs, rfl, hb1, dq, nq, dr, nr, vq, vr⟩
  have P1 := PM.later hb1
  have P1' := veil P1
  obtain ⟨s1, bel1, a01, a11, b01, b11⟩ := P1
  have rl := dval_len rs dr.1 nr 150 (by rw [vr]; exact rem_len (unveil Hb).1 (unveil HBP) lb)
  have ql := dval_len qs dq.1 nq 150 (by rw [vq]; exact quo_len (unveil Ha).1 (unveil HBP) la)
  have DQ := veil dq
  have NQ := veil nq
  have DR := veil dr
  have NR := veil nr
  have VQ := veil vq
  have VR := veil vr
  clear hb1 dq nq dr nr vq vr PM
  go_wp2_with fail
  refine (plus_any _ _ rs rs w1 (unveil DR) (unveil DR) 150 rl rl (by omega)).mono ?_
  rintro e w2 ⟨v2, rfl, hb2, two, d2, v2e, n2, f2⟩
  have P2 := (unveil P1').later hb2
  have P2' := veil P2
  obtain ⟨s2, bel2, a02, a12, b02, b12⟩ := P2
  have D2 := veil d2
  have N2 := veil n2
  have DQ2 := veil ((unveil DQ).later hb2)
  have CMP1 := veil (show decide (dval b < dval two) = false by rw [v2e, unveil VR]; have := unveil HC; simp; omega)
  have CMP2 := veil (show decide (dval two < dval b) = false by rw [v2e, unveil VR]; have := unveil HC; simp; omega)
  clear hb2 d2 v2e n2 f2
  go_wp2_with fail
  refine (above_any _ _ two b w2 (unveil D2) ((unveil Hb).later (unveil P2').bel) (unveil N2) (unveil NB)).mono ?_
  rintro e w3 ⟨rfl, m3, hw3⟩
  rw [unveil CMP1]
  have P3 : BBox w w3 (.slice oa a.length ca) (.slice ob b.length cb) (.bool na) (.bool na) := by rw [hw3]; exact (unveil P2').drewN m3
  have P3' := veil P3
  obtain ⟨s3, bel3, a03, a13, b03, b13⟩ := P3
  have D3 := veil (show Dg w3 v2 two by rw [hw3]; exact unveil D2)
  have DQ3 := veil (show Dg w3 (.slice qo qs.length qc) qs by rw [hw3]; exact unveil DQ2)
  clear hw3
  go_wp2_with fail
  refine (above_any _ _ b two w3 ((unveil Hb).later (unveil P3').bel) (unveil D3) (unveil NB) (unveil N2)).mono ?_
  rintro e w4 ⟨rfl, m4, hw4⟩
  rw [unveil CMP2]
  have P4 : BBox w w4 (.slice oa a.length ca) (.slice ob b.length cb) (.bool na) (.bool na) := by rw [hw4]; exact (unveil P3').drewN m4
  have P4' := veil P4
  obtain ⟨s4, bel4, a04, a14, b04, b14⟩ := P4
  have D4 := veil (show Dg w4 v2 two by rw [hw4]; exact unveil D3)
  have DQ4 := veil (show Dg w4 (.slice qo qs.length qc) qs by rw [hw4]; exact unveil DQ3)
  clear hw4
  go_wp2_with fail
  have bl4 := (unveil P4').bel
  refine (sign_any _ _ qs w4 (unveil DQ4)).mono ?_
  rintro e w5 ⟨rfl, hbs⟩
  have bl5 : Below w.heap.size w w5 := bl4.trans (hbs.mono bl4.size)
  have BS := veil (show BigR w5 (.agg #[.bool false, _]) _ from bigR_round false ((unveil DQ4).later hbs) (unveil NQ) (unveil VQ))
  clear hbs
  go_wp2_with fail
  refine (out_any _ _ w5 (unveil BS)).mono ?_
  rintro e w6 ⟨rfl, hbo⟩
  have bl6 : Below w.heap.size w w6 := bl5.trans (hbo.mono bl5.size)
  clear hbo
  go_wp2_with fail
  go_ret2
  exact ⟨rfl, bl6⟩

set_option maxHeartbeats 1600000 in
theorem round_floor_yes_eq (na : Bool) (oa ob : Option Addr) (ca cb : Nat) (a b : List Int) (w : World) (ha : Dg w (.slice oa a.length ca) a) (hb : Dg w (.slice ob b.length cb) b) (nrm : Norm b) (hB : 0 < dval b) (la : a.length ≤ 150) (lb : b.length ≤ 150) (hc : 2 * (dval a % dval b) = dval b) (hr : 0 < dval a % dval b) :
    RoundSays na (!na) 1 true oa ob ca cb a b w := by
  have Ha := veil ha
  have Hb := veil hb
  have NB := veil nrm
  have HBP := veil hB
  have HC := veil hc
  have PM := BBox.made w na (!na) (.slice oa a.length ca) (.slice ob b.length cb)
  clear ha hb nrm hB hc
  unfold RoundSays
  rw [show (na != (!na)) = true by cases na <;> rfl]
  go_enter Try.func61, Try.ntmps61
  go_wp2_with fail
  generalize ((w.alloc (.cells #[.bool na, .slice oa a.length ca] 98)).alloc (.cells #[.bool (!na), .slice ob b.length cb] 98)) = W at *
  refine (over_div _ _ a b W ((unveil Ha).later PM.bel) ((unveil Hb).later PM.bel) (unveil NB) (unveil HBP) la lb).mono ?_
  rintro e w1 ⟨qo, qc, ro, rc, qs, rs, rfl, hb1, dq, nq, dr, nr, vq, vr⟩
  have P1 := PM.later hb1
  have P1' := veil P1
  obtain ⟨s1, bel1, a01, a11, b01, b11⟩ := P1
  have rl := dval_len rs dr.1 nr 150 (by rw [vr]; exact rem_len (unveil Hb).1 (unveil HBP) lb)
  have ql := dval_len qs dq.1 nq 150 (by rw [vq]; exact quo_len (unveil Ha).1 (unveil HBP) la)
  have DQ := veil dq
  have NQ := veil nq
  have DR := veil dr
  have NR := veil nr
  have VQ := veil vq
  have VR := veil vr
  have rp : 0 < rs.length := dval_pos_len dr.1 nr (by rw [vr]; exact hr)
  have rp' : (0 : Int) < (rs.length : Int) := by omega
  clear hb1 dq nq dr nr vq vr PM
  go_wp2_with fail
  refine (plus_any _ _ rs rs w1 (unveil DR) (unveil DR) 150 rl rl (by omega)).mono ?_
  rintro e w2 ⟨v2, rfl, hb2, two, d2, v2e, n2, f2⟩
  have P2 := (unveil P1').later hb2
  have P2' := veil P2
  obtain ⟨s2, bel2, a02, a12, b02, b12⟩ := P2
  have D2 := veil d2
  have N2 := veil n2
  have DQ2 := veil ((unveil DQ).later hb2)
  have CMP1 := veil (show decide (dval b < dval two) = false by rw [v2e, unveil VR]; have := unveil HC; simp; omega)
  have CMP2 := veil (show decide (dval two < dval b) = false by rw [v2e, unveil VR]; have := unveil HC; simp; omega)
  clear hb2 d2 v2e n2 f2
  go_wp2_with fail
  refine (above_any _ _ two b w2 (unveil D2) ((unveil Hb).later (unveil P2').bel) (unveil N2) (unveil NB)).mono ?_
  rintro e w3 ⟨rfl, m3, hw3⟩
  rw [unveil CMP1]
  have P3 : BBox w w3 (.slice oa a.length ca) (.slice ob b.length cb) (.bool na) (.bool (!na)) := by rw [hw3]; exact (unveil P2').drewN m3
  have P3' := veil P3
  obtain ⟨s3, bel3, a03, a13, b03, b13⟩ := P3
  have D3 := veil (show Dg w3 v2 two by rw [hw3]; exact unveil D2)
  have DQ3 := veil (show Dg w3 (.slice qo qs.length qc) qs by rw [hw3]; exact unveil DQ2)
  clear hw3
  go_wp2_with fail
  refine (above_any _ _ b two w3 ((unveil Hb).later (unveil P3').bel) (unveil D3) (unveil NB) (unveil N2)).mono ?_
  rintro e w4 ⟨rfl, m4, hw4⟩
  rw [unveil CMP2]
  have P4 : BBox w w4 (.slice oa a.length ca) (.slice ob b.length cb) (.bool na) (.bool (!na)) := by rw [hw4]; exact (unveil P3').drewN m4
  have P4' := veil P4
  obtain ⟨s4, bel4, a04, a14, b04, b14⟩ := P4
  have D4 := veil (show Dg w4 v2 two by rw [hw4]; exact unveil D3)
  have DQ4 := veil (show Dg w4 (.slice qo qs.length qc) qs by rw [hw4]; exact unveil DQ3)
  clear hw4
  go_wp2_with fail
  have bl4 := (unveil P4').bel
  refine (plus_any _ _ qs [1] _ ((unveil DQ4).later ((Below.refl _ _).alloc (Nat.le_refl _) _)) (dg_one w4) 150 ql (by simp) (by omega)).mono ?_
  rintro e w5 ⟨v9, rfl, hb9, q9, d9, v9e, n9, f9⟩
  have bl5 : Below w.heap.size w w5 := (bl4.alloc (by have := s4; omega) _).trans (hb9.mono (by have := s4; simp; omega))
  obtain ⟨_, _, o9, c9, rfl, _⟩ := id d9
  have D9 := veil d9
  have V9 := veil (show dval q9 = dval a / dval b + 1 by rw [v9e, unveil VQ]; rfl)
  have N9 := veil n9
  clear hb9 d9 v9e n9 f9
  go_wp2_with fail
  refine (sign_any _ _ q9 w5 (unveil D9)).mono ?_
  rintro e w6 ⟨rfl, hbs⟩
  have bl6 : Below w.heap.size w w6 := bl5.trans (hbs.mono bl5.size)
  have BS := veil (show BigR w6 (.agg #[.bool (decide (0 < q9.length)), _]) _ from bigR_round true ((unveil D9).later hbs) (unveil N9) (unveil V9))
  clear hbs
  go_wp2_with fail
  refine (out_any _ _ w6 (unveil BS)).mono ?_
  rintro e w7 ⟨rfl, hbo⟩
  have bl7 : Below w.heap.size w w7 := bl6.trans (hbo.mono bl6.size)
  clear hbo
  go_wp2_with fail
  go_ret2
  exact ⟨rfl, bl7⟩

set_option maxHeartbeats 1600000 in
theorem round_floor_no_lt (na : Bool) (oa ob : Option Addr) (ca cb : Nat) (a b : List Int) (w : World) (ha : Dg w (.slice oa a.length ca) a) (hb : Dg w (.slice ob b.length cb) b) (nrm : Norm b) (hB : 0 < dval b) (la : a.length ≤ 150) (lb : b.length ≤ 150) (hc : 2 * (dval a % dval b) < dval b)  :
    RoundSays na na 1 false oa ob ca cb a b w := by
  have Ha := veil ha
  have Hb := veil hb
  have NB := veil nrm
  have HBP := veil hB
  have HC := veil hc
  have PM := BBox.made w na na (.slice oa a.length ca) (.slice ob b.length cb)
  clear ha hb nrm hB hc
  unfold RoundSays
  rw [show (na != na) = false by cases na <;> rfl]
  go_enter Try.func61, Try.ntmps61
  go_wp2_with fail
  generalize ((w.alloc (.cells #[.bool na, .slice oa a.length ca] 98)).alloc (.cells #[.bool na, .slice ob b.length cb] 98)) = W at *
  refine (over_div _ _ a b W ((unveil Ha).later PM.bel) ((unveil Hb).later PM.bel) (unveil NB) (unveil HBP) la lb).mono ?_
  rintro e w1 ⟨qo, qc, ro, rc, qs, rs, rfl, hb1, dq, nq, dr, nr, vq, vr⟩
  have P1 := PM.later hb1
  have P1' := veil P1
  obtain ⟨s1, bel1, a01, a11, b01, b11⟩ := P1
  have rl := dval_len rs dr.1 nr 150 (by rw [vr]; exact rem_len (unveil Hb).1 (unveil HBP) lb)
  have ql := dval_len qs dq.1 nq 150 (by rw [vq]; exact quo_len (unveil Ha).1 (unveil HBP) la)
  have DQ := veil dq
  have NQ := veil nq
  have DR := veil dr
  have NR := veil nr
  have VQ := veil vq
  have VR := veil vr
  clear hb1 dq nq dr nr vq vr PM
  go_wp2_with fail
  refine (plus_any _ _ rs rs w1 (unveil DR) (unveil DR) 150 rl rl (by omega)).mono ?_
  rintro e w2 ⟨v2, rfl, hb2, two, d2, v2e, n2, f2⟩
  have P2 := (unveil P1').later hb2
  have P2' := veil P2
  obtain ⟨s2, bel2, a02, a12, b02, b12⟩ := P2
  have D2 := veil d2
  have N2 := veil n2
  have DQ2 := veil ((unveil DQ).later hb2)
  have CMP1 := veil (show decide (dval b < dval two) = false by rw [v2e, unveil VR]; have := unveil HC; simp; omega)
  have CMP2 := veil (show decide (dval two < dval b) = true by rw [v2e, unveil VR]; have := unveil HC; simp; omega)
  clear hb2 d2 v2e n2 f2
  go_wp2_with fail
  refine (above_any _ _ two b w2 (unveil D2) ((unveil Hb).later (unveil P2').bel) (unveil N2) (unveil NB)).mono ?_
  rintro e w3 ⟨rfl, m3, hw3⟩
  rw [unveil CMP1]
  have P3 : BBox w w3 (.slice oa a.length ca) (.slice ob b.length cb) (.bool na) (.bool na) := by rw [hw3]; exact (unveil P2').drewN m3
  have P3' := veil P3
  obtain ⟨s3, bel3, a03, a13, b03, b13⟩ := P3
  have D3 := veil (show Dg w3 v2 two by rw [hw3]; exact unveil D2)
  have DQ3 := veil (show Dg w3 (.slice qo qs.length qc) qs by rw [hw3]; exact unveil DQ2)
  clear hw3
  go_wp2_with fail
  refine (above_any _ _ b two w3 ((unveil Hb).later (unveil P3').bel) (unveil D3) (unveil NB) (unveil N2)).mono ?_
  rintro e w4 ⟨rfl, m4, hw4⟩
  rw [unveil CMP2]
  have P4 : BBox w w4 (.slice oa a.length ca) (.slice ob b.length cb) (.bool na) (.bool na) := by rw [hw4]; exact (unveil P3').drewN m4
  have P4' := veil P4
  obtain ⟨s4, bel4, a04, a14, b04, b14⟩ := P4
  have D4 := veil (show Dg w4 v2 two by rw [hw4]; exact unveil D3)
  have DQ4 := veil (show Dg w4 (.slice qo qs.length qc) qs by rw [hw4]; exact unveil DQ3)
  clear hw4
  go_wp2_with fail
  have bl4 := (unveil P4').bel
  refine (sign_any _ _ qs w4 (unveil DQ4)).mono ?_
  rintro e w5 ⟨rfl, hbs⟩
  have bl5 : Below w.heap.size w w5 := bl4.trans (hbs.mono bl4.size)
  have BS := veil (show BigR w5 (.agg #[.bool false, _]) _ from bigR_round false ((unveil DQ4).later hbs) (unveil NQ) (unveil VQ))
  clear hbs
  go_wp2_with fail
  refine (out_any _ _ w5 (unveil BS)).mono ?_
  rintro e w6 ⟨rfl, hbo⟩
  have bl6 : Below w.heap.size w w6 := bl5.trans (hbo.mono bl5.size)
  clear hbo
  go_wp2_with fail
  go_ret2
  exact ⟨rfl, bl6⟩

set_option maxHeartbeats 1600000 in
theorem round_floor_yes_lt (na : Bool) (oa ob : Option Addr) (ca cb : Nat) (a b : List Int) (w : World) (ha : Dg w (.slice oa a.length ca) a) (hb : Dg w (.slice ob b.length cb) b) (nrm : Norm b) (hB : 0 < dval b) (la : a.length ≤ 150) (lb : b.length ≤ 150) (hc : 2 * (dval a % dval b) < dval b) (hr : 0 < dval a % dval b) :
    RoundSays na (!na) 1 true oa ob ca cb a b w := by
  have Ha := veil ha
  have Hb := veil hb
  have NB := veil nrm
  have HBP := veil hB
  have HC := veil hc
  have PM := BBox.made w na (!na) (.slice oa a.length ca) (.slice ob b.length cb)
  clear ha hb nrm hB hc
  unfold RoundSays
  rw [show (na != (!na)) = true by cases na <;> rfl]
  go_enter Try.func61, Try.ntmps61
  go_wp2_with fail
  generalize ((w.alloc (.cells #[.bool na, .slice oa a.length ca] 98)).alloc (.cells #[.bool (!na), .slice ob b.length cb] 98)) = W at *
  refine (over_div _ _ a b W ((unveil Ha).later PM.bel) ((unveil Hb).later PM.bel) (unveil NB) (unveil HBP) la lb).mono ?_
  rintro e w1 ⟨qo, qc, ro, rc, qs, rs, rfl, hb1, dq, nq, dr, nr, vq, vr⟩
  have P1 := PM.later hb1
  have P1' := veil P1
  obtain ⟨s1, bel1, a01, a11, b01, b11⟩ := P1
  have rl := dval_len rs dr.1 nr 150 (by rw [vr]; exact rem_len (unveil Hb).1 (unveil HBP) lb)
  have ql := dval_len qs dq.1 nq 150 (by rw [vq]; exact quo_len (unveil Ha).1 (unveil HBP) la)
  have DQ := veil dq
  have NQ := veil nq
  have DR := veil dr
  have NR := veil nr
  have VQ := veil vq
  have VR := veil vr
  have rp : 0 < rs.length := dval_pos_len dr.1 nr (by rw [vr]; exact hr)
  have rp' : (0 : Int) < (rs.length : Int) := by omega
  clear hb1 dq nq dr nr vq vr PM
  go_wp2_with fail
  refine (plus_any _ _ rs rs w1 (unveil DR) (unveil DR) 150 rl rl (by omega)).mono ?_
  rintro e w2 ⟨v2, rfl, hb2, two, d2, v2e, n2, f2⟩
  have P2 := (unveil P1').later hb2
  have P2' := veil P2
  obtain ⟨s2, bel2, a02, a12, b02, b12⟩ := P2
  have D2 := veil d2
  have N2 := veil n2
  have DQ2 := veil ((unveil DQ).later hb2)
  have CMP1 := veil (show decide (dval b < dval two) = false by rw [v2e, unveil VR]; have := unveil HC; simp; omega)
  have CMP2 := veil (show decide (dval two < dval b) = true by rw [v2e, unveil VR]; have := unveil HC; simp; omega)
  clear hb2 d2 v2e n2 f2
  go_wp2_with fail
  refine (above_any _ _ two b w2 (unveil D2) ((unveil Hb).later (unveil P2').bel) (unveil N2) (unveil NB)).mono ?_
  rintro e w3 ⟨rfl, m3, hw3⟩
  rw [unveil CMP1]
  have P3 : BBox w w3 (.slice oa a.length ca) (.slice ob b.length cb) (.bool na) (.bool (!na)) := by rw [hw3]; exact (unveil P2').drewN m3
  have P3' := veil P3
  obtain ⟨s3, bel3, a03, a13, b03, b13⟩ := P3
  have D3 := veil (show Dg w3 v2 two by rw [hw3]; exact unveil D2)
  have DQ3 := veil (show Dg w3 (.slice qo qs.length qc) qs by rw [hw3]; exact unveil DQ2)
  clear hw3
  go_wp2_with fail
  refine (above_any _ _ b two w3 ((unveil Hb).later (unveil P3').bel) (unveil D3) (unveil NB) (unveil N2)).mono ?_
  rintro e w4 ⟨rfl, m4, hw4⟩
  rw [unveil CMP2]
  have P4 : BBox w w4 (.slice oa a.length ca) (.slice ob b.length cb) (.bool na) (.bool (!na)) := by rw [hw4]; exact (unveil P3').drewN m4
  have P4' := veil P4
  obtain ⟨s4, bel4, a04, a14, b04, b14⟩ := P4
  have D4 := veil (show Dg w4 v2 two by rw [hw4]; exact unveil D3)
  have DQ4 := veil (show Dg w4 (.slice qo qs.length qc) qs by rw [hw4]; exact unveil DQ3)
  clear hw4
  go_wp2_with fail
  have bl4 := (unveil P4').bel
  refine (plus_any _ _ qs [1] _ ((unveil DQ4).later ((Below.refl _ _).alloc (Nat.le_refl _) _)) (dg_one w4) 150 ql (by simp) (by omega)).mono ?_
  rintro e w5 ⟨v9, rfl, hb9, q9, d9, v9e, n9, f9⟩
  have bl5 : Below w.heap.size w w5 := (bl4.alloc (by have := s4; omega) _).trans (hb9.mono (by have := s4; simp; omega))
  obtain ⟨_, _, o9, c9, rfl, _⟩ := id d9
  have D9 := veil d9
  have V9 := veil (show dval q9 = dval a / dval b + 1 by rw [v9e, unveil VQ]; rfl)
  have N9 := veil n9
  clear hb9 d9 v9e n9 f9
  go_wp2_with fail
  refine (sign_any _ _ q9 w5 (unveil D9)).mono ?_
  rintro e w6 ⟨rfl, hbs⟩
  have bl6 : Below w.heap.size w w6 := bl5.trans (hbs.mono bl5.size)
  have BS := veil (show BigR w6 (.agg #[.bool (decide (0 < q9.length)), _]) _ from bigR_round true ((unveil D9).later hbs) (unveil N9) (unveil V9))
  clear hbs
  go_wp2_with fail
  refine (out_any _ _ w6 (unveil BS)).mono ?_
  rintro e w7 ⟨rfl, hbo⟩
  have bl7 : Below w.heap.size w w7 := bl6.trans (hbo.mono bl6.size)
  clear hbo
  go_wp2_with fail
  go_ret2
  exact ⟨rfl, bl7⟩

set_option maxHeartbeats 1600000 in
theorem round_floor_zero (na : Bool) (oa ob : Option Addr) (ca cb : Nat) (a b : List Int) (w : World) (ha : Dg w (.slice oa a.length ca) a) (hb : Dg w (.slice ob b.length cb) b) (nrm : Norm b) (hB : 0 < dval b) (la : a.length ≤ 150) (lb : b.length ≤ 150) (hc : 2 * (dval a % dval b) < dval b) (hr : dval a % dval b = 0) :
    RoundSays na (!na) 1 false oa ob ca cb a b w := by
  have Ha := veil ha
  have Hb := veil hb
  have NB := veil nrm
  have HBP := veil hB
  have HC := veil hc
  have PM := BBox.made w na (!na) (.slice oa a.length ca) (.slice ob b.length cb)
  clear ha hb nrm hB hc
  unfold RoundSays
  rw [show (na != (!na)) = true by cases na <;> rfl]
  go_enter Try.func61, Try.ntmps61
  go_wp2_with fail
  generalize ((w.alloc (.cells #[.bool na, .slice oa a.length ca] 98)).alloc (.cells #[.bool (!na), .slice ob b.length cb] 98)) = W at *
  refine (over_div _ _ a b W ((unveil Ha).later PM.bel) ((unveil Hb).later PM.bel) (unveil NB) (unveil HBP) la lb).mono ?_
  rintro e w1 ⟨qo, qc, ro, rc, qs, rs, rfl, hb1, dq, nq, dr, nr, vq, vr⟩
  have P1 := PM.later hb1
  have P1' := veil P1
  obtain ⟨s1, bel1, a01, a11, b01, b11⟩ := P1
  have rl := dval_len rs dr.1 nr 150 (by rw [vr]; exact rem_len (unveil Hb).1 (unveil HBP) lb)
  have ql := dval_len qs dq.1 nq 150 (by rw [vq]; exact quo_len (unveil Ha).1 (unveil HBP) la)
  have DQ := veil dq
  have NQ := veil nq
  have DR := veil dr
  have NR := veil nr
  have VQ := veil vq
  have VR := veil vr
  have rp : rs.length = 0 := (norm_zero dr.1 nr).1 (by rw [vr]; exact hr)
  have rp' : decide ((0 : Int) < (rs.length : Int)) = false := decide_eq_false (by omega)
  have rp2 : decide (0 < rs.length) = false := decide_eq_false (by omega)
  clear rp
  clear hb1 dq nq dr nr vq vr PM
  go_wp2_with fail
  refine (plus_any _ _ rs rs w1 (unveil DR) (unveil DR) 150 rl rl (by omega)).mono ?_
  rintro e w2 ⟨v2, rfl, hb2, two, d2, v2e, n2, f2⟩
  have P2 := (unveil P1').later hb2
  have P2' := veil P2
  obtain ⟨s2, bel2, a02, a12, b02, b12⟩ := P2
  have D2 := veil d2
  have N2 := veil n2
  have DQ2 := veil ((unveil DQ).later hb2)
  have CMP1 := veil (show decide (dval b < dval two) = false by rw [v2e, unveil VR]; have := unveil HC; simp; omega)
  have CMP2 := veil (show decide (dval two < dval b) = true by rw [v2e, unveil VR]; have := unveil HC; simp; omega)
  clear hb2 d2 v2e n2 f2
  go_wp2_with fail
  refine (above_any _ _ two b w2 (unveil D2) ((unveil Hb).later (unveil P2').bel) (unveil N2) (unveil NB)).mono ?_
  rintro e w3 ⟨rfl, m3, hw3⟩
  rw [unveil CMP1]
  have P3 : BBox w w3 (.slice oa a.length ca) (.slice ob b.length cb) (.bool na) (.bool (!na)) := by rw [hw3]; exact (unveil P2').drewN m3
  have P3' := veil P3
  obtain ⟨s3, bel3, a03, a13, b03, b13⟩ := P3
  have D3 := veil (show Dg w3 v2 two by rw [hw3]; exact unveil D2)
  have DQ3 := veil (show Dg w3 (.slice qo qs.length qc) qs by rw [hw3]; exact unveil DQ2)
  clear hw3
  go_wp2_with fail
  refine (above_any _ _ b two w3 ((unveil Hb).later (unveil P3').bel) (unveil D3) (unveil NB) (unveil N2)).mono ?_
  rintro e w4 ⟨rfl, m4, hw4⟩
  rw [unveil CMP2]
  have P4 : BBox w w4 (.slice oa a.length ca) (.slice ob b.length cb) (.bool na) (.bool (!na)) := by rw [hw4]; exact (unveil P3').drewN m4
  have P4' := veil P4
  obtain ⟨s4, bel4, a04, a14, b04, b14⟩ := P4
  have D4 := veil (show Dg w4 v2 two by rw [hw4]; exact unveil D3)
  have DQ4 := veil (show Dg w4 (.slice qo qs.length qc) qs by rw [hw4]; exact unveil DQ3)
  clear hw4
  go_wp2_with fail
  have bl4 := (unveil P4').bel
  refine (sign_any _ _ qs w4 (unveil DQ4)).mono ?_
  rintro e w5 ⟨rfl, hbs⟩
  have bl5 : Below w.heap.size w w5 := bl4.trans (hbs.mono bl4.size)
  have BS := veil (show BigR w5 (.agg #[.bool (decide (0 < qs.length)), _]) _ from bigR_round true ((unveil DQ4).later hbs) (unveil NQ) (unveil VQ))
  clear hbs
  go_wp2_with fail
  refine (out_any _ _ w5 (unveil BS)).mono ?_
  rintro e w6 ⟨rfl, hbo⟩
  have bl6 : Below w.heap.size w w6 := bl5.trans (hbo.mono bl5.size)
  clear hbo
  go_wp2_with fail
  go_ret2
  exact ⟨rfl, bl6⟩

set_option maxHeartbeats 1600000 in
theorem round_ceil_no_gt (na : Bool) (oa ob : Option Addr) (ca cb : Nat) (a b : List Int) (w : World) (ha : Dg w (.slice oa a.length ca) a) (hb : Dg w (.slice ob b.length cb) b) (nrm : Norm b) (hB : 0 < dval b) (la : a.length ≤ 150) (lb : b.length ≤ 150) (hc : dval b < 2 * (dval a % dval b))  :
    RoundSays na (!na) 2 false oa ob ca cb a b w := by
  have Ha := veil ha
  have Hb := veil hb
  have NB := veil nrm
  have HBP := veil hB
  have HC := veil hc
  have PM := BBox.made w na (!na) (.slice oa a.length ca) (.slice ob b.length cb)
  clear ha hb nrm hB hc
  unfold RoundSays
  rw [show (na != (!na)) = true by cases na <;> rfl]
  go_enter Try.func61, Try.ntmps61
  go_wp2_with fail
  generalize ((w.alloc (.cells #[.bool na, .slice oa a.length ca] 98)).alloc (.cells #[.bool (!na), .slice ob b.length cb] 98)) = W at *
  refine (over_div _ _ a b W ((unveil Ha).later PM.bel) ((unveil Hb).later PM.bel) (unveil NB) (unveil HBP) la lb).mono ?_
  rintro e w1 ⟨qo, qc, ro, rc, qs, rs, rfl, hb1, dq, nq, dr, nr, vq, vr⟩
  have P1 := PM.later hb1
  have P1' := veil P1
  obtain ⟨s1, bel1, a01, a11, b01, b11⟩ := P1
  have rl := dval_len rs dr.1 nr 150 (by rw [vr]; exact rem_len (unveil Hb).1 (unveil HBP) lb)
  have ql := dval_len qs dq.1 nq 150 (by rw [vq]; exact quo_len (unveil Ha).1 (unveil HBP) la)
  have DQ := veil dq
  have NQ := veil nq
  have DR := veil dr
  have NR := veil nr
  have VQ := veil vq
  have VR := veil vr
  clear hb1 dq nq dr nr vq vr PM
  go_wp2_with fail
  refine (plus_any _ _ rs rs w1 (unveil DR) (unveil DR) 150 rl rl (by omega)).mono ?_
  rintro e w2 ⟨v2, rfl, hb2, two, d2, v2e, n2, f2⟩
  have P2 := (unveil P1').later hb2
  have P2' := veil P2
  obtain ⟨s2, bel2, a02, a12, b02, b12⟩ := P2
  have D2 := veil d2
  have N2 := veil n2
  have DQ2 := veil ((unveil DQ).later hb2)
  have CMP1 := veil (show decide (dval b < dval two) = true by rw [v2e, unveil VR]; have := unveil HC; simp; omega)
  have CMP2 := veil (show decide (dval two < dval b) = false by rw [v2e, unveil VR]; have := unveil HC; simp; omega)
  clear hb2 d2 v2e n2 f2
  go_wp2_with fail
  refine (above_any _ _ two b w2 (unveil D2) ((unveil Hb).later (unveil P2').bel) (unveil N2) (unveil NB)).mono ?_
  rintro e w3 ⟨rfl, m3, hw3⟩
  rw [unveil CMP1]
  have P3 : BBox w w3 (.slice oa a.length ca) (.slice ob b.length cb) (.bool na) (.bool (!na)) := by rw [hw3]; exact (unveil P2').drewN m3
  have P3' := veil P3
  obtain ⟨s3, bel3, a03, a13, b03, b13⟩ := P3
  have D3 := veil (show Dg w3 v2 two by rw [hw3]; exact unveil D2)
  have DQ3 := veil (show Dg w3 (.slice qo qs.length qc) qs by rw [hw3]; exact unveil DQ2)
  clear hw3
  go_wp2_with fail
  have bl3 := (unveil P3').bel
  refine (sign_any _ _ qs w3 (unveil DQ3)).mono ?_
  rintro e w4 ⟨rfl, hbs⟩
  have bl4 : Below w.heap.size w w4 := bl3.trans (hbs.mono bl3.size)
  have BS := veil (show BigR w4 (.agg #[.bool (decide (0 < qs.length)), _]) _ from bigR_round true ((unveil DQ3).later hbs) (unveil NQ) (unveil VQ))
  clear hbs
  go_wp2_with fail
  refine (out_any _ _ w4 (unveil BS)).mono ?_
  rintro e w5 ⟨rfl, hbo⟩
  have bl5 : Below w.heap.size w w5 := bl4.trans (hbo.mono bl4.size)
  clear hbo
  go_wp2_with fail
  go_ret2
  exact ⟨rfl, bl5⟩

set_option maxHeartbeats 1600000 in
theorem round_ceil_yes_gt (na : Bool) (oa ob : Option Addr) (ca cb : Nat) (a b : List Int) (w : World) (ha : Dg w (.slice oa a.length ca) a) (hb : Dg w (.slice ob b.length cb) b) (nrm : Norm b) (hB : 0 < dval b) (la : a.length ≤ 150) (lb : b.length ≤ 150) (hc : dval b < 2 * (dval a % dval b)) (hr : 0 < dval a % dval b) :
    RoundSays na na 2 true oa ob ca cb a b w := by
  have Ha := veil ha
  have Hb := veil hb
  have NB := veil nrm
  have HBP := veil hB
  have HC := veil hc
  have PM := BBox.made w na na (.slice oa a.length ca) (.slice ob b.length cb)
  clear ha hb nrm hB hc
  unfold RoundSays
  rw [show (na != na) = false by cases na <;> rfl]
  go_enter Try.func61, Try.ntmps61
  go_wp2_with fail
  generalize ((w.alloc (.cells #[.bool na, .slice oa a.length ca] 98)).alloc (.cells #[.bool na, .slice ob b.length cb] 98)) = W at *
  refine (over_div _ _ a b W ((unveil Ha).later PM.bel) ((unveil Hb).later PM.bel) (unveil NB) (unveil HBP) la lb).mono ?_
  rintro e w1 ⟨qo, qc, ro, rc, qs, rs, rfl, hb1, dq, nq, dr, nr, vq, vr⟩
  have P1 := PM.later hb1
  have P1' := veil P1
  obtain ⟨s1, bel1, a01, a11, b01, b11⟩ := P1
  have rl := dval_len rs dr.1 nr 150 (by rw [vr]; exact rem_len (unveil Hb).1 (unveil HBP) lb)
  have ql := dval_len qs dq.1 nq 150 (by rw [vq]; exact quo_len (unveil Ha).1 (unveil HBP) la)
  have DQ := veil dq
  have NQ := veil nq
  have DR := veil dr
  have NR := veil nr
  have VQ := veil vq
  have VR := veil vr
  have rp : 0 < rs.length := dval_pos_len dr.1 nr (by rw [vr]; exact hr)
  have rp' : (0 : Int) < (rs.length : Int) := by omega
  clear hb1 dq nq dr nr vq vr PM
  go_wp2_with fail
  refine (plus_any _ _ rs rs w1 (unveil DR) (unveil DR) 150 rl rl (by omega)).mono ?_
  rintro e w2 ⟨v2, rfl, hb2, two, d2, v2e, n2, f2⟩
  have P2 := (unveil P1').later hb2
  have P2' := veil P2
  obtain ⟨s2, bel2, a02, a12, b02, b12⟩ := P2
  have D2 := veil d2
  have N2 := veil n2
  have DQ2 := veil ((unveil DQ).later hb2)
  have CMP1 := veil (show decide (dval b < dval two) = true by rw [v2e, unveil VR]; have := unveil HC; simp; omega)
  have CMP2 := veil (show decide (dval two < dval b) = false by rw [v2e, unveil VR]; have := unveil HC; simp; omega)
  clear hb2 d2 v2e n2 f2
  go_wp2_with fail
  refine (above_any _ _ two b w2 (unveil D2) ((unveil Hb).later (unveil P2').bel) (unveil N2) (unveil NB)).mono ?_
  rintro e w3 ⟨rfl, m3, hw3⟩
  rw [unveil CMP1]
  have P3 : BBox w w3 (.slice oa a.length ca) (.slice ob b.length cb) (.bool na) (.bool na) := by rw [hw3]; exact (unveil P2').drewN m3
  have P3' := veil P3
  obtain ⟨s3, bel3, a03, a13, b03, b13⟩ := P3
  have D3 := veil (show Dg w3 v2 two by rw [hw3]; exact unveil D2)
  have DQ3 := veil (show Dg w3 (.slice qo qs.length qc) qs by rw [hw3]; exact unveil DQ2)
  clear hw3
  go_wp2_with fail
  have bl3 := (unveil P3').bel
  refine (plus_any _ _ qs [1] _ ((unveil DQ3).later ((Below.refl _ _).alloc (Nat.le_refl _) _)) (dg_one w3) 150 ql (by simp) (by omega)).mono ?_
  rintro e w4 ⟨v9, rfl, hb9, q9, d9, v9e, n9, f9⟩
  have bl4 : Below w.heap.size w w4 := (bl3.alloc (by have := s3; omega) _).trans (hb9.mono (by have := s3; simp; omega))
  obtain ⟨_, _, o9, c9, rfl, _⟩ := id d9
  have D9 := veil d9
  have V9 := veil (show dval q9 = dval a / dval b + 1 by rw [v9e, unveil VQ]; rfl)
  have N9 := veil n9
  clear hb9 d9 v9e n9 f9
  go_wp2_with fail
  refine (sign_any _ _ q9 w4 (unveil D9)).mono ?_
  rintro e w5 ⟨rfl, hbs⟩
  have bl5 : Below w.heap.size w w5 := bl4.trans (hbs.mono bl4.size)
  have BS := veil (show BigR w5 (.agg #[.bool false, _]) _ from bigR_round false ((unveil D9).later hbs) (unveil N9) (unveil V9))
  clear hbs
  go_wp2_with fail
  refine (out_any _ _ w5 (unveil BS)).mono ?_
  rintro e w6 ⟨rfl, hbo⟩
  have bl6 : Below w.heap.size w w6 := bl5.trans (hbo.mono bl5.size)
  clear hbo
  go_wp2_with fail
  go_ret2
  exact ⟨rfl, bl6⟩

set_option maxHeartbeats 1600000 in
theorem round_ceil_no_eq (na : Bool) (oa ob : Option Addr) (ca cb : Nat) (a b : List Int) (w : World) (ha : Dg w (.slice oa a.length ca) a) (hb : Dg w (.slice ob b.length cb) b) (nrm : Norm b) (hB : 0 < dval b) (la : a.length ≤ 150) (lb : b.length ≤ 150) (hc : 2 * (dval a % dval b) = dval b)  :
    RoundSays na (!na) 2 false oa ob ca cb a b w := by
  have Ha := veil ha
  have Hb := veil hb
  have NB := veil nrm
  have HBP := veil hB
  have HC := veil hc
  have PM := BBox.made w na (!na) (.slice oa a.length ca) (.slice ob b.length cb)
  clear ha hb nrm hB hc
  unfold RoundSays
  rw [show (na != (!na)) = true by cases na <;> rfl]
  go_enter Try.func61, Try.ntmps61
  go_wp2_with fail
  generalize ((w.alloc (.cells #[.bool na, .slice oa a.length ca] 98)).alloc (.cells #[.bool (!na), .slice ob b.length cb] 98)) = W at *
  refine (over_div _ _ a b W ((unveil Ha).later PM.bel) ((unveil Hb).later PM.bel) (unveil NB) (unveil HBP) la lb).mono ?_
  rintro e w1 ⟨qo, qc, ro, rc, qs, rs, rfl, hb1, dq, nq, dr, nr, vq, vr⟩
  have P1 := PM.later hb1
  have P1' := veil P1
  obtain ⟨s1, bel1, a01, a11, b01, b11⟩ := P1
  have rl := dval_len rs dr.1 nr 150 (by rw [vr]; exact rem_len (unveil Hb).1 (unveil HBP) lb)
  have ql := dval_len qs dq.1 nq 150 (by rw [vq]; exact quo_len (unveil Ha).1 (unveil HBP) la)
  have DQ := veil dq
  have NQ := veil nq
  have DR := veil dr
  have NR := veil nr
  have VQ := veil vq
  have VR := veil vr
  clear hb1 dq nq dr nr vq vr PM
  go_wp2_with fail
  refine (plus_any _ _ rs rs w1 (unveil DR) (unveil DR) 150 rl rl (by omega)).mono ?_
  rintro e w2 ⟨v2, rfl, hb2, two, d2, v2e, n2, f2⟩
  have P2 := (unveil P1').later hb2
  have P2' := veil P2
  obtain ⟨s2, bel2, a02, a12, b02, b12⟩ := P2
  have D2 := veil d2
  have N2 := veil n2
  have DQ2 := veil ((unveil DQ).later hb2)
  have CMP1 := veil (show decide (dval b < dval two) = false by rw [v2e, unveil VR]; have := unveil HC; simp; omega)
  have CMP2 := veil (show decide (dval two < dval b) = false by rw [v2e, unveil VR]; have := unveil HC; simp; omega)
  clear hb2 d2 v2e n2 f2
  go_wp2_with fail
  refine (above_any _ _ two b w2 (unveil D2) ((unveil Hb).later (unveil P2').bel) (unveil N2) (unveil NB)).mono ?_
  rintro e w3 ⟨rfl, m3, hw3⟩
  rw [unveil CMP1]
  have P3 : BBox w w3 (.slice oa a.length ca) (.slice ob b.length cb) (.bool na) (.bool (!na)) := by rw [hw3]; exact (unveil P2').drewN m3
  have P3' := veil P3
  obtain ⟨s3, bel3, a03, a13, b03, b13⟩ := P3
  have D3 := veil (show Dg w3 v2 two by rw [hw3]; exact unveil D2)
  have DQ3 := veil (show Dg w3 (.slice qo qs.length qc) qs by rw [hw3]; exact unveil DQ2)
  clear hw3
  go_wp2_with fail
  refine (above_any _ _ b two w3 ((unveil Hb).later (unveil P3').bel) (unveil D3) (unveil NB) (unveil N2)).mono ?_
  rintro e w4 ⟨rfl, m4, hw4⟩
  rw [unveil CMP2]
  have P4 : BBox w w4 (.slice oa a.length ca) (.slice ob b.length cb) (.bool na) (.bool (!na)) := by rw [hw4]; exact (unveil P3').drewN m4
  have P4' := veil P4
  obtain ⟨s4, bel4, a04, a14, b04, b14⟩ := P4
  have D4 := veil (show Dg w4 v2 two by rw [hw4]; exact unveil D3)
  have DQ4 := veil (show Dg w4 (.slice qo qs.length qc) qs by rw [hw4]; exact unveil DQ3)
  clear hw4
  go_wp2_with fail
  have bl4 := (unveil P4').bel
  refine (sign_any _ _ qs w4 (unveil DQ4)).mono ?_
  rintro e w5 ⟨rfl, hbs⟩
  have bl5 : Below w.heap.size w w5 := bl4.trans (hbs.mono bl4.size)
  have BS := veil (show BigR w5 (.agg #[.bool (decide (0 < qs.length)), _]) _ from bigR_round true ((unveil DQ4).later hbs) (unveil NQ) (unveil VQ))
  clear hbs
  go_wp2_with fail
  refine (out_any _ _ w5 (unveil BS)).mono ?_
  rintro e w6 ⟨rfl, hbo⟩
  have bl6 : Below w.heap.size w w6 := bl5.trans (hbo.mono bl5.size)
  clear hbo
  go_wp2_with fail
  go_ret2
  exact ⟨rfl, bl6⟩

set_option maxHeartbeats 1600000 in
theorem round_ceil_yes_eq (na : Bool) (oa ob : Option Addr) (ca cb : Nat) (a b : List Int) (w : World) (ha : Dg w (.slice oa a.length ca) a) (hb : Dg w (.slice ob b.length cb) b) (nrm : Norm b) (hB : 0 < dval b) (la : a.length ≤ 150) (lb : b.length ≤ 150) (hc : 2 * (dval a % dval b) = dval b) (hr : 0 < dval a % dval b) :
    RoundSays na na 2 true oa ob ca cb a b w := by
  have Ha := veil ha
  have Hb := veil hb
  have NB := veil nrm
  have HBP := veil hB
  have HC := veil hc
  have PM := BBox.made w na na (.slice oa a.length ca) (.slice ob b.length cb)
  clear ha hb nrm hB hc
  unfold RoundSays
  rw [show (na != na) = false by cases na <;> rfl]
  go_enter Try.func61, Try.ntmps61
  go_wp2_with fail
  generalize ((w.alloc (.cells #[.bool na, .slice oa a.length ca] 98)).alloc (.cells #[.bool na, .slice ob b.length cb] 98)) = W at *
  refine (over_div _ _ a b W ((unveil Ha).later PM.bel) ((unveil Hb).later PM.bel) (unveil NB) (unveil HBP) la lb).mono ?_
  rintro e w1 ⟨qo, qc, ro, rc, qs, rs, rfl, hb1, dq, nq, dr, nr, vq, vr⟩
  have P1 := PM.later hb1
  have P1' := veil P1
  obtain ⟨s1, bel1, a01, a11, b01, b11⟩ := P1
  have rl := dval_len rs dr.1 nr 150 (by rw [vr]; exact rem_len (unveil Hb).1 (unveil HBP) lb)
  have ql := dval_len qs dq.1 nq 150 (by rw [vq]; exact quo_len (unveil Ha).1 (unveil HBP) la)
  have DQ := veil dq
  have NQ := veil nq
  have DR := veil dr
  have NR := veil nr
  have VQ := veil vq
  have VR := veil vr
  have rp : 0 < rs.length := dval_pos_len dr.1 nr (by rw [vr]; exact hr)
  have rp' : (0 : Int) < (rs.length : Int) := by omega
  clear hb1 dq nq dr nr vq vr PM
  go_wp2_with fail
  refine (plus_any _ _ rs rs w1 (unveil DR) (unveil DR) 150 rl rl (by omega)).mono ?_
  rintro e w2 ⟨v2, rfl, hb2, two, d2, v2e, n2, f2⟩
  have P2 := (unveil P1').later hb2
  have P2' := veil P2
  obtain ⟨s2, bel2, a02, a12, b02, b12⟩ := P2
  have D2 := veil d2
  have N2 := veil n2
  have DQ2 := veil ((unveil DQ).later hb2)
  have CMP1 := veil (show decide (dval b < dval two) = false by rw [v2e, unveil VR]; have := unveil HC; simp; omega)
  have CMP2 := veil (show decide (dval two < dval b) = false by rw [v2e, unveil VR]; have := unveil HC; simp; omega)
  clear hb2 d2 v2e n2 f2
  go_wp2_with fail
  refine (above_any _ _ two b w2 (unveil D2) ((unveil Hb).later (unveil P2').bel) (unveil N2) (unveil NB)).mono ?_
  rintro e w3 ⟨rfl, m3, hw3⟩
  rw [unveil CMP1]
  have P3 : BBox w w3 (.slice oa a.length ca) (.slice ob b.length cb) (.bool na) (.bool na) := by rw [hw3]; exact (unveil P2').drewN m3
  have P3' := veil P3
  obtain ⟨s3, bel3, a03, a13, b03, b13⟩ := P3
  have D3 := veil (show Dg w3 v2 two by rw [hw3]; exact unveil D2)
  have DQ3 := veil (show Dg w3 (.slice qo qs.length qc) qs by rw [hw3]; exact unveil DQ2)
  clear hw3
  go_wp2_with fail
  refine (above_any _ _ b two w3 ((unveil Hb).later (unveil P3').bel) (unveil D3) (unveil NB) (unveil N2)).mono ?_
  rintro e w4 ⟨rfl, m4, hw4⟩
  rw [unveil CMP2]
  have P4 : BBox w w4 (.slice oa a.length ca) (.slice ob b.length cb) (.bool na) (.bool na) := by rw [hw4]; exact (unveil P3').drewN m4
  have P4' := veil P4
  obtain ⟨s4, bel4, a04, a14, b04, b14⟩ := P4
  have D4 := veil (show Dg w4 v2 two by rw [hw4]; exact unveil D3)
  have DQ4 := veil (show Dg w4 (.slice qo qs.length qc) qs by rw [hw4]; exact unveil DQ3)
  clear hw4
  go_wp2_with fail
  have bl4 := (unveil P4').bel
  refine (plus_any _ _ qs [1] _ ((unveil DQ4).later ((Below.refl _ _).alloc (Nat.le_refl _) _)) (dg_one w4) 150 ql (by simp) (by omega)).mono ?_
  rintro e w5 ⟨v9, rfl, hb9, q9, d9, v9e, n9, f9⟩
  have bl5 : Below w.heap.size w w5 := (bl4.alloc (by have := s4; omega) _).trans (hb9.mono (by have := s4; simp; omega))
  obtain ⟨_, _, o9, c9, rfl, _⟩ := id d9
  have D9 := veil d9
  have V9 := veil (show dval q9 = dval a / dval b + 1 by rw [v9e, unveil VQ]; rfl)
  have N9 := veil n9
  clear hb9 d9 v9e n9 f9
  go_wp2_with fail
  refine (sign_any _ _ q9 w5 (unveil D9)).mono ?_
  rintro e w6 ⟨rfl, hbs⟩
  have bl6 : Below w.heap.size w w6 := bl5.trans (hbs.mono bl5.size)
  have BS := veil (show BigR w6 (.agg #[.bool false, _]) _ from bigR_round false ((unveil D9).later hbs) (unveil N9) (unveil V9))
  clear hbs
  go_wp2_with fail
  refine (out_any _ _ w6 (unveil BS)).mono ?_
  rintro e w7 ⟨rfl, hbo⟩
  have bl7 : Below w.heap.size w w7 := bl6.trans (hbo.mono bl6.size)
  clear hbo
  go_wp2_with fail
  go_ret2
  exact ⟨rfl, bl7⟩

set_option maxHeartbeats 1600000 in
theorem round_ceil_no_lt (na : Bool) (oa ob : Option Addr) (ca cb : Nat) (a b : List Int) (w : World) (ha : Dg w (.slice oa a.length ca) a) (hb : Dg w (.slice ob b.length cb) b) (nrm : Norm b) (hB : 0 < dval b) (la : a.length ≤ 150) (lb : b.length ≤ 150) (hc : 2 * (dval a % dval b) < dval b)  :
    RoundSays na (!na) 2 false oa ob ca cb a b w := by
  have Ha := veil ha
  have Hb := veil hb
  have NB := veil nrm
  have HBP := veil hB
  have HC := veil hc
  have PM := BBox.made w na (!na) (.slice oa a.length ca) (.slice ob b.length cb)
  clear ha hb nrm hB hc
  unfold RoundSays
  rw [show (na != (!na)) = true by cases na <;> rfl]
  go_enter Try.func61, Try.ntmps61
  go_wp2_with fail
  generalize ((w.alloc (.cells #[.bool na, .slice oa a.length ca] 98)).alloc (.cells #[.bool (!na), .slice ob b.length cb] 98)) = W at *
  refine (over_div _ _ a b W ((unveil Ha).later PM.bel) ((unveil Hb).later PM.bel) (unveil NB) (unveil HBP) la lb).mono ?_
  rintro e w1 ⟨qo, qc, ro, rc, qs, rs, rfl, hb1, dq, nq, dr, nr, vq, vr⟩
  have P1 := PM.later hb1
  have P1' := veil P1
  obtain ⟨s1, bel1, a01, a11, b01, b11⟩ := P1
  have rl := dval_len rs dr.1 nr 150 (by rw [vr]; exact rem_len (unveil Hb).1 (unveil HBP) lb)
  have ql := dval_len qs dq.1 nq 150 (by rw [vq]; exact quo_len (unveil Ha).1 (unveil HBP) la)
  have DQ := veil dq
  have NQ := veil nq
  have DR := veil dr
  have NR := veil nr
  have VQ := veil vq
  have VR := veil vr
  clear hb1 dq nq dr nr vq vr PM
  go_wp2_with fail
  refine (plus_any _ _ rs rs w1 (unveil DR) (unveil DR) 150 rl rl (by omega)).mono ?_
  rintro e w2 ⟨v2, rfl, hb2, two, d2, v2e, n2, f2⟩
  have P2 := (unveil P1').later hb2
  have P2' := veil P2
  obtain ⟨s2, bel2, a02, a12, b02, b12⟩ := P2
  have D2 := veil d2
  have N2 := veil n2
  have DQ2 := veil ((unveil DQ).later hb2)
  have CMP1 := veil (show decide (dval b < dval two) = false by rw [v2e, unveil VR]; have := unveil HC; simp; omega)
  have CMP2 := veil (show decide (dval two < dval b) = true by rw [v2e, unveil VR]; have := unveil HC; simp; omega)
  clear hb2 d2 v2e n2 f2
  go_wp2_with fail
  refine (above_any _ _ two b w2 (unveil D2) ((unveil Hb).later (unveil P2').bel) (unveil N2) (unveil NB)).mono ?_
  rintro e w3 ⟨rfl, m3, hw3⟩
  rw [unveil CMP1]
  have P3 : BBox w w3 (.slice oa a.length ca) (.slice ob b.length cb) (.bool na) (.bool (!na)) := by rw [hw3]; exact (unveil P2').drewN m3
  have P3' := veil P3
  obtain ⟨s3, bel3, a03, a13, b03, b13⟩ := P3
  have D3 := veil (show Dg w3 v2 two by rw [hw3]; exact unveil D2)
  have DQ3 := veil (show Dg w3 (.slice qo qs.length qc) qs by rw [hw3]; exact unveil DQ2)
  clear hw3
  go_wp2_with fail
  refine (above_any _ _ b two w3 ((unveil Hb).later (unveil P3').bel) (unveil D3) (unveil NB) (unveil N2)).mono ?_
  rintro e w4 ⟨rfl, m4, hw4⟩
  rw [unveil CMP2]
  have P4 : BBox w w4 (.slice oa a.length ca) (.slice ob b.length cb) (.bool na) (.bool (!na)) := by rw [hw4]; exact (unveil P3').drewN m4
  have P4' := veil P4
  obtain ⟨s4, bel4, a04, a14, b04, b14⟩ := P4
  have D4 := veil (show Dg w4 v2 two by rw [hw4]; exact unveil D3)
  have DQ4 := veil (show Dg w4 (.slice qo qs.length qc) qs by rw [hw4]; exact unveil DQ3)
  clear hw4
  go_wp2_with fail
  have bl4 := (unveil P4').bel
  refine (sign_any _ _ qs w4 (unveil DQ4)).mono ?_
  rintro e w5 ⟨rfl, hbs⟩
  have bl5 : Below w.heap.size w w5 := bl4.trans (hbs.mono bl4.size)
  have BS := veil (show BigR w5 (.agg #[.bool (decide (0 < qs.length)), _]) _ from bigR_round true ((unveil DQ4).later hbs) (unveil NQ) (unveil VQ))
  clear hbs
  go_wp2_with fail
  refine (out_any _ _ w5 (unveil BS)).mono ?_
  rintro e w6 ⟨rfl, hbo⟩
  have bl6 : Below w.heap.size w w6 := bl5.trans (hbo.mono bl5.size)
  clear hbo
  go_wp2_with fail
  go_ret2
  exact ⟨rfl, bl6⟩

set_option maxHeartbeats 1600000 in
theorem round_ceil_yes_lt (na : Bool) (oa ob : Option Addr) (ca cb : Nat) (a b : List Int) (w : World) (ha : Dg w (.slice oa a.length ca) a) (hb : Dg w (.slice ob b.length cb) b) (nrm : Norm b) (hB : 0 < dval b) (la : a.length ≤ 150) (lb : b.length ≤ 150) (hc : 2 * (dval a % dval b) < dval b) (hr : 0 < dval a % dval b) :
    RoundSays na na 2 true oa ob ca cb a b w := by
  have Ha := veil ha
  have Hb := veil hb
  have NB := veil nrm
  have HBP := veil hB
  have HC := veil hc
  have PM := BBox.made w na na (.slice oa a.length ca) (.slice ob b.length cb)
  clear ha hb nrm hB hc
  unfold RoundSays
  rw [show (na != na) = false by cases na <;> rfl]
  go_enter Try.func61, Try.ntmps61
  go_wp2_with fail
  generalize ((w.alloc (.cells #[.bool na, .slice oa a.length ca] 98)).alloc (.cells #[.bool na, .slice ob b.length cb] 98)) = W at *
  refine (over_div _ _ a b W ((unveil Ha).later PM.bel) ((unveil Hb).later PM.bel) (unveil NB) (unveil HBP) la lb).mono ?_
  rintro e w1 ⟨qo, qc, ro, rc, qs, rs, rfl, hb1, dq, nq, dr, nr, vq, vr⟩
  have P1 := PM.later hb1
  have P1' := veil P1
  obtain ⟨s1, bel1, a01, a11, b01, b11⟩ := P1
  have rl := dval_len rs dr.1 nr 150 (by rw [vr]; exact rem_len (unveil Hb).1 (unveil HBP) lb)
  have ql := dval_len qs dq.1 nq 150 (by rw [vq]; exact quo_len (unveil Ha).1 (unveil HBP) la)
  have DQ := veil dq
  have NQ := veil nq
  have DR := veil dr
  have NR := veil nr
  have VQ := veil vq
  have VR := veil vr
  have rp : 0 < rs.length := dval_pos_len dr.1 nr (by rw [vr]; exact hr)
  have rp' : (0 : Int) < (rs.length : Int) := by omega
  clear hb1 dq nq dr nr vq vr PM
  go_wp2_with fail
  refine (plus_any _ _ rs rs w1 (unveil DR) (unveil DR) 150 rl rl (by omega)).mono ?_
  rintro e w2 ⟨v2, rfl, hb2, two, d2, v2e, n2, f2⟩
  have P2 := (unveil P1').later hb2
  have P2' := veil P2
  obtain ⟨s2, bel2, a02, a12, b02, b12⟩ := P2
  have D2 := veil d2
  have N2 := veil n2
  have DQ2 := veil ((unveil DQ).later hb2)
  have CMP1 := veil (show decide (dval b < dval two) = false by rw [v2e, unveil VR]; have := unveil HC; simp; omega)
  have CMP2 := veil (show decide (dval two < dval b) = true by rw [v2e, unveil VR]; have := unveil HC; simp; omega)
  clear hb2 d2 v2e n2 f2
  go_wp2_with fail
  refine (above_any _ _ two b w2 (unveil D2) ((unveil Hb).later (unveil P2').bel) (unveil N2) (unveil NB)).mono ?_
  rintro e w3 ⟨rfl, m3, hw3⟩
  rw [unveil CMP1]
  have P3 : BBox w w3 (.slice oa a.length ca) (.slice ob b.length cb) (.bool na) (.bool na) := by rw [hw3]; exact (unveil P2').drewN m3
  have P3' := veil P3
  obtain ⟨s3, bel3, a03, a13, b03, b13⟩ := P3
  have D3 := veil (show Dg w3 v2 two by rw [hw3]; exact unveil D2)
  have DQ3 := veil (show Dg w3 (.slice qo qs.length qc) qs by rw [hw3]; exact unveil DQ2)
  clear hw3
  go_wp2_with fail
  refine (above_any _ _ b two w3 ((unveil Hb).later (unveil P3').bel) (unveil D3) (unveil NB) (unveil N2)).mono ?_
  rintro e w4 ⟨rfl, m4, hw4⟩
  rw [unveil CMP2]
  have P4 : BBox w w4 (.slice oa a.length ca) (.slice ob b.length cb) (.bool na) (.bool na) := by rw [hw4]; exact (unveil P3').drewN m4
  have P4' := veil P4
  obtain ⟨s4, bel4, a04, a14, b04, b14⟩ := P4
  have D4 := veil (show Dg w4 v2 two by rw [hw4]; exact unveil D3)
  have DQ4 := veil (show Dg w4 (.slice qo qs.length qc) qs by rw [hw4]; exact unveil DQ3)
  clear hw4
  go_wp2_with fail
  have bl4 := (unveil P4').bel
  refine (plus_any _ _ qs [1] _ ((unveil DQ4).later ((Below.refl _ _).alloc (Nat.le_refl _) _)) (dg_one w4) 150 ql (by simp) (by omega)).mono ?_
  rintro e w5 ⟨v9, rfl, hb9, q9, d9, v9e, n9, f9⟩
  have bl5 : Below w.heap.size w w5 := (bl4.alloc (by have := s4; omega) _).trans (hb9.mono (by have := s4; simp; omega))
  obtain ⟨_, _, o9, c9, rfl, _⟩ := id d9
  have D9 := veil d9
  have V9 := veil (show dval q9 = dval a / dval b + 1 by rw [v9e, unveil VQ]; rfl)
  have N9 := veil n9
  clear hb9 d9 v9e n9 f9
  go_wp2_with fail
  refine (sign_any _ _ q9 w5 (unveil D9)).mono ?_
  rintro e w6 ⟨rfl, hbs⟩
  have bl6 : Below w.heap.size w w6 := bl5.trans (hbs.mono bl5.size)
  have BS := veil (show BigR w6 (.agg #[.bool false, _]) _ from bigR_round false ((unveil D9).later hbs) (unveil N9) (unveil V9))
  clear hbs
  go_wp2_with fail
  refine (out_any _ _ w6 (unveil BS)).mono ?_
  rintro e w7 ⟨rfl, hbo⟩
  have bl7 : Below w.heap.size w w7 := bl6.trans (hbo.mono bl6.size)
  clear hbo
  go_wp2_with fail
  go_ret2
  exact ⟨rfl, bl7⟩

set_option maxHeartbeats 1600000 in
theorem round_ceil_zero (na : Bool) (oa ob : Option Addr) (ca cb : Nat) (a b : List Int) (w : World) (ha : Dg w (.slice oa a.length ca) a) (hb : Dg w (.slice ob b.length cb) b) (nrm : Norm b) (hB : 0 < dval b) (la : a.length ≤ 150) (lb : b.length ≤ 150) (hc : 2 * (dval a % dval b) < dval b) (hr : dval a % dval b = 0) :
    RoundSays na na 2 false oa ob ca cb a b w := by
  have Ha := veil ha
  have Hb := veil hb
  have NB := veil nrm
  have HBP := veil hB
  have HC := veil hc
  have PM := BBox.made w na na (.slice oa a.length ca) (.slice ob b.length cb)
  clear ha hb nrm hB hc
  unfold RoundSays
  rw [show (na != na) = false by cases na <;> rfl]
  go_enter Try.func61, Try.ntmps61
  go_wp2_with fail
  generalize ((w.alloc (.cells #[.bool na, .slice oa a.length ca] 98)).alloc (.cells #[.bool na, .slice ob b.length cb] 98)) = W at *
  refine (over_div _ _ a b W ((unveil Ha).later PM.bel) ((unveil Hb).later PM.bel) (unveil NB) (unveil HBP) la lb).mono ?_
  rintro e w1 ⟨qo, qc, ro, rc, qs, rs, rfl, hb1, dq, nq, dr, nr, vq, vr⟩
  have P1 := PM.later hb1
  have P1' := veil P1
  obtain ⟨s1, bel1, a01, a11, b01, b11⟩ := P1
  have rl := dval_len rs dr.1 nr 150 (by rw [vr]; exact rem_len (unveil Hb).1 (unveil HBP) lb)
  have ql := dval_len qs dq.1 nq 150 (by rw [vq]; exact quo_len (unveil Ha).1 (unveil HBP) la)
  have DQ := veil dq
  have NQ := veil nq
  have DR := veil dr
  have NR := veil nr
  have VQ := veil vq
  have VR := veil vr
  have rp : rs.length = 0 := (norm_zero dr.1 nr).1 (by rw [vr]; exact hr)
  have rp' : decide ((0 : Int) < (rs.length : Int)) = false := decide_eq_false (by omega)
  have rp2 : decide (0 < rs.length) = false := decide_eq_false (by omega)
  clear rp
  clear hb1 dq nq dr nr vq vr PM
  go_wp2_with fail
  refine (plus_any _ _ rs rs w1 (unveil DR) (unveil DR) 150 rl rl (by omega)).mono ?_
  rintro e w2 ⟨v2, rfl, hb2, two, d2, v2e, n2, f2⟩
  have P2 := (unveil P1').later hb2
  have P2' := veil P2
  obtain ⟨s2, bel2, a02, a12, b02, b12⟩ := P2
  have D2 := veil d2
  have N2 := veil n2
  have DQ2 := veil ((unveil DQ).later hb2)
  have CMP1 := veil (show decide (dval b < dval two) = false by rw [v2e, unveil VR]; have := unveil HC; simp; omega)
  have CMP2 := veil (show decide (dval two < dval b) = true by rw [v2e, unveil VR]; have := unveil HC; simp; omega)
  clear hb2 d2 v2e n2 f2
  go_wp2_with fail
  refine (above_any _ _ two b w2 (unveil D2) ((unveil Hb).later (unveil P2').bel) (unveil N2) (unveil NB)).mono ?_
  rintro e w3 ⟨rfl, m3, hw3⟩
  rw [unveil CMP1]
  have P3 : BBox w w3 (.slice oa a.length ca) (.slice ob b.length cb) (.bool na) (.bool na) := by rw [hw3]; exact (unveil P2').drewN m3
  have P3' := veil P3
  obtain ⟨s3, bel3, a03, a13, b03, b13⟩ := P3
  have D3 := veil (show Dg w3 v2 two by rw [hw3]; exact unveil D2)
  have DQ3 := veil (show Dg w3 (.slice qo qs.length qc) qs by rw [hw3]; exact unveil DQ2)
  clear hw3
  go_wp2_with fail
  refine (above_any _ _ b two w3 ((unveil Hb).later (unveil P3').bel) (unveil D3) (unveil NB) (unveil N2)).mono ?_
  rintro e w4 ⟨rfl, m4, hw4⟩
  rw [unveil CMP2]
  have P4 : BBox w w4 (.slice oa a.length ca) (.slice ob b.length cb) (.bool na) (.bool na) := by rw [hw4]; exact (unveil P3').drewN m4
  have P4' := veil P4
  obtain ⟨s4, bel4, a04, a14, b04, b14⟩ := P4
  have D4 := veil (show Dg w4 v2 two by rw [hw4]; exact unveil D3)
  have DQ4 := veil (show Dg w4 (.slice qo qs.length qc) qs by rw [hw4]; exact unveil DQ3)
  clear hw4
  go_wp2_with fail
  have bl4 := (unveil P4').bel
  refine (sign_any _ _ qs w4 (unveil DQ4)).mono ?_
  rintro e w5 ⟨rfl, hbs⟩
  have bl5 : Below w.heap.size w w5 := bl4.trans (hbs.mono bl4.size)
  have BS := veil (show BigR w5 (.agg #[.bool false, _]) _ from bigR_round false ((unveil DQ4).later hbs) (unveil NQ) (unveil VQ))
  clear hbs
  go_wp2_with fail
  refine (out_any _ _ w5 (unveil BS)).mono ?_
  rintro e w6 ⟨rfl, hbo⟩
  have bl6 : Below w.heap.size w w6 := bl5.trans (hbo.mono bl5.size)
  clear hbo
  go_wp2_with fail
  go_ret2
  exact ⟨rfl, bl6⟩

end Go.Proofs.Ytjlnbhmiahegmaa

namespace Go.Proofs.Ytjlnbhmiahegmaa
open Go.RowKit
set_option maxRecDepth 100000
set_option linter.unusedVariables false

set_option maxHeartbeats 1600000 in
theorem round_half_gt (na : Bool) (nb : Bool) (oa ob : Option Addr) (ca cb : Nat) (a b : List Int) (w : World) (ha : Dg w (.slice oa a.length ca) a) (hb : Dg w (.slice ob b.length cb) b) (nrm : Norm b) (hB : 0 < dval b) (la : a.length ≤ 150) (lb : b.length ≤ 150) (hc : dval b < 2 * (dval a % dval b))  :
    RoundSays na nb 3 true oa ob ca cb a b w := by
  have Ha := veil ha
  have Hb := veil hb
  have NB := veil nrm
  have HBP := veil hB
  have HC := veil hc
  have PM := BBox.made w na nb (.slice oa a.length ca) (.slice ob b.length cb)
  clear ha hb nrm hB hc
  unfold RoundSays
  go_enter Try.func61, Try.ntmps61
  go_wp2_with fail
  generalize ((w.alloc (.cells #[.bool na, .slice oa a.length ca] 98)).alloc (.cells #[.bool nb, .slice ob b.length cb] 98)) = W at *
  refine (over_div _ _ a b W ((unveil Ha).later PM.bel) ((unveil Hb).later PM.bel) (unveil NB) (unveil HBP) la lb).mono ?_
  rintro e w1 ⟨qo, qc, ro, rc, qs, rs, rfl, hb1, dq, nq, dr, nr, vq, vr⟩
  have P1 := PM.later hb1
  have P1' := veil P1
  obtain ⟨s1, bel1, a01, a11, b01, b11⟩ := P1
  have rl := dval_len rs dr.1 nr 150 (by rw [vr]; exact rem_len (unveil Hb).1 (unveil HBP) lb)
  have ql := dval_len qs dq.1 nq 150 (by rw [vq]; exact quo_len (unveil Ha).1 (unveil HBP) la)
  have DQ := veil dq
  have NQ := veil nq
  have DR := veil dr
  have NR := veil nr
  have VQ := veil vq
  have VR := veil vr
  clear hb1 dq nq dr nr vq vr PM
  go_wp2_with fail
  refine (plus_any _ _ rs rs w1 (unveil DR) (unveil DR) 150 rl rl (by omega)).mono ?_
  rintro e w2 ⟨v2, rfl, hb2, two, d2, v2e, n2, f2⟩
  have P2 := (unveil P1').later hb2
  have P2' := veil P2
  obtain ⟨s2, bel2, a02, a12, b02, b12⟩ := P2
  have D2 := veil d2
  have N2 := veil n2
  have DQ2 := veil ((unveil DQ).later hb2)
  have CMP1 := veil (show decide (dval b < dval two) = true by rw [v2e, unveil VR]; have := unveil HC; simp; omega)
  have CMP2 := veil (show decide (dval two < dval b) = false by rw [v2e, unveil VR]; have := unveil HC; simp; omega)
  clear hb2 d2 v2e n2 f2
  go_wp2_with fail
  refine (above_any _ _ two b w2 (unveil D2) ((unveil Hb).later (unveil P2').bel) (unveil N2) (unveil NB)).mono ?_
  rintro e w3 ⟨rfl, m3, hw3⟩
  rw [unveil CMP1]
  have P3 : BBox w w3 (.slice oa a.length ca) (.slice ob b.length cb) (.bool na) (.bool nb) := by rw [hw3]; exact (unveil P2').drewN m3
  have P3' := veil P3
  obtain ⟨s3, bel3, a03, a13, b03, b13⟩ := P3
  have D3 := veil (show Dg w3 v2 two by rw [hw3]; exact unveil D2)
  have DQ3 := veil (show Dg w3 (.slice qo qs.length qc) qs by rw [hw3]; exact unveil DQ2)
  clear hw3
  go_wp2_with fail
  refine (above_any _ _ two b w3 (unveil D3) ((unveil Hb).later (unveil P3').bel) (unveil N2) (unveil NB)).mono ?_
  rintro e w4 ⟨rfl, m4, hw4⟩
  rw [unveil CMP1]
  have P4 : BBox w w4 (.slice oa a.length ca) (.slice ob b.length cb) (.bool na) (.bool nb) := by rw [hw4]; exact (unveil P3').drewN m4
  have P4' := veil P4
  obtain ⟨s4, bel4, a04, a14, b04, b14⟩ := P4
  have D4 := veil (show Dg w4 v2 two by rw [hw4]; exact unveil D3)
  have DQ4 := veil (show Dg w4 (.slice qo qs.length qc) qs by rw [hw4]; exact unveil DQ3)
  clear hw4
  go_wp2_with fail
  have bl4 := (unveil P4').bel
  refine (plus_any _ _ qs [1] _ ((unveil DQ4).later ((Below.refl _ _).alloc (Nat.le_refl _) _)) (dg_one w4) 150 ql (by simp) (by omega)).mono ?_
  rintro e w5 ⟨v9, rfl, hb9, q9, d9, v9e, n9, f9⟩
  have bl5 : Below w.heap.size w w5 := (bl4.alloc (by have := s4; omega) _).trans (hb9.mono (by have := s4; simp; omega))
  obtain ⟨_, _, o9, c9, rfl, _⟩ := id d9
  have D9 := veil d9
  have V9 := veil (show dval q9 = dval a / dval b + 1 by rw [v9e, unveil VQ]; rfl)
  have N9 := veil n9
  clear hb9 d9 v9e n9 f9
  go_wp2_with fail
  refine (sign_any _ _ q9 w5 (unveil D9)).mono ?_
  rintro e w6 ⟨rfl, hbs⟩
  have bl6 : Below w.heap.size w w6 := bl5.trans (hbs.mono bl5.size)
  have BS := veil (bigR_round (na != nb) ((unveil D9).later hbs) (unveil N9) (unveil V9))
  clear hbs
  go_wp2_with fail
  refine (out_any _ _ w6 (unveil BS)).mono ?_
  rintro e w7 ⟨rfl, hbo⟩
  have bl7 : Below w.heap.size w w7 := bl6.trans (hbo.mono bl6.size)
  clear hbo
  go_wp2_with fail
  go_ret2
  exact ⟨rfl, bl7⟩

set_option maxHeartbeats 1600000 in
theorem round_half_eq (na : Bool) (nb : Bool) (oa ob : Option Addr) (ca cb : Nat) (a b : List Int) (w : World) (ha : Dg w (.slice oa a.length ca) a) (hb : Dg w (.slice ob b.length cb) b) (nrm : Norm b) (hB : 0 < dval b) (la : a.length ≤ 150) (lb : b.length ≤ 150) (hc : 2 * (dval a % dval b) = dval b)  :
    RoundSays na nb 3 true oa ob ca cb a b w := by
  have Ha := veil ha
  have Hb := veil hb
  have NB := veil nrm
  have HBP := veil hB
  have HC := veil hc
  have PM := BBox.made w na nb (.slice oa a.length ca) (.slice ob b.length cb)
  clear ha hb nrm hB hc
  unfold RoundSays
  go_enter Try.func61, Try.ntmps61
  go_wp2_with fail
  generalize ((w.alloc (.cells #[.bool na, .slice oa a.length ca] 98)).alloc (.cells #[.bool nb, .slice ob b.length cb] 98)) = W at *
  refine (over_div _ _ a b W ((unveil Ha).later PM.bel) ((unveil Hb).later PM.bel) (unveil NB) (unveil HBP) la lb).mono ?_
  rintro e w1 ⟨qo, qc, ro, rc, qs, rs, rfl, hb1, dq, nq, dr, nr, vq, vr⟩
  have P1 := PM.later hb1
  have P1' := veil P1
  obtain ⟨s1, bel1, a01, a11, b01, b11⟩ := P1
  have rl := dval_len rs dr.1 nr 150 (by rw [vr]; exact rem_len (unveil Hb).1 (unveil HBP) lb)
  have ql := dval_len qs dq.1 nq 150 (by rw [vq]; exact quo_len (unveil Ha).1 (unveil HBP) la)
  have DQ := veil dq
  have NQ := veil nq
  have DR := veil dr
  have NR := veil nr
  have VQ := veil vq
  have VR := veil vr
  clear hb1 dq nq dr nr vq vr PM
  go_wp2_with fail
  refine (plus_any _ _ rs rs w1 (unveil DR) (unveil DR) 150 rl rl (by omega)).mono ?_
  rintro e w2 ⟨v2, rfl, hb2, two, d2, v2e, n2, f2⟩
  have P2 := (unveil P1').later hb2
  have P2' := veil P2
  obtain ⟨s2, bel2, a02, a12, b02, b12⟩ := P2
  have D2 := veil d2
  have N2 := veil n2
  have DQ2 := veil ((unveil DQ).later hb2)
  have CMP1 := veil (show decide (dval b < dval two) = false by rw [v2e, unveil VR]; have := unveil HC; simp; omega)
  have CMP2 := veil (show decide (dval two < dval b) = false by rw [v2e, unveil VR]; have := unveil HC; simp; omega)
  clear hb2 d2 v2e n2 f2
  go_wp2_with fail
  refine (above_any _ _ two b w2 (unveil D2) ((unveil Hb).later (unveil P2').bel) (unveil N2) (unveil NB)).mono ?_
  rintro e w3 ⟨rfl, m3, hw3⟩
  rw [unveil CMP1]
  have P3 : BBox w w3 (.slice oa a.length ca) (.slice ob b.length cb) (.bool na) (.bool nb) := by rw [hw3]; exact (unveil P2').drewN m3
  have P3' := veil P3
  obtain ⟨s3, bel3, a03, a13, b03, b13⟩ := P3
  have D3 := veil (show Dg w3 v2 two by rw [hw3]; exact unveil D2)
  have DQ3 := veil (show Dg w3 (.slice qo qs.length qc) qs by rw [hw3]; exact unveil DQ2)
  clear hw3
  go_wp2_with fail
  refine (above_any _ _ b two w3 ((unveil Hb).later (unveil P3').bel) (unveil D3) (unveil NB) (unveil N2)).mono ?_
  rintro e w4 ⟨rfl, m4, hw4⟩
  rw [unveil CMP2]
  have P4 : BBox w w4 (.slice oa a.length ca) (.slice ob b.length cb) (.bool na) (.bool nb) := by rw [hw4]; exact (unveil P3').drewN m4
  have P4' := veil P4
  obtain ⟨s4, bel4, a04, a14, b04, b14⟩ := P4
  have D4 := veil (show Dg w4 v2 two by rw [hw4]; exact unveil D3)
  have DQ4 := veil (show Dg w4 (.slice qo qs.length qc) qs by rw [hw4]; exact unveil DQ3)
  clear hw4
  go_wp2_with fail
  have bl4 := (unveil P4').bel
  refine (plus_any _ _ qs [1] _ ((unveil DQ4).later ((Below.refl _ _).alloc (Nat.le_refl _) _)) (dg_one w4) 150 ql (by simp) (by omega)).mono ?_
  rintro e w5 ⟨v9, rfl, hb9, q9, d9, v9e, n9, f9⟩
  have bl5 : Below w.heap.size w w5 := (bl4.alloc (by have := s4; omega) _).trans (hb9.mono (by have := s4; simp; omega))
  obtain ⟨_, _, o9, c9, rfl, _⟩ := id d9
  have D9 := veil d9
  have V9 := veil (show dval q9 = dval a / dval b + 1 by rw [v9e, unveil VQ]; rfl)
  have N9 := veil n9
  clear hb9 d9 v9e n9 f9
  go_wp2_with fail
  refine (sign_any _ _ q9 w5 (unveil D9)).mono ?_
  rintro e w6 ⟨rfl, hbs⟩
  have bl6 : Below w.heap.size w w6 := bl5.trans (hbs.mono bl5.size)
  have BS := veil (bigR_round (na != nb) ((unveil D9).later hbs) (unveil N9) (unveil V9))
  clear hbs
  go_wp2_with fail
  refine (out_any _ _ w6 (unveil BS)).mono ?_
  rintro e w7 ⟨rfl, hbo⟩
  have bl7 : Below w.heap.size w w7 := bl6.trans (hbo.mono bl6.size)
  clear hbo
  go_wp2_with fail
  go_ret2
  exact ⟨rfl, bl7⟩

set_option maxHeartbeats 1600000 in
theorem round_half_lt (na : Bool) (nb : Bool) (oa ob : Option Addr) (ca cb : Nat) (a b : List Int) (w : World) (ha : Dg w (.slice oa a.length ca) a) (hb : Dg w (.slice ob b.length cb) b) (nrm : Norm b) (hB : 0 < dval b) (la : a.length ≤ 150) (lb : b.length ≤ 150) (hc : 2 * (dval a % dval b) < dval b)  :
    RoundSays na nb 3 false oa ob ca cb a b w := by
  have Ha := veil ha
  have Hb := veil hb
  have NB := veil nrm
  have HBP := veil hB
  have HC := veil hc
  have PM := BBox.made w na nb (.slice oa a.length ca) (.slice ob b.length cb)
  clear ha hb nrm hB hc
  unfold RoundSays
  go_enter Try.func61, Try.ntmps61
  go_wp2_with fail
  generalize ((w.alloc (.cells #[.bool na, .slice oa a.length ca] 98)).alloc (.cells #[.bool nb, .slice ob b.length cb] 98)) = W at *
  refine (over_div _ _ a b W ((unveil Ha).later PM.bel) ((unveil Hb).later PM.bel) (unveil NB) (unveil HBP) la lb).mono ?_
  rintro e w1 ⟨qo, qc, ro, rc, qs, rs, rfl, hb1, dq, nq, dr, nr, vq, vr⟩
  have P1 := PM.later hb1
  have P1' := veil P1
  obtain ⟨s1, bel1, a01, a11, b01, b11⟩ := P1
  have rl := dval_len rs dr.1 nr 150 (by rw [vr]; exact rem_len (unveil Hb).1 (unveil HBP) lb)
  have ql := dval_len qs dq.1 nq 150 (by rw [vq]; exact quo_len (unveil Ha).1 (unveil HBP) la)
  have DQ := veil dq
  have NQ := veil nq
  have DR := veil dr
  have NR := veil nr
  have VQ := veil vq
  have VR := veil vr
  clear hb1 dq nq dr nr vq vr PM
  go_wp2_with fail
  refine (plus_any _ _ rs rs w1 (unveil DR) (unveil DR) 150 rl rl (by omega)).mono ?_
  rintro e w2 ⟨v2, rfl, hb2, two, d2, v2e, n2, f2⟩
  have P2 := (unveil P1').later hb2
  have P2' := veil P2
  obtain ⟨s2, bel2, a02, a12, b02, b12⟩ := P2
  have D2 := veil d2
  have N2 := veil n2
  have DQ2 := veil ((unveil DQ).later hb2)
  have CMP1 := veil (show decide (dval b < dval two) = false by rw [v2e, unveil VR]; have := unveil HC; simp; omega)
  have CMP2 := veil (show decide (dval two < dval b) = true by rw [v2e, unveil VR]; have := unveil HC; simp; omega)
  clear hb2 d2 v2e n2 f2
  go_wp2_with fail
  refine (above_any _ _ two b w2 (unveil D2) ((unveil Hb).later (unveil P2').bel) (unveil N2) (unveil NB)).mono ?_
  rintro e w3 ⟨rfl, m3, hw3⟩
  rw [unveil CMP1]
  have P3 : BBox w w3 (.slice oa a.length ca) (.slice ob b.length cb) (.bool na) (.bool nb) := by rw [hw3]; exact (unveil P2').drewN m3
  have P3' := veil P3
  obtain ⟨s3, bel3, a03, a13, b03, b13⟩ := P3
  have D3 := veil (show Dg w3 v2 two by rw [hw3]; exact unveil D2)
  have DQ3 := veil (show Dg w3 (.slice qo qs.length qc) qs by rw [hw3]; exact unveil DQ2)
  clear hw3
  go_wp2_with fail
  refine (above_any _ _ b two w3 ((unveil Hb).later (unveil P3').bel) (unveil D3) (unveil NB) (unveil N2)).mono ?_
  rintro e w4 ⟨rfl, m4, hw4⟩
  rw [unveil CMP2]
  have P4 : BBox w w4 (.slice oa a.length ca) (.slice ob b.length cb) (.bool na) (.bool nb) := by rw [hw4]; exact (unveil P3').drewN m4
  have P4' := veil P4
  obtain ⟨s4, bel4, a04, a14, b04, b14⟩ := P4
  have D4 := veil (show Dg w4 v2 two by rw [hw4]; exact unveil D3)
  have DQ4 := veil (show Dg w4 (.slice qo qs.length qc) qs by rw [hw4]; exact unveil DQ3)
  clear hw4
  go_wp2_with fail
  refine (above_any _ _ two b w4 (unveil D4) ((unveil Hb).later (unveil P4').bel) (unveil N2) (unveil NB)).mono ?_
  rintro e w5 ⟨rfl, m5, hw5⟩
  rw [unveil CMP1]
  have P5 : BBox w w5 (.slice oa a.length ca) (.slice ob b.length cb) (.bool na) (.bool nb) := by rw [hw5]; exact (unveil P4').drewN m5
  have P5' := veil P5
  obtain ⟨s5, bel5, a05, a15, b05, b15⟩ := P5
  have D5 := veil (show Dg w5 v2 two by rw [hw5]; exact unveil D4)
  have DQ5 := veil (show Dg w5 (.slice qo qs.length qc) qs by rw [hw5]; exact unveil DQ4)
  clear hw5
  go_wp2_with fail
  have bl5 := (unveil P5').bel
  refine (sign_any _ _ qs w5 (unveil DQ5)).mono ?_
  rintro e w6 ⟨rfl, hbs⟩
  have bl6 : Below w.heap.size w w6 := bl5.trans (hbs.mono bl5.size)
  have BS := veil (bigR_round (na != nb) ((unveil DQ5).later hbs) (unveil NQ) (unveil VQ))
  clear hbs
  go_wp2_with fail
  refine (out_any _ _ w6 (unveil BS)).mono ?_
  rintro e w7 ⟨rfl, hbo⟩
  have bl7 : Below w.heap.size w w7 := bl6.trans (hbo.mono bl6.size)
  clear hbo
  go_wp2_with fail
  go_ret2
  exact ⟨rfl, bl7⟩

set_option maxHeartbeats 1600000 in
theorem round_even_gt (na : Bool) (nb : Bool) (oa ob : Option Addr) (ca cb : Nat) (a b : List Int) (w : World) (ha : Dg w (.slice oa a.length ca) a) (hb : Dg w (.slice ob b.length cb) b) (nrm : Norm b) (hB : 0 < dval b) (la : a.length ≤ 150) (lb : b.length ≤ 150) (hc : dval b < 2 * (dval a % dval b))  :
    RoundSays na nb 4 true oa ob ca cb a b w := by
  have Ha := veil ha
  have Hb := veil hb
  have NB := veil nrm
  have HBP := veil hB
  have HC := veil hc
  have PM := BBox.made w na nb (.slice oa a.length ca) (.slice ob b.length cb)
  clear ha hb nrm hB hc
  unfold RoundSays
  go_enter Try.func61, Try.ntmps61
  go_wp2_with fail
  generalize ((w.alloc (.cells #[.bool na, .slice oa a.length ca] 98)).alloc (.cells #[.bool nb, .slice ob b.length cb] 98)) = W at *
  refine (over_div _ _ a b W ((unveil Ha).later PM.bel) ((unveil Hb).later PM.bel) (unveil NB) (unveil HBP) la lb).mono ?_
  rintro e w1 ⟨qo, qc, ro, rc, qs, rs, rfl, hb1, dq, nq, dr, nr, vq, vr⟩
  have P1 := PM.later hb1
  have P1' := veil P1
  obtain ⟨s1, bel1, a01, a11, b01, b11⟩ := P1
  have rl := dval_len rs dr.1 nr 150 (by rw [vr]; exact rem_len (unveil Hb).1 (unveil HBP) lb)
  have ql := dval_len qs dq.1 nq 150 (by rw [vq]; exact quo_len (unveil Ha).1 (unveil HBP) la)
  have DQ := veil dq
  have NQ := veil nq
  have DR := veil dr
  have NR := veil nr
  have VQ := veil vq
  have VR := veil vr
  clear hb1 dq nq dr nr vq vr PM
  go_wp2_with fail
  refine (plus_any _ _ rs rs w1 (unveil DR) (unveil DR) 150 rl rl (by omega)).mono ?_
  rintro e w2 ⟨v2, rfl, hb2, two, d2, v2e, n2, f2⟩
  have P2 := (unveil P1').later hb2
  have P2' := veil P2
  obtain ⟨s2, bel2, a02, a12, b02, b12⟩ := P2
  have D2 := veil d2
  have N2 := veil n2
  have DQ2 := veil ((unveil DQ).later hb2)
  have CMP1 := veil (show decide (dval b < dval two) = true by rw [v2e, unveil VR]; have := unveil HC; simp; omega)
  have CMP2 := veil (show decide (dval two < dval b) = false by rw [v2e, unveil VR]; have := unveil HC; simp; omega)
  clear hb2 d2 v2e n2 f2
  go_wp2_with fail
  refine (above_any _ _ two b w2 (unveil D2) ((unveil Hb).later (unveil P2').bel) (unveil N2) (unveil NB)).mono ?_
  rintro e w3 ⟨rfl, m3, hw3⟩
  rw [unveil CMP1]
  have P3 : BBox w w3 (.slice oa a.length ca) (.slice ob b.length cb) (.bool na) (.bool nb) := by rw [hw3]; exact (unveil P2').drewN m3
  have P3' := veil P3
  obtain ⟨s3, bel3, a03, a13, b03, b13⟩ := P3
  have D3 := veil (show Dg w3 v2 two by rw [hw3]; exact unveil D2)
  have DQ3 := veil (show Dg w3 (.slice qo qs.length qc) qs by rw [hw3]; exact unveil DQ2)
  clear hw3
  go_wp2_with fail
  refine (above_any _ _ two b w3 (unveil D3) ((unveil Hb).later (unveil P3').bel) (unveil N2) (unveil NB)).mono ?_
  rintro e w4 ⟨rfl, m4, hw4⟩
  rw [unveil CMP1]
  have P4 : BBox w w4 (.slice oa a.length ca) (.slice ob b.length cb) (.bool na) (.bool nb) := by rw [hw4]; exact (unveil P3').drewN m4
  have P4' := veil P4
  obtain ⟨s4, bel4, a04, a14, b04, b14⟩ := P4
  have D4 := veil (show Dg w4 v2 two by rw [hw4]; exact unveil D3)
  have DQ4 := veil (show Dg w4 (.slice qo qs.length qc) qs by rw [hw4]; exact unveil DQ3)
  clear hw4
  go_wp2_with fail
  have bl4 := (unveil P4').bel
  refine (plus_any _ _ qs [1] _ ((unveil DQ4).later ((Below.refl _ _).alloc (Nat.le_refl _) _)) (dg_one w4) 150 ql (by simp) (by omega)).mono ?_
  rintro e w5 ⟨v9, rfl, hb9, q9, d9, v9e, n9, f9⟩
  have bl5 : Below w.heap.size w w5 := (bl4.alloc (by have := s4; omega) _).trans (hb9.mono (by have := s4; simp; omega))
  obtain ⟨_, _, o9, c9, rfl, _⟩ := id d9
  have D9 := veil d9
  have V9 := veil (show dval q9 = dval a / dval b + 1 by rw [v9e, unveil VQ]; rfl)
  have N9 := veil n9
  clear hb9 d9 v9e n9 f9
  go_wp2_with fail
  refine (sign_any _ _ q9 w5 (unveil D9)).mono ?_
  rintro e w6 ⟨rfl, hbs⟩
  have bl6 : Below w.heap.size w w6 := bl5.trans (hbs.mono bl5.size)
  have BS := veil (bigR_round (na != nb) ((unveil D9).later hbs) (unveil N9) (unveil V9))
  clear hbs
  go_wp2_with fail
  refine (out_any _ _ w6 (unveil BS)).mono ?_
  rintro e w7 ⟨rfl, hbo⟩
  have bl7 : Below w.heap.size w w7 := bl6.trans (hbo.mono bl6.size)
  clear hbo
  go_wp2_with fail
  go_ret2
  exact ⟨rfl, bl7⟩

set_option maxHeartbeats 1600000 in
theorem round_even_lt (na : Bool) (nb : Bool) (oa ob : Option Addr) (ca cb : Nat) (a b : List Int) (w : World) (ha : Dg w (.slice oa a.length ca) a) (hb : Dg w (.slice ob b.length cb) b) (nrm : Norm b) (hB : 0 < dval b) (la : a.length ≤ 150) (lb : b.length ≤ 150) (hc : 2 * (dval a % dval b) < dval b)  :
    RoundSays na nb 4 false oa ob ca cb a b w := by
  have Ha := veil ha
  have Hb := veil hb
  have NB := veil nrm
  have HBP := veil hB
  have HC := veil hc
  have PM := BBox.made w na nb (.slice oa a.length ca) (.slice ob b.length cb)
  clear ha hb nrm hB hc
  unfold RoundSays
  go_enter Try.func61, Try.ntmps61
  go_wp2_with fail
  generalize ((w.alloc (.cells #[.bool na, .slice oa a.length ca] 98)).alloc (.cells #[.bool nb, .slice ob b.length cb] 98)) = W at *
  refine (over_div _ _ a b W ((unveil Ha).later PM.bel) ((unveil Hb).later PM.bel) (unveil NB) (unveil HBP) la lb).mono ?_
  rintro e w1 ⟨qo, qc, ro, rc, qs, rs, rfl, hb1, dq, nq, dr, nr, vq, vr⟩
  have P1 := PM.later hb1
  have P1' := veil P1
  obtain ⟨s1, bel1, a01, a11, b01, b11⟩ := P1
  have rl := dval_len rs dr.1 nr 150 (by rw [vr]; exact rem_len (unveil Hb).1 (unveil HBP) lb)
  have ql := dval_len qs dq.1 nq 150 (by rw [vq]; exact quo_len (unveil Ha).1 (unveil HBP) la)
  have DQ := veil dq
  have NQ := veil nq
  have DR := veil dr
  have NR := veil nr
  have VQ := veil vq
  have VR := veil vr
  clear hb1 dq nq dr nr vq vr PM
  go_wp2_with fail
  refine (plus_any _ _ rs rs w1 (unveil DR) (unveil DR) 150 rl rl (by omega)).mono ?_
  rintro e w2 ⟨v2, rfl, hb2, two, d2, v2e, n2, f2⟩
  have P2 := (unveil P1').later hb2
  have P2' := veil P2
  obtain ⟨s2, bel2, a02, a12, b02, b12⟩ := P2
  have D2 := veil d2
  have N2 := veil n2
  have DQ2 := veil ((unveil DQ).later hb2)
  have CMP1 := veil (show decide (dval b < dval two) = false by rw [v2e, unveil VR]; have := unveil HC; simp; omega)
  have CMP2 := veil (show decide (dval two < dval b) = true by rw [v2e, unveil VR]; have := unveil HC; simp; omega)
  clear hb2 d2 v2e n2 f2
  go_wp2_with fail
  refine (above_any _ _ two b w2 (unveil D2) ((unveil Hb).later (unveil P2').bel) (unveil N2) (unveil NB)).mono ?_
  rintro e w3 ⟨rfl, m3, hw3⟩
  rw [unveil CMP1]
  have P3 : BBox w w3 (.slice oa a.length ca) (.slice ob b.length cb) (.bool na) (.bool nb) := by rw [hw3]; exact (unveil P2').drewN m3
  have P3' := veil P3
  obtain ⟨s3, bel3, a03, a13, b03, b13⟩ := P3
  have D3 := veil (show Dg w3 v2 two by rw [hw3]; exact unveil D2)
  have DQ3 := veil (show Dg w3 (.slice qo qs.length qc) qs by rw [hw3]; exact unveil DQ2)
  clear hw3
  go_wp2_with fail
  refine (above_any _ _ b two w3 ((unveil Hb).later (unveil P3').bel) (unveil D3) (unveil NB) (unveil N2)).mono ?_
  rintro e w4 ⟨rfl, m4, hw4⟩
  rw [unveil CMP2]
  have P4 : BBox w w4 (.slice oa a.length ca) (.slice ob b.length cb) (.bool na) (.bool nb) := by rw [hw4]; exact (unveil P3').drewN m4
  have P4' := veil P4
  obtain ⟨s4, bel4, a04, a14, b04, b14⟩ := P4
  have D4 := veil (show Dg w4 v2 two by rw [hw4]; exact unveil D3)
  have DQ4 := veil (show Dg w4 (.slice qo qs.length qc) qs by rw [hw4]; exact unveil DQ3)
  clear hw4
  go_wp2_with fail
  refine (above_any _ _ two b w4 (unveil D4) ((unveil Hb).later (unveil P4').bel) (unveil N2) (unveil NB)).mono ?_
  rintro e w5 ⟨rfl, m5, hw5⟩
  rw [unveil CMP1]
  have P5 : BBox w w5 (.slice oa a.length ca) (.slice ob b.length cb) (.bool na) (.bool nb) := by rw [hw5]; exact (unveil P4').drewN m5
  have P5' := veil P5
  obtain ⟨s5, bel5, a05, a15, b05, b15⟩ := P5
  have D5 := veil (show Dg w5 v2 two by rw [hw5]; exact unveil D4)
  have DQ5 := veil (show Dg w5 (.slice qo qs.length qc) qs by rw [hw5]; exact unveil DQ4)
  clear hw5
  go_wp2_with fail
  have bl5 := (unveil P5').bel
  refine (sign_any _ _ qs w5 (unveil DQ5)).mono ?_
  rintro e w6 ⟨rfl, hbs⟩
  have bl6 : Below w.heap.size w w6 := bl5.trans (hbs.mono bl5.size)
  have BS := veil (bigR_round (na != nb) ((unveil DQ5).later hbs) (unveil NQ) (unveil VQ))
  clear hbs
  go_wp2_with fail
  refine (out_any _ _ w6 (unveil BS)).mono ?_
  rintro e w7 ⟨rfl, hbo⟩
  have bl7 : Below w.heap.size w w7 := bl6.trans (hbo.mono bl6.size)
  clear hbo
  go_wp2_with fail
  go_ret2
  exact ⟨rfl, bl7⟩

set_option maxHeartbeats 1600000 in
theorem round_even_odd (na : Bool) (nb : Bool) (oa ob : Option Addr) (ca cb : Nat) (a b : List Int) (w : World) (ha : Dg w (.slice oa a.length ca) a) (hb : Dg w (.slice ob b.length cb) b) (nrm : Norm b) (hB : 0 < dval b) (la : a.length ≤ 150) (lb : b.length ≤ 150) (hc : 2 * (dval a % dval b) = dval b) (ho : (dval a / dval b % 2 == 1) = true) :
    RoundSays na nb 4 true oa ob ca cb a b w := by
  have Ha := veil ha
  have Hb := veil hb
  have NB := veil nrm
  have HBP := veil hB
  have HC := veil hc
  have PM := BBox.made w na nb (.slice oa a.length ca) (.slice ob b.length cb)
  clear ha hb nrm hB hc
  unfold RoundSays
  go_enter Try.func61, Try.ntmps61
  go_wp2_with fail
  generalize ((w.alloc (.cells #[.bool na, .slice oa a.length ca] 98)).alloc (.cells #[.bool nb, .slice ob b.length cb] 98)) = W at *
  refine (over_div _ _ a b W ((unveil Ha).later PM.bel) ((unveil Hb).later PM.bel) (unveil NB) (unveil HBP) la lb).mono ?_
  rintro e w1 ⟨qo, qc, ro, rc, qs, rs, rfl, hb1, dq, nq, dr, nr, vq, vr⟩
  have P1 := PM.later hb1
  have P1' := veil P1
  obtain ⟨s1, bel1, a01, a11, b01, b11⟩ := P1
  have rl := dval_len rs dr.1 nr 150 (by rw [vr]; exact rem_len (unveil Hb).1 (unveil HBP) lb)
  have ql := dval_len qs dq.1 nq 150 (by rw [vq]; exact quo_len (unveil Ha).1 (unveil HBP) la)
  have DQ := veil dq
  have NQ := veil nq
  have DR := veil dr
  have NR := veil nr
  have VQ := veil vq
  have VR := veil vr
  have ODD := veil (show ((qs.getD 0 0 % 2 == 1) = true) by have := dval_odd qs; rw [vq] at this; rw [← this]; exact ho)
  have DB0 := veil (dq.1 0)
  clear hb1 dq nq dr nr vq vr PM
  go_wp2_with fail
  refine (plus_any _ _ rs rs w1 (unveil DR) (unveil DR) 150 rl rl (by omega)).mono ?_
  rintro e w2 ⟨v2, rfl, hb2, two, d2, v2e, n2, f2⟩
  have P2 := (unveil P1').later hb2
  have P2' := veil P2
  obtain ⟨s2, bel2, a02, a12, b02, b12⟩ := P2
  have D2 := veil d2
  have N2 := veil n2
  have DQ2 := veil ((unveil DQ).later hb2)
  have CMP1 := veil (show decide (dval b < dval two) = false by rw [v2e, unveil VR]; have := unveil HC; simp; omega)
  have CMP2 := veil (show decide (dval two < dval b) = false by rw [v2e, unveil VR]; have := unveil HC; simp; omega)
  clear hb2 d2 v2e n2 f2
  go_wp2_with fail
  refine (above_any _ _ two b w2 (unveil D2) ((unveil Hb).later (unveil P2').bel) (unveil N2) (unveil NB)).mono ?_
  rintro e w3 ⟨rfl, m3, hw3⟩
  rw [unveil CMP1]
  have P3 : BBox w w3 (.slice oa a.length ca) (.slice ob b.length cb) (.bool na) (.bool nb) := by rw [hw3]; exact (unveil P2').drewN m3
  have P3' := veil P3
  obtain ⟨s3, bel3, a03, a13, b03, b13⟩ := P3
  have D3 := veil (show Dg w3 v2 two by rw [hw3]; exact unveil D2)
  have DQ3 := veil (show Dg w3 (.slice qo qs.length qc) qs by rw [hw3]; exact unveil DQ2)
  clear hw3
  go_wp2_with fail
  refine (above_any _ _ b two w3 ((unveil Hb).later (unveil P3').bel) (unveil D3) (unveil NB) (unveil N2)).mono ?_
  rintro e w4 ⟨rfl, m4, hw4⟩
  rw [unveil CMP2]
  have P4 : BBox w w4 (.slice oa a.length ca) (.slice ob b.length cb) (.bool na) (.bool nb) := by rw [hw4]; exact (unveil P3').drewN m4
  have P4' := veil P4
  obtain ⟨s4, bel4, a04, a14, b04, b14⟩ := P4
  have D4 := veil (show Dg w4 v2 two by rw [hw4]; exact unveil D3)
  have DQ4 := veil (show Dg w4 (.slice qo qs.length qc) qs by rw [hw4]; exact unveil DQ3)
  clear hw4
  go_wp2_with fail
  refine (at_keep _ qs 0 w4 (by omega) (unveil DQ4)).mono ?_
  rintro e w' ⟨rfl, rfl⟩
  generalize hd0 : qs.getD 0 0 = d0 at *
  have od := unveil ODD
  have bd := unveil DB0
  obtain ⟨bd1, bd2⟩ := bd
  have HD0 := veil hd0
  clear hd0
  go_wp2_with fail
  have bl4 := (unveil P4').bel
  refine (plus_any _ _ qs [1] _ ((unveil DQ4).later ((Below.refl _ _).alloc (Nat.le_refl _) _)) (dg_one w4) 150 ql (by simp) (by omega)).mono ?_
  rintro e w5 ⟨v9, rfl, hb9, q9, d9, v9e, n9, f9⟩
  have bl5 : Below w.heap.size w w5 := (bl4.alloc (by have := s4; omega) _).trans (hb9.mono (by have := s4; simp; omega))
  obtain ⟨_, _, o9, c9, rfl, _⟩ := id d9
  have D9 := veil d9
  have V9 := veil (show dval q9 = dval a / dval b + 1 by rw [v9e, unveil VQ]; rfl)
  have N9 := veil n9
  clear hb9 d9 v9e n9 f9
  go_wp2_with fail
  refine (sign_any _ _ q9 w5 (unveil D9)).mono ?_
  rintro e w6 ⟨rfl, hbs⟩
  have bl6 : Below w.heap.size w w6 := bl5.trans (hbs.mono bl5.size)
  have BS := veil (bigR_round (na != nb) ((unveil D9).later hbs) (unveil N9) (unveil V9))
  clear hbs
  go_wp2_with fail
  refine (out_any _ _ w6 (unveil BS)).mono ?_
  rintro e w7 ⟨rfl, hbo⟩
  have bl7 : Below w.heap.size w w7 := bl6.trans (hbo.mono bl6.size)
  clear hbo
  go_wp2_with fail
  go_ret2
  exact ⟨rfl, bl7⟩

set_option maxHeartbeats 1600000 in
theorem round_even_even (na : Bool) (nb : Bool) (oa ob : Option Addr) (ca cb : Nat) (a b : List Int) (w : World) (ha : Dg w (.slice oa a.length ca) a) (hb : Dg w (.slice ob b.length cb) b) (nrm : Norm b) (hB : 0 < dval b) (la : a.length ≤ 150) (lb : b.length ≤ 150) (hc : 2 * (dval a % dval b) = dval b) (ho : (dval a / dval b % 2 == 1) = false) :
    RoundSays na nb 4 false oa ob ca cb a b w := by
  have Ha := veil ha
  have Hb := veil hb
  have NB := veil nrm
  have HBP := veil hB
  have HC := veil hc
  have PM := BBox.made w na nb (.slice oa a.length ca) (.slice ob b.length cb)
  clear ha hb nrm hB hc
  unfold RoundSays
  go_enter Try.func61, Try.ntmps61
  go_wp2_with fail
  generalize ((w.alloc (.cells #[.bool na, .slice oa a.length ca] 98)).alloc (.cells #[.bool nb, .slice ob b.length cb] 98)) = W at *
  refine (over_div _ _ a b W ((unveil Ha).later PM.bel) ((unveil Hb).later PM.bel) (unveil NB) (unveil HBP) la lb).mono ?_
  rintro e w1 ⟨qo, qc, ro, rc, qs, rs, rfl, hb1, dq, nq, dr, nr, vq, vr⟩
  have P1 := PM.later hb1
  have P1' := veil P1
  obtain ⟨s1, bel1, a01, a11, b01, b11⟩ := P1
  have rl := dval_len rs dr.1 nr 150 (by rw [vr]; exact rem_len (unveil Hb).1 (unveil HBP) lb)
  have ql := dval_len qs dq.1 nq 150 (by rw [vq]; exact quo_len (unveil Ha).1 (unveil HBP) la)
  have DQ := veil dq
  have NQ := veil nq
  have DR := veil dr
  have NR := veil nr
  have VQ := veil vq
  have VR := veil vr
  have ODD := veil (show ((qs.getD 0 0 % 2 == 1) = false) by have := dval_odd qs; rw [vq] at this; rw [← this]; exact ho)
  have DB0 := veil (dq.1 0)
  clear hb1 dq nq dr nr vq vr PM
  go_wp2_with fail
  refine (plus_any _ _ rs rs w1 (unveil DR) (unveil DR) 150 rl rl (by omega)).mono ?_
  rintro e w2 ⟨v2, rfl, hb2, two, d2, v2e, n2, f2⟩
  have P2 := (unveil P1').later hb2
  have P2' := veil P2
  obtain ⟨s2, bel2, a02, a12, b02, b12⟩ := P2
  have D2 := veil d2
  have N2 := veil n2
  have DQ2 := veil ((unveil DQ).later hb2)
  have CMP1 := veil (show decide (dval b < dval two) = false by rw [v2e, unveil VR]; have := unveil HC; simp; omega)
  have CMP2 := veil (show decide (dval two < dval b) = false by rw [v2e, unveil VR]; have := unveil HC; simp; omega)
  clear hb2 d2 v2e n2 f2
  go_wp2_with fail
  refine (above_any _ _ two b w2 (unveil D2) ((unveil Hb).later (unveil P2').bel) (unveil N2) (unveil NB)).mono ?_
  rintro e w3 ⟨rfl, m3, hw3⟩
  rw [unveil CMP1]
  have P3 : BBox w w3 (.slice oa a.length ca) (.slice ob b.length cb) (.bool na) (.bool nb) := by rw [hw3]; exact (unveil P2').drewN m3
  have P3' := veil P3
  obtain ⟨s3, bel3, a03, a13, b03, b13⟩ := P3
  have D3 := veil (show Dg w3 v2 two by rw [hw3]; exact unveil D2)
  have DQ3 := veil (show Dg w3 (.slice qo qs.length qc) qs by rw [hw3]; exact unveil DQ2)
  clear hw3
  go_wp2_with fail
  refine (above_any _ _ b two w3 ((unveil Hb).later (unveil P3').bel) (unveil D3) (unveil NB) (unveil N2)).mono ?_
  rintro e w4 ⟨rfl, m4, hw4⟩
  rw [unveil CMP2]
  have P4 : BBox w w4 (.slice oa a.length ca) (.slice ob b.length cb) (.bool na) (.bool nb) := by rw [hw4]; exact (unveil P3').drewN m4
  have P4' := veil P4
  obtain ⟨s4, bel4, a04, a14, b04, b14⟩ := P4
  have D4 := veil (show Dg w4 v2 two by rw [hw4]; exact unveil D3)
  have DQ4 := veil (show Dg w4 (.slice qo qs.length qc) qs by rw [hw4]; exact unveil DQ3)
  clear hw4
  go_wp2_with fail
  refine (at_keep _ qs 0 w4 (by omega) (unveil DQ4)).mono ?_
  rintro e w' ⟨rfl, rfl⟩
  generalize hd0 : qs.getD 0 0 = d0 at *
  have od := unveil ODD
  have bd := unveil DB0
  obtain ⟨bd1, bd2⟩ := bd
  have HD0 := veil hd0
  clear hd0
  go_wp2_with fail
  refine (above_any _ _ two b w4 (unveil D4) ((unveil Hb).later (unveil P4').bel) (unveil N2) (unveil NB)).mono ?_
  rintro e w5 ⟨rfl, m5, hw5⟩
  rw [unveil CMP1]
  have P5 : BBox w w5 (.slice oa a.length ca) (.slice ob b.length cb) (.bool na) (.bool nb) := by rw [hw5]; exact (unveil P4').drewN m5
  have P5' := veil P5
  obtain ⟨s5, bel5, a05, a15, b05, b15⟩ := P5
  have D5 := veil (show Dg w5 v2 two by rw [hw5]; exact unveil D4)
  have DQ5 := veil (show Dg w5 (.slice qo qs.length qc) qs by rw [hw5]; exact unveil DQ4)
  clear hw5
  go_wp2_with fail
  have bl5 := (unveil P5').bel
  refine (sign_any _ _ qs w5 (unveil DQ5)).mono ?_
  rintro e w6 ⟨rfl, hbs⟩
  have bl6 : Below w.heap.size w w6 := bl5.trans (hbs.mono bl5.size)
  have BS := veil (bigR_round (na != nb) ((unveil DQ5).later hbs) (unveil NQ) (unveil VQ))
  clear hbs
  go_wp2_with fail
  refine (out_any _ _ w6 (unveil BS)).mono ?_
  rintro e w7 ⟨rfl, hbo⟩
  have bl7 : Below w.heap.size w w7 := bl6.trans (hbo.mono bl6.size)
  clear hbo
  go_wp2_with fail
  go_ret2
  exact ⟨rfl, bl7⟩

end Go.Proofs.Ytjlnbhmiahegmaa

namespace Go.Proofs.Ytjlnbhmiahegmaa
open Go.RowKit
set_option maxRecDepth 100000
set_option linter.unusedVariables false

theorem round_all (na nb : Bool) (mode : Int) (oa ob : Option Addr) (ca cb : Nat) (a b : List Int) (w : World) (ha : Dg w (.slice oa a.length ca) a) (hb : Dg w (.slice ob b.length cb) b) (nrm : Norm b) (hB : 0 < dval b) (la : a.length ≤ 150) (lb : b.length ≤ 150) :
    RoundSays na nb mode (away mode (na != nb) (dval a / dval b) (dval a % dval b) (dval b)) oa ob ca cb a b w := by
  have h0 := Int.emod_nonneg (dval a) (show dval b ≠ 0 by omega)
  by_cases h1 : mode = 1
  · subst h1
    by_cases hr : dval a % dval b = 0
    · have e : away 1 (na != nb) (dval a / dval b) (dval a % dval b) (dval b) = false := by simp [away, hr]
      rw [e]
      by_cases hs : nb = na
      · subst hs; exact round_floor_no_lt nb oa ob ca cb a b w ha hb nrm hB la lb (by omega)
      · obtain rfl : nb = !na := by cases na <;> cases nb <;> simp_all
        exact round_floor_zero na oa ob ca cb a b w ha hb nrm hB la lb (by omega) hr
    · by_cases hs : nb = na
      · subst hs
        have e : away 1 (nb != nb) (dval a / dval b) (dval a % dval b) (dval b) = false := by simp [away]
        rw [e]
        rcases Int.lt_trichotomy (2 * (dval a % dval b)) (dval b) with hc | hc | hc
        · exact round_floor_no_lt nb oa ob ca cb a b w ha hb nrm hB la lb hc
        · exact round_floor_no_eq nb oa ob ca cb a b w ha hb nrm hB la lb hc
        · exact round_floor_no_gt nb oa ob ca cb a b w ha hb nrm hB la lb hc
      · obtain rfl : nb = !na := by cases na <;> cases nb <;> simp_all
        have e : away 1 (na != !na) (dval a / dval b) (dval a % dval b) (dval b) = true := by simp [away, hr]
        rw [e]
        rcases Int.lt_trichotomy (2 * (dval a % dval b)) (dval b) with hc | hc | hc
        · exact round_floor_yes_lt na oa ob ca cb a b w ha hb nrm hB la lb hc (by omega)
        · exact round_floor_yes_eq na oa ob ca cb a b w ha hb nrm hB la lb hc (by omega)
        · exact round_floor_yes_gt na oa ob ca cb a b w ha hb nrm hB la lb hc (by omega)
  by_cases h2 : mode = 2
  · subst h2
    by_cases hr : dval a % dval b = 0
    · have e : away 2 (na != nb) (dval a / dval b) (dval a % dval b) (dval b) = false := by simp [away, hr]
      rw [e]
      by_cases hs : nb = na
      · subst hs; exact round_ceil_zero nb oa ob ca cb a b w ha hb nrm hB la lb (by omega) hr
      · obtain rfl : nb = !na := by cases na <;> cases nb <;> simp_all
        exact round_ceil_no_lt na oa ob ca cb a b w ha hb nrm hB la lb (by omega)
    · by_cases hs : nb = na
      · subst hs
        have e : away 2 (nb != nb) (dval a / dval b) (dval a % dval b) (dval b) = true := by simp [away, hr]
        rw [e]
        rcases Int.lt_trichotomy (2 * (dval a % dval b)) (dval b) with hc | hc | hc
        · exact round_ceil_yes_lt nb oa ob ca cb a b w ha hb nrm hB la lb hc (by omega)
        · exact round_ceil_yes_eq nb oa ob ca cb a b w ha hb nrm hB la lb hc (by omega)
        · exact round_ceil_yes_gt nb oa ob ca cb a b w ha hb nrm hB la lb hc (by omega)
      · obtain rfl : nb = !na := by cases na <;> cases nb <;> simp_all
        have e : away 2 (na != !na) (dval a / dval b) (dval a % dval b) (dval b) = false := by simp [away]
        rw [e]
        rcases Int.lt_trichotomy (2 * (dval a % dval b)) (dval b) with hc | hc | hc
        · exact round_ceil_no_lt na oa ob ca cb a b w ha hb nrm hB la lb hc
        · exact round_ceil_no_eq na oa ob ca cb a b w ha hb nrm hB la lb hc
        · exact round_ceil_no_gt na oa ob ca cb a b w ha hb nrm hB la lb hc
  by_cases h3 : mode = 3
  · subst h3
    rcases Int.lt_trichotomy (2 * (dval a % dval b)) (dval b) with hc | hc | hc
    · have e : away 3 (na != nb) (dval a / dval b) (dval a % dval b) (dval b) = false := by simp [away]; omega
      rw [e]; exact round_half_lt na nb oa ob ca cb a b w ha hb nrm hB la lb hc
    · have e : away 3 (na != nb) (dval a / dval b) (dval a % dval b) (dval b) = true := by simp [away]; omega
      rw [e]; exact round_half_eq na nb oa ob ca cb a b w ha hb nrm hB la lb hc
    · have e : away 3 (na != nb) (dval a / dval b) (dval a % dval b) (dval b) = true := by simp [away]; omega
      rw [e]; exact round_half_gt na nb oa ob ca cb a b w ha hb nrm hB la lb hc
  by_cases h4 : mode = 4
  · subst h4
    rcases Int.lt_trichotomy (2 * (dval a % dval b)) (dval b) with hc | hc | hc
    · have e : away 4 (na != nb) (dval a / dval b) (dval a % dval b) (dval b) = false := by
        unfold away
        by_cases hr : dval a % dval b = 0
        · simp [hr]
        · rw [if_neg hr, if_neg (by omega), if_neg (by omega), if_pos rfl, if_neg (by omega)]; simp; omega
      rw [e]; exact round_even_lt na nb oa ob ca cb a b w ha hb nrm hB la lb hc
    · have e : away 4 (na != nb) (dval a / dval b) (dval a % dval b) (dval b) = (dval a / dval b % 2 == 1) := by
        unfold away
        rw [if_neg (by omega), if_neg (by omega), if_neg (by omega), if_pos rfl, if_pos (by omega)]
      rw [e]
      cases ho : (dval a / dval b % 2 == 1)
      · exact round_even_even na nb oa ob ca cb a b w ha hb nrm hB la lb hc ho
      · exact round_even_odd na nb oa ob ca cb a b w ha hb nrm hB la lb hc ho
    · have e : away 4 (na != nb) (dval a / dval b) (dval a % dval b) (dval b) = true := by
        unfold away
        rw [if_neg (by omega), if_neg (by omega), if_neg (by omega), if_pos rfl, if_neg (by omega)]; simp; omega
      rw [e]; exact round_even_gt na nb oa ob ca cb a b w ha hb nrm hB la lb hc
  have e : away mode (na != nb) (dval a / dval b) (dval a % dval b) (dval b) = false := by simp [away, h1, h2, h3, h4]
  rw [e]
  rcases Int.lt_trichotomy (2 * (dval a % dval b)) (dval b) with hc | hc | hc
  · exact round_down_lt na nb mode h1 h2 h3 h4 oa ob ca cb a b w ha hb nrm hB la lb hc
  · exact round_down_eq na nb mode h1 h2 h3 h4 oa ob ca cb a b w ha hb nrm hB la lb hc
  · exact round_down_gt na nb mode h1 h2 h3 h4 oa ob ca cb a b w ha hb nrm hB la lb hc

/-- The rounded fraction of two whole numbers. -/
def rndN (p q mode : Int) : Int := sgn (decide (p < 0) != decide (q < 0)) (absI p / absI q + if away mode (decide (p < 0) != decide (q < 0)) (absI p / absI q) (absI p % absI q) (absI q) then 1 else 0)

theorem round_any (x y : Value) (p q mode : Int) (w : World) (hx : BigR w x p) (hy : BigR w y q) (bp : absI p < ten 150) (bq : absI q < ten 150) (hq : ¬ q = 0) :
    Calls Try.prog 61 #[x, y, .int .i64 mode] w fun e w' => e = .returned (.tuple #[.int .i64 (fitV (rndN p q mode)), .int .i64 (fitF (rndN p q mode))]) ∧ Below w.heap.size w w' := by
  obtain ⟨o1, rfl, a, da, na, va⟩ := hx
  obtain ⟨o2, rfl, b, db, nb, vb⟩ := hy
  obtain ⟨_, _, oa, ca, rfl, _⟩ := id da
  obtain ⟨_, _, ob, cb, rfl, _⟩ := id db
  have la := norm_len da.1 na (k := 150) (by omega)
  have lb := norm_len db.1 nb (k := 150) (by omega)
  have h := round_all (decide (p < 0)) (decide (q < 0)) mode oa ob ca cb a b w da db nb (by rw [vb]; exact absI_zero hq) la lb
  unfold RoundSays at h
  rw [va, vb] at h
  exact h

theorem ten150 (z : Int) (h : absI z < ten 100) : absI z < ten 150 := by
  have := ten_le (show 100 ≤ 150 by omega)
  omega
theorem ten38 (a b : Int) (ha : inR a) (hb : inR b) : absI (a * b) < ten 150 := by
  rw [absI_mul]
  obtain ⟨a1, a2⟩ := absI_bd a ha
  obtain ⟨b1, b2⟩ := absI_bd b hb
  have m1 := Int.mul_le_mul_of_nonneg_right a2 b1
  have h2 := ten_le (show 38 ≤ 150 by omega)
  rw [show ten 38 = 100000000000000000000000000000000000000 by decide] at h2
  omega

/-- Ratio's fraction is the rounded one. -/
theorem ratN_rnd (a b c mode : Int) : rndN (a * b) c mode = ratN a b c mode := by
  unfold rndN ratN rq rr rneg
  rw [absI_mul]
  by_cases h : a * b = 0
  · have h1 : absI a * absI b = 0 := by rw [← absI_mul, h]; rfl
    rw [h1]; simp [away, sgn]
  · rw [← sign_mul a b h]; rfl

theorem refRatio_any (a b c mode : Int) (ha : inR a) (hb : inR b) (hc : inR c) (h0 : ¬ c = 0) (w : World) :
    Calls Try.prog 45 #[.int .i64 a, .int .i64 b, .int .i64 c, .int .i64 mode] w fun e w' => e = .returned (.tuple #[.int .i64 (fitV (ratN a b c mode)), .int .i64 (fitF (ratN a b c mode))]) ∧ Below w.heap.size w w' := by
  have e0 : (c == 0) = false := by simp [h0]
  rw [← ratN_rnd]
  go_enter Try.func45, Try.ntmps45
  go_wp2_with fail
  refine (from_any a ha _).mono ?_
  rintro e w1 ⟨x, rfl, hb1, hx⟩
  go_wp2_with fail
  refine (from_any b hb _).mono ?_
  rintro e w2 ⟨y, rfl, hb2, hy⟩
  go_wp2_with fail
  refine (timesB_any _ _ a b w2 (hx.later hb2) hy (ten100' a ha) (ten100' b hb)).mono ?_
  rintro e w3 ⟨z, rfl, hb3, hz⟩
  go_wp2_with fail
  refine (from_any c hc _).mono ?_
  rintro e w4 ⟨u, rfl, hb4, hu⟩
  go_wp2_with fail
  refine (round_any _ _ (a * b) c mode w4 (hz.later hb4) hu (ten38 a b ha hb) (ten150 c (ten100' c hc)) h0).mono ?_
  rintro e w5 ⟨rfl, hb5⟩
  go_wp2_with fail
  go_ret2
  exact ⟨rfl, chain (chain (chain (chain hb1 (Nat.le_refl _) hb2) (Nat.le_refl _) hb3) (Nat.le_refl _) hb4) (Nat.le_refl _) hb5⟩

theorem refRatio_zero (a b mode : Int) (w : World) :
    Calls Try.prog 45 #[.int .i64 a, .int .i64 b, .int .i64 0, .int .i64 mode] w fun e w' => e = .returned (.tuple #[.int .i64 0, .int .i64 2]) ∧ w' = w := by
  go_enter Try.func45, Try.ntmps45
  go_wp2
  go_ret2
  exact ⟨rfl, rfl⟩

end Go.Proofs.Ytjlnbhmiahegmaa

namespace Go.Proofs.Ytjlnbhmiahegmaa
open Go.RowKit
set_option maxRecDepth 100000
set_option linter.unusedVariables false

theorem tdiv_sgn (a b : Int) : sgn (decide (a < 0) != decide (b < 0)) (absI a / absI b) = a.tdiv b := by
  by_cases h1 : a < 0
  · rw [absI_neg h1]
    have ea : a.tdiv b = -((-a).tdiv b) := by rw [← Int.neg_tdiv, Int.neg_neg]
    by_cases h2 : b < 0
    · rw [absI_neg h2, ea]
      have eb : (-a).tdiv b = -((-a).tdiv (-b)) := by rw [Int.tdiv_neg, Int.neg_neg]
      rw [eb, Int.neg_neg, Int.tdiv_eq_ediv_of_nonneg (by omega)]
      simp [sgn, h1, h2]
    · rw [absI_pos h2, ea, Int.tdiv_eq_ediv_of_nonneg (by omega)]
      simp [sgn, h1, h2]
  · rw [absI_pos h1]
    by_cases h2 : b < 0
    · rw [absI_neg h2]
      have eb : a.tdiv b = -(a.tdiv (-b)) := by rw [Int.tdiv_neg, Int.neg_neg]
      rw [eb, Int.tdiv_eq_ediv_of_nonneg (by omega)]
      simp [sgn, h1, h2]
    · rw [absI_pos h2, Int.tdiv_eq_ediv_of_nonneg (by omega)]
      simp [sgn, h1, h2]
theorem tmod_sgn (a b : Int) : sgn (decide (a < 0)) (absI a % absI b) = a.tmod b := by
  have key : ∀ p : Int, 0 ≤ p → p % absI b = p.tmod b := fun p hp => by
    by_cases h2 : b < 0
    · rw [absI_neg h2, ← Int.tmod_neg, Int.tmod_eq_emod_of_nonneg hp]
    · rw [absI_pos h2, Int.tmod_eq_emod_of_nonneg hp]
  by_cases h1 : a < 0
  · have ea : a.tmod b = -((-a).tmod b) := by rw [← Int.neg_tmod, Int.neg_neg]
    rw [absI_neg h1, key _ (by omega), ea]
    simp [sgn, h1]
  · rw [absI_pos h1, key _ (by omega)]
    simp [sgn, h1]
theorem rndN_down (a b : Int) : rndN a b 0 = a.tdiv b := by
  rw [← tdiv_sgn]
  unfold rndN
  simp [away]

theorem refDiv_any (a b : Int) (ha : inR a) (hb : inR b) (w : World) :
    Calls Try.prog 43 #[.int .i64 a, .int .i64 b] w fun e w' => e = .returned (.tuple #[.int .i64 (divV a b), .int .i64 (divF a b)]) ∧ Below w.heap.size w w' := by
  unfold divV divF
  by_cases h0 : b = 0
  · rw [if_pos h0, if_pos h0]
    subst h0
    go_enter Try.func43, Try.ntmps43
    go_wp2
    go_ret2
    exact ⟨rfl, Below.refl _ _⟩
  · rw [if_neg h0, if_neg h0, ← rndN_down]
    have e0 : (b == 0) = false := by simp [h0]
    go_enter Try.func43, Try.ntmps43
    go_wp2_with fail
    refine (from_any a ha _).mono ?_
    rintro e w1 ⟨x, rfl, hb1, hx⟩
    go_wp2_with fail
    refine (from_any b hb _).mono ?_
    rintro e w2 ⟨y, rfl, hb2, hy⟩
    go_wp2_with fail
    refine (round_any _ _ a b 0 w2 (hx.later hb2) hy (ten150 a (ten100' a ha)) (ten150 b (ten100' b hb)) h0).mono ?_
    rintro e w3 ⟨rfl, hb3⟩
    go_wp2_with fail
    go_ret2
    exact ⟨rfl, chain (chain hb1 (Nat.le_refl _) hb2) (Nat.le_refl _) hb3⟩

set_option maxHeartbeats 1600000 in
theorem refMod_main (a b : Int) (ha : inR a) (hb : inR b) (h0 : ¬ b = 0) (w : World) :
    Calls Try.prog 44 #[.int .i64 a, .int .i64 b] w fun e w' => e = .returned (.tuple #[.int .i64 (fitV (a.tmod b)), .int .i64 (fitF (a.tmod b))]) ∧ Below w.heap.size w w' := by
  have e0 : (b == 0) = false := by simp [h0]
  have hfD := field_D
  have H0 := veil h0
  rw [← tmod_sgn]
  clear h0
  go_enter Try.func44, Try.ntmps44
  go_wp2_with fail
  refine (from_any a ha _).mono ?_
  rintro e w1 ⟨x, rfl, hb1, o, rfl, ds, hd, hn, hv⟩
  obtain ⟨_, _, oa, ca, rfl, _⟩ := id hd
  have Hd := veil hd
  have HV := veil hv
  have la := norm_len hd.1 hn (k := 100) (by rw [hv]; exact ten100' a ha)
  clear hd hv
  generalize hneg : decide (a < 0) = neg at *
  have HNG := veil hneg
  clear hneg
  go_wp2_with fail
  have c0 : (w1.alloc (.cells #[.bool neg, .slice oa ds.length ca] 98)).cell? ⟨w1.heap.size, 0, none⟩ = some (.bool neg) := by simp
  have c1 : (w1.alloc (.cells #[.bool neg, .slice oa ds.length ca] 98)).cell? ⟨w1.heap.size, 1, none⟩ = some (.slice oa ds.length ca) := by simp
  have bW : Below w1.heap.size w1 (w1.alloc (.cells #[.bool neg, .slice oa ds.length ca] 98)) := (Below.refl _ _).alloc (Nat.le_refl _) _
  have sW : w1.heap.size < (w1.alloc (.cells #[.bool neg, .slice oa ds.length ca] 98)).heap.size := by simp
  generalize (w1.alloc (.cells #[.bool neg, .slice oa ds.length ca] 98)) = W at *
  have FB := veil (from_any b hb W.drew)
  have BW := veil bW
  have HB1 := veil hb1
  clear bW hb1
  go_region_held3 (fun w' => w'.cell? ⟨w1.heap.size, 0, none⟩ = some (.bool neg) ∧ w'.cell? ⟨w1.heap.size, 1, none⟩ = some (.slice oa ds.length ca)) (refine ⟨?_, ?_⟩ <;> first | assumption | (simp [*]; done)) (first | (go_at_call 58; refine (unveil FB).mono ?_; rintro e w3 ⟨x3, rfl, hb3, o3, rfl, ds3, d3, n3, v3⟩; obtain ⟨_, _, o3, c3, rfl, _⟩ := id d3; have f0 : w3.cell? ⟨w1.heap.size, 0, none⟩ = some (.bool neg) := (hb3.cell (p := ⟨w1.heap.size, 0, none⟩) sW).trans c0; have f1 : w3.cell? ⟨w1.heap.size, 1, none⟩ = some (.slice oa ds.length ca) := (hb3.cell (p := ⟨w1.heap.size, 1, none⟩) sW).trans c1; have B3 := veil (show Below w1.heap.size w1 w3 from (unveil BW).drew.trans (hb3.mono (Nat.le_of_lt sW))); have s3 : w1.heap.size < w3.heap.size := Nat.lt_of_lt_of_le sW hb3.size; have D3 := veil d3; have V3 := veil v3; have N3 := veil n3; clear hb3 d3 v3 n3) | (go_at_call 62; refine (over_div _ _ ds ds3 w3 ((unveil Hd).later (unveil B3)) (unveil D3) (unveil N3) (by rw [unveil V3]; exact absI_zero (unveil H0)) (by omega) (by have := norm_len (unveil D3).1 (unveil N3) (k := 100) (by rw [unveil V3]; exact ten100' b hb); omega)).mono ?_; rintro e w4 ⟨qo, qc, ro, rc, qs, rs, rfl, hb4, dq, nq, dr, nr, vq, vr⟩; have g0 : w4.cell? ⟨w1.heap.size, 0, none⟩ = some (.bool neg) := (hb4.cell (p := ⟨w1.heap.size, 0, none⟩) s3).trans f0; have g1 : w4.cell? ⟨w1.heap.size, 1, none⟩ = some (.slice oa ds.length ca) := (hb4.cell (p := ⟨w1.heap.size, 1, none⟩) s3).trans f1; have B4 := veil ((unveil B3).trans (hb4.mono (Nat.le_of_lt s3))); have DR := veil dr; have NR := veil nr; have VR := veil vr; clear hb4 dq nq dr nr vq vr))
  all_goals go_wp2_with fail
  all_goals
    refine (sign_any _ _ rs w4 (unveil DR)).mono ?_
    rintro e w5 ⟨rfl, hb5⟩
    have BS := veil (bigR_round neg ((unveil DR).later hb5) (unveil NR) (show dval rs = absI a % absI b by rw [unveil VR, unveil HV, unveil V3]))
    have B5 := veil (chain (chain (unveil HB1) (Nat.le_refl _) (unveil B4)) (Nat.le_refl _) hb5)
    clear hb5
    go_wp2_with fail
    refine (out_any _ _ w5 (unveil BS)).mono ?_
    rintro e w6 ⟨rfl, hb6⟩
    have B6 := veil (chain (unveil B5) (Nat.le_refl _) hb6)
    clear hb6
    go_wp2_with fail
    go_ret2
    exact ⟨ret_ii (by rw [unveil HNG]) (by rw [unveil HNG]), unveil B6⟩

theorem refMod_any (a b : Int) (ha : inR a) (hb : inR b) (w : World) :
    Calls Try.prog 44 #[.int .i64 a, .int .i64 b] w fun e w' => e = .returned (.tuple #[.int .i64 (modV a b), .int .i64 (modF b)]) ∧ Below w.heap.size w w' := by
  unfold modV modF
  by_cases h0 : b = 0
  · rw [if_pos h0, if_pos h0]
    subst h0
    go_enter Try.func44, Try.ntmps44
    go_wp2
    go_ret2
    exact ⟨rfl, Below.refl _ _⟩
  · rw [if_neg h0, if_neg h0]
    have h := refMod_main a b ha hb h0 w
    have hi := tmod_in a b ha
    rw [fitV_in hi, fitF_in hi] at h
    exact h

end Go.Proofs.Ytjlnbhmiahegmaa
