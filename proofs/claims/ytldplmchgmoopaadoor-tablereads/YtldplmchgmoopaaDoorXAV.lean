import Derived.Test.YtldplmchgmoopaaDoorXAB
namespace Go.Proofs.YtldplmchgmoopaaDoor
open Go.RowKit
set_option linter.unusedVariables false

theorem sign_any (neg : Bool) (v : Value) (ds : List Int) (w : World) (hd : Dg w v ds) :
    Calls Tryd.prog 39 #[.bool neg, v] w fun e w' => e = .returned (.agg #[.bool (neg && decide (0 < ds.length)), v]) ∧ Below w.heap.size w w' := by
  obtain ⟨_, _, ao, cap, rfl, _⟩ := hd
  cases neg
  · go_enter Tryd.func39, Tryd.ntmps39
    go_wp2
    refine bodyPost_ret (v := .agg #[.bool false, .slice ao ds.length cap]) (by simp [results, Tryd.results39, go_sem]) rfl ?_
    exact ⟨rfl, (Below.refl _ _).alloc (Nat.le_refl _) _⟩
  · generalize hl : decide (0 < ds.length) = b
    cases b
    · have h0 : ds.length = 0 := by simpa using hl
      rw [h0]
      clear hl h0
      go_enter Tryd.func39, Tryd.ntmps39
      go_wp2
      refine bodyPost_ret (v := .agg #[.bool false, .slice ao 0 cap]) (by simp [results, Tryd.results39, go_sem]) rfl ?_
      exact ⟨rfl, (Below.refl _ _).alloc (Nat.le_refl _) _⟩
    · have h0 : 0 < ds.length := by simpa using hl
      clear hl
      generalize ds.length = n at *
      go_enter Tryd.func39, Tryd.ntmps39
      go_wp2
      refine bodyPost_ret (v := .agg #[.bool true, .slice ao n cap]) (by simp [results, Tryd.results39, go_sem]) rfl ?_
      exact ⟨rfl, (Below.refl _ _).alloc (Nat.le_refl _) _⟩

/-- Signed digits are a whole number. -/
theorem bigR_sign {w : World} {v : Value} {ds : List Int} {z : Int} {neg : Bool} (hd : Dg w v ds) (hn : Norm ds) (hv : dval ds = absI z) (hs : ¬ z = 0 → neg = decide (z < 0)) :
    BigR w (.agg #[.bool (neg && decide (0 < ds.length)), v]) z := by
  refine ⟨v, ?_, ds, hd, hn, hv⟩
  have h0 := norm_zero hd.1 hn
  by_cases hz : z = 0
  · have h1 : ds.length = 0 := h0.1 (by rw [hv, hz]; rfl)
    rw [h1, hz]; simp
  · have h1 : 0 < ds.length := by
      refine Nat.pos_of_ne_zero fun hc => hz ?_
      have := h0.2 hc
      rw [hv] at this
      unfold absI at this; split at this <;> omega
    rw [decide_eq_true h1, hs hz]; simp

/-- The top digits, turned to a number below 0. -/
theorem out_step (ds : List Int) (m : Nat) (hm : m < ds.length) : - dval (ds.drop (m + 1)) * 10 - ds.getD m 0 = - dval (ds.drop m) := by
  rw [List.drop_eq_getElem_cons hm, dval]
  have : ds.getD m 0 = ds[m] := by simp [hm]
  rw [this]; omega
theorem out_top (ds : List Int) (h : Digs ds) (m : Nat) (hm : m ≤ ds.length) : 0 ≤ dval (ds.drop m) ∧ dval (ds.drop m) ≤ dval ds := by
  have e := dval_split ds m hm
  have h1 := dval_bd _ (digs_take h m)
  have h3 : Digs (ds.drop m) := fun i => by
    have := h (m + i)
    simp only [List.getD_eq_getElem?_getD, List.getElem?_drop] at *
    exact this
  have h2 := dval_bd _ h3
  have h4 := ten_pos m
  have h5 := Int.mul_le_mul_of_nonneg_right (show 1 ≤ ten m by omega) h2.1
  omega

theorem kept2 {w w1 : World} {X : Obj} (hb : Below (w.heap.size + 1) (w.alloc X) w1) : (∀ j, w1.cell? ⟨w.heap.size, j, none⟩ = (w.alloc X).cell? ⟨w.heap.size, j, none⟩) ∧ Below w.heap.size w w1 :=
  ⟨fun j => hb.cell (p := ⟨w.heap.size, j, none⟩) (by simp), ((Below.refl _ _).alloc (Nat.le_refl _) _).trans (hb.mono (by omega))⟩

/-! ### Out -/
theorem field_D (b : Bool) (ao : Option Addr) (n cap : Nat) (w : World) : (Instr.field 85 (.agg #[.bool b, .slice ao n cap]) 1).run Tryd.prog w = .ok (.slice ao n cap) w := by kernel_rfl
theorem chain {B : Nat} {a b c : World} (h1 : Below B a b) (hB : B ≤ a.heap.size) (h2 : Below b.heap.size b c) : Below B a c := h1.trans (h2.mono (Nat.le_trans hB h1.size))
set_option maxHeartbeats 800000 in
theorem out_big (neg : Bool) (ao : Option Addr) (n cap : Nat) (ds : List Int) (w : World) (hd : Dg w (.slice ao n cap) ds) (hl : ds.length = n) (hn : Norm ds) (hv : 9223372036854775808 < dval ds) :
    Calls Tryd.prog 38 #[.agg #[.bool neg, .slice ao n cap]] w fun e w' => e = .returned (.tuple #[.int .i64 0, .int .i64 1]) ∧ Below w.heap.size w w' := by
  have hfD := field_D
  have hn1000 : n ≤ 1000 := by have := hd.2.1; omega
  go_enter Tryd.func38, Tryd.ntmps38
  go_wp2_with fail
  refine (from_any 4611686018427387904 (by unfold inR; omega) _).mono ?_
  rintro e w1 ⟨x1, rfl, hb1, o1, rfl, ds1, d1, n1, v1⟩
  obtain ⟨_, _, ao1, cap1, rfl, _⟩ := id d1
  go_wp2_with fail
  refine (from_any 4611686018427387904 (by unfold inR; omega) _).mono ?_
  rintro e w2 ⟨x2, rfl, hb2, o2, rfl, ds2, d2, n2, v2⟩
  obtain ⟨_, _, ao2, cap2, rfl, _⟩ := id d2
  go_wp2_with fail
  have l1 := norm_len d1.1 n1 (k := 19) (by rw [v1, ten19]; decide)
  have l2 := norm_len d2.1 n2 (k := 19) (by rw [v2, ten19]; decide)
  refine (plus_any _ _ ds1 ds2 w2 (d1.later hb2) d2 19 l1 l2 (by omega)).mono ?_
  rintro e w3 ⟨o3, rfl, hb3, dl, d3, v3, n3, _⟩
  have hL : dval dl = 9223372036854775808 := by rw [v3, v1, v2]; rfl
  simp only [World.size_alloc] at hb1
  have hc := chain (chain hb1 (by simp) hb2) (by simp) hb3
  obtain ⟨hcell, hbel⟩ := kept2 hc
  have c0 := hcell 0
  have c1 := hcell 1
  simp at c0 c1
  have hd3 := veil (hd.later hbel)
  have D3 := veil d3
  have N3 := veil n3
  have HL3 := veil hL
  clear hb1 hb2 hb3 d1 d2 n1 n2 v1 v2 l1 l2 v3 hc hcell d3 n3 hL
  go_wp2_with fail
  refine (above_any (.slice ao n cap) o3 ds dl w3 (unveil hd3) (unveil D3) hn (unveil N3)).mono ?_
  rintro e w4 ⟨rfl, mw4, hw4⟩
  rw [show decide (dval dl < dval ds) = true by have := unveil HL3; simp; omega]
  have c0w4 : w4.cell? ⟨w.heap.size, 0, none⟩ = some (.bool neg) := by rw [hw4]; exact c0
  have c1w4 : w4.cell? ⟨w.heap.size, 1, none⟩ = some (.slice ao n cap) := by rw [hw4]; exact c1
  have belw4 : Below w.heap.size w w4 := by rw [hw4]; exact below_nq hbel _
  have hdw4 := veil (show Dg w4 (.slice ao n cap) ds by rw [hw4]; exact unveil hd3)
  have Dw4 := veil (show Dg w4 o3 dl by rw [hw4]; exact unveil D3)
  clear hw4
  go_wp2_with fail
  go_ret2
  exact ⟨rfl, belw4⟩

set_option maxHeartbeats 800000 in
theorem out_edge (ao : Option Addr) (n cap : Nat) (ds : List Int) (w : World) (hd : Dg w (.slice ao n cap) ds) (hl : ds.length = n) (hn : Norm ds) (hv : dval ds = 9223372036854775808) :
    Calls Tryd.prog 38 #[.agg #[.bool false, .slice ao n cap]] w fun e w' => e = .returned (.tuple #[.int .i64 0, .int .i64 1]) ∧ Below w.heap.size w w' := by
  have hfD := field_D
  have hn1000 : n ≤ 1000 := by have := hd.2.1; omega
  go_enter Tryd.func38, Tryd.ntmps38
  go_wp2_with fail
  refine (from_any 4611686018427387904 (by unfold inR; omega) _).mono ?_
  rintro e w1 ⟨x1, rfl, hb1, o1, rfl, ds1, d1, n1, v1⟩
  obtain ⟨_, _, ao1, cap1, rfl, _⟩ := id d1
  go_wp2_with fail
  refine (from_any 4611686018427387904 (by unfold inR; omega) _).mono ?_
  rintro e w2 ⟨x2, rfl, hb2, o2, rfl, ds2, d2, n2, v2⟩
  obtain ⟨_, _, ao2, cap2, rfl, _⟩ := id d2
  go_wp2_with fail
  have l1 := norm_len d1.1 n1 (k := 19) (by rw [v1, ten19]; decide)
  have l2 := norm_len d2.1 n2 (k := 19) (by rw [v2, ten19]; decide)
  refine (plus_any _ _ ds1 ds2 w2 (d1.later hb2) d2 19 l1 l2 (by omega)).mono ?_
  rintro e w3 ⟨o3, rfl, hb3, dl, d3, v3, n3, _⟩
  have hL : dval dl = 9223372036854775808 := by rw [v3, v1, v2]; rfl
  simp only [World.size_alloc] at hb1
  have hc := chain (chain hb1 (by simp) hb2) (by simp) hb3
  obtain ⟨hcell, hbel⟩ := kept2 hc
  have c0 := hcell 0
  have c1 := hcell 1
  simp at c0 c1
  have hd3 := veil (hd.later hbel)
  have D3 := veil d3
  have N3 := veil n3
  have HL3 := veil hL
  clear hb1 hb2 hb3 d1 d2 n1 n2 v1 v2 l1 l2 v3 hc hcell d3 n3 hL
  go_wp2_with fail
  refine (above_any (.slice ao n cap) o3 ds dl w3 (unveil hd3) (unveil D3) hn (unveil N3)).mono ?_
  rintro e w4 ⟨rfl, mw4, hw4⟩
  rw [show decide (dval dl < dval ds) = false by have := unveil HL3; simp; omega]
  have c0w4 : w4.cell? ⟨w.heap.size, 0, none⟩ = some (.bool false) := by rw [hw4]; exact c0
  have c1w4 : w4.cell? ⟨w.heap.size, 1, none⟩ = some (.slice ao n cap) := by rw [hw4]; exact c1
  have belw4 : Below w.heap.size w w4 := by rw [hw4]; exact below_nq hbel _
  have hdw4 := veil (show Dg w4 (.slice ao n cap) ds by rw [hw4]; exact unveil hd3)
  have Dw4 := veil (show Dg w4 o3 dl by rw [hw4]; exact unveil D3)
  clear hw4
  go_wp2_with fail
  refine (above_any o3 (.slice ao n cap) dl ds w4 (unveil Dw4) (unveil hdw4) (unveil N3) hn).mono ?_
  rintro e w5 ⟨rfl, mw5, hw5⟩
  rw [show decide (dval ds < dval dl) = false by have := unveil HL3; simp; omega]
  have c0w5 : w5.cell? ⟨w.heap.size, 0, none⟩ = some (.bool false) := by rw [hw5]; exact c0w4
  have c1w5 : w5.cell? ⟨w.heap.size, 1, none⟩ = some (.slice ao n cap) := by rw [hw5]; exact c1w4
  have belw5 : Below w.heap.size w w5 := by rw [hw5]; exact below_nq belw4 _
  have hdw5 := veil (show Dg w5 (.slice ao n cap) ds by rw [hw5]; exact unveil hdw4)
  have Dw5 := veil (show Dg w5 o3 dl by rw [hw5]; exact unveil Dw4)
  clear hw5
  go_wp2_with fail
  go_ret2
  exact ⟨rfl, belw5⟩

set_option maxHeartbeats 1600000 in
theorem out_pos (ao : Option Addr) (n cap : Nat) (ds : List Int) (w : World) (hd : Dg w (.slice ao n cap) ds) (hl : ds.length = n) (hn : Norm ds) (hv : dval ds < 9223372036854775808) :
    Calls Tryd.prog 38 #[.agg #[.bool false, .slice ao n cap]] w fun e w' => e = .returned (.tuple #[.int .i64 (dval ds), .int .i64 0]) ∧ Below w.heap.size w w' := by
  have hfD := field_D
  have hn1000 : n ≤ 1000 := by have := hd.2.1; omega
  go_enter Tryd.func38, Tryd.ntmps38
  go_wp2_with fail
  refine (from_any 4611686018427387904 (by unfold inR; omega) _).mono ?_
  rintro e w1 ⟨x1, rfl, hb1, o1, rfl, ds1, d1, n1, v1⟩
  obtain ⟨_, _, ao1, cap1, rfl, _⟩ := id d1
  go_wp2_with fail
  refine (from_any 4611686018427387904 (by unfold inR; omega) _).mono ?_
  rintro e w2 ⟨x2, rfl, hb2, o2, rfl, ds2, d2, n2, v2⟩
  obtain ⟨_, _, ao2, cap2, rfl, _⟩ := id d2
  go_wp2_with fail
  have l1 := norm_len d1.1 n1 (k := 19) (by rw [v1, ten19]; decide)
  have l2 := norm_len d2.1 n2 (k := 19) (by rw [v2, ten19]; decide)
  refine (plus_any _ _ ds1 ds2 w2 (d1.later hb2) d2 19 l1 l2 (by omega)).mono ?_
  rintro e w3 ⟨o3, rfl, hb3, dl, d3, v3, n3, _⟩
  have hL : dval dl = 9223372036854775808 := by rw [v3, v1, v2]; rfl
  simp only [World.size_alloc] at hb1
  have hc := chain (chain hb1 (by simp) hb2) (by simp) hb3
  obtain ⟨hcell, hbel⟩ := kept2 hc
  have c0 := hcell 0
  have c1 := hcell 1
  simp at c0 c1
  have hd3 := veil (hd.later hbel)
  have D3 := veil d3
  have N3 := veil n3
  have HL3 := veil hL
  clear hb1 hb2 hb3 d1 d2 n1 n2 v1 v2 l1 l2 v3 hc hcell d3 n3 hL
  go_wp2_with fail
  refine (above_any (.slice ao n cap) o3 ds dl w3 (unveil hd3) (unveil D3) hn (unveil N3)).mono ?_
  rintro e w4 ⟨rfl, mw4, hw4⟩
  rw [show decide (dval dl < dval ds) = false by have := unveil HL3; simp; omega]
  have c0w4 : w4.cell? ⟨w.heap.size, 0, none⟩ = some (.bool false) := by rw [hw4]; exact c0
  have c1w4 : w4.cell? ⟨w.heap.size, 1, none⟩ = some (.slice ao n cap) := by rw [hw4]; exact c1
  have belw4 : Below w.heap.size w w4 := by rw [hw4]; exact below_nq hbel _
  have hdw4 := veil (show Dg w4 (.slice ao n cap) ds by rw [hw4]; exact unveil hd3)
  have Dw4 := veil (show Dg w4 o3 dl by rw [hw4]; exact unveil D3)
  clear hw4
  go_wp2_with fail
  refine (above_any o3 (.slice ao n cap) dl ds w4 (unveil Dw4) (unveil hdw4) (unveil N3) hn).mono ?_
  rintro e w5 ⟨rfl, mw5, hw5⟩
  rw [show decide (dval ds < dval dl) = true by have := unveil HL3; simp; omega]
  have c0w5 : w5.cell? ⟨w.heap.size, 0, none⟩ = some (.bool false) := by rw [hw5]; exact c0w4
  have c1w5 : w5.cell? ⟨w.heap.size, 1, none⟩ = some (.slice ao n cap) := by rw [hw5]; exact c1w4
  have belw5 : Below w.heap.size w w5 := by rw [hw5]; exact below_nq belw4 _
  have hdw5 := veil (show Dg w5 (.slice ao n cap) ds by rw [hw5]; exact unveil hdw4)
  have Dw5 := veil (show Dg w5 o3 dl by rw [hw5]; exact unveil Dw4)
  clear hw5
  go_wp2_with fail
  have TOP := veil (fun m h => out_top ds (unveil hdw5).1 m h)
  have STEP := veil (fun m h => out_step ds m h)
  have CELL : ∀ i, i < n → ∃ p off, ao = some ⟨p, off, none⟩ ∧ w5.cell? ⟨p, off + i, none⟩ = some (.int .i64 (ds.getD i 0)) := by
    obtain ⟨_, _, ao', cap', he, _, _, hr⟩ := unveil hdw5
    intro i hi
    injection he with e1 e2 e3
    subst e1 e3
    rcases hr with h0 | ⟨p, off, h1, h2, h3⟩
    · omega
    · exact ⟨p, off, h1, h3 i (by omega)⟩
  have CELL' := veil CELL
  have HL := veil hl
  have DIG := veil (unveil hdw5).1
  clear CELL hl
  go_loop [5, 6] (fun a i => ∃ k : Nat, k ≤ n ∧ i = .int .i64 ((k : Int) - 1) ∧ a = .int .i64 (- dval (ds.drop k))) (fun _ i => (intOf i + 1).toNat)
  case atStart => exact ⟨n, Nat.le_refl _, rfl, by rw [List.drop_of_length_le (by rw [unveil HL]; exact Nat.le_refl _)]; rfl⟩
  case round =>
    obtain ⟨k, hk, rfl, rfl⟩ := hrel
    cases k with
    | zero =>
      have t := unveil TOP 0 (by omega)
      rw [List.drop_zero] at *
      generalize hN : dval ds = N at *
      have HN := veil hN
      clear hN
      go_wp2_with fail
      go_ret2
      exact ⟨ret_ii (by rw [unveil HN]) rfl, belw5⟩
    | succ m =>
      obtain ⟨p, off, rfl, hcell⟩ := unveil CELL' m (by omega)
      have hm : (((m + 1 : Nat) : Int) - 1) = (m : Int) := by omega
      rw [hm]
      have t1 := unveil TOP (m + 1) (by rw [unveil HL]; exact hk)
      have t2 := unveil TOP m (by rw [unveil HL]; omega)
      have s1 := unveil STEP m (by rw [unveil HL]; omega)
      have dg := unveil DIG m
      generalize ds.getD m 0 = d at *
      generalize dval (ds.drop (m + 1)) = a at *
      have s2 : -(a * 10) - d = - dval (ds.drop m) := by omega
      have S1 := veil s1
      have S2 := veil s2
      have b1 : -9223372036854775808 ≤ -a * 10 := by omega
      have b2 : -9223372036854775808 ≤ -a * 10 - d := by omega
      clear hm s1 s2 t2
      obtain ⟨dg1, dg2⟩ := dg
      obtain ⟨t11, t12⟩ := t1
      go_wp2_with fail
      go_round
      case rel => exact ⟨m, by omega, by go_num, by first | rw [unveil S1] | rw [unveil S2]⟩
      case measure => simp [intOf]

set_option maxHeartbeats 1600000 in
theorem out_neg (ao : Option Addr) (n cap : Nat) (ds : List Int) (w : World) (hd : Dg w (.slice ao n cap) ds) (hl : ds.length = n) (hn : Norm ds) (hv : dval ds ≤ 9223372036854775808) :
    Calls Tryd.prog 38 #[.agg #[.bool true, .slice ao n cap]] w fun e w' => e = .returned (.tuple #[.int .i64 (-dval ds), .int .i64 0]) ∧ Below w.heap.size w w' := by
  have hfD := field_D
  have hn1000 : n ≤ 1000 := by have := hd.2.1; omega
  go_enter Tryd.func38, Tryd.ntmps38
  go_wp2_with fail
  refine (from_any 4611686018427387904 (by unfold inR; omega) _).mono ?_
  rintro e w1 ⟨x1, rfl, hb1, o1, rfl, ds1, d1, n1, v1⟩
  obtain ⟨_, _, ao1, cap1, rfl, _⟩ := id d1
  go_wp2_with fail
  refine (from_any 4611686018427387904 (by unfold inR; omega) _).mono ?_
  rintro e w2 ⟨x2, rfl, hb2, o2, rfl, ds2, d2, n2, v2⟩
  obtain ⟨_, _, ao2, cap2, rfl, _⟩ := id d2
  go_wp2_with fail
  have l1 := norm_len d1.1 n1 (k := 19) (by rw [v1, ten19]; decide)
  have l2 := norm_len d2.1 n2 (k := 19) (by rw [v2, ten19]; decide)
  refine (plus_any _ _ ds1 ds2 w2 (d1.later hb2) d2 19 l1 l2 (by omega)).mono ?_
  rintro e w3 ⟨o3, rfl, hb3, dl, d3, v3, n3, _⟩
  have hL : dval dl = 9223372036854775808 := by rw [v3, v1, v2]; rfl
  simp only [World.size_alloc] at hb1
  have hc := chain (chain hb1 (by simp) hb2) (by simp) hb3
  obtain ⟨hcell, hbel⟩ := kept2 hc
  have c0 := hcell 0
  have c1 := hcell 1
  simp at c0 c1
  have hd3 := veil (hd.later hbel)
  have D3 := veil d3
  have N3 := veil n3
  have HL3 := veil hL
  clear hb1 hb2 hb3 d1 d2 n1 n2 v1 v2 l1 l2 v3 hc hcell d3 n3 hL
  go_wp2_with fail
  refine (above_any (.slice ao n cap) o3 ds dl w3 (unveil hd3) (unveil D3) hn (unveil N3)).mono ?_
  rintro e w4 ⟨rfl, mw4, hw4⟩
  rw [show decide (dval dl < dval ds) = false by have := unveil HL3; simp; omega]
  have c0w4 : w4.cell? ⟨w.heap.size, 0, none⟩ = some (.bool true) := by rw [hw4]; exact c0
  have c1w4 : w4.cell? ⟨w.heap.size, 1, none⟩ = some (.slice ao n cap) := by rw [hw4]; exact c1
  have belw4 : Below w.heap.size w w4 := by rw [hw4]; exact below_nq hbel _
  have hdw4 := veil (show Dg w4 (.slice ao n cap) ds by rw [hw4]; exact unveil hd3)
  have Dw4 := veil (show Dg w4 o3 dl by rw [hw4]; exact unveil D3)
  clear hw4
  go_wp2_with fail
  have TOP := veil (fun m h => out_top ds (unveil hdw4).1 m h)
  have STEP := veil (fun m h => out_step ds m h)
  have CELL : ∀ i, i < n → ∃ p off, ao = some ⟨p, off, none⟩ ∧ w4.cell? ⟨p, off + i, none⟩ = some (.int .i64 (ds.getD i 0)) := by
    obtain ⟨_, _, ao', cap', he, _, _, hr⟩ := unveil hdw4
    intro i hi
    injection he with e1 e2 e3
    subst e1 e3
    rcases hr with h0 | ⟨p, off, h1, h2, h3⟩
    · omega
    · exact ⟨p, off, h1, h3 i (by omega)⟩
  have CELL' := veil CELL
  have HL := veil hl
  have DIG := veil (unveil hdw4).1
  clear CELL hl
  go_loop [5, 6] (fun a i => ∃ k : Nat, k ≤ n ∧ i = .int .i64 ((k : Int) - 1) ∧ a = .int .i64 (- dval (ds.drop k))) (fun _ i => (intOf i + 1).toNat)
  case atStart => exact ⟨n, Nat.le_refl _, rfl, by rw [List.drop_of_length_le (by rw [unveil HL]; exact Nat.le_refl _)]; rfl⟩
  case round =>
    obtain ⟨k, hk, rfl, rfl⟩ := hrel
    cases k with
    | zero =>
      have t := unveil TOP 0 (by omega)
      rw [List.drop_zero] at *
      generalize hN : dval ds = N at *
      have HN := veil hN
      clear hN
      go_wp2_with fail
      go_ret2
      exact ⟨ret_ii (by rw [unveil HN]) rfl, belw4⟩
    | succ m =>
      obtain ⟨p, off, rfl, hcell⟩ := unveil CELL' m (by omega)
      have hm : (((m + 1 : Nat) : Int) - 1) = (m : Int) := by omega
      rw [hm]
      have t1 := unveil TOP (m + 1) (by rw [unveil HL]; exact hk)
      have t2 := unveil TOP m (by rw [unveil HL]; omega)
      have s1 := unveil STEP m (by rw [unveil HL]; omega)
      have dg := unveil DIG m
      generalize ds.getD m 0 = d at *
      generalize dval (ds.drop (m + 1)) = a at *
      have s2 : -(a * 10) - d = - dval (ds.drop m) := by omega
      have S1 := veil s1
      have S2 := veil s2
      have b1 : -9223372036854775808 ≤ -a * 10 := by omega
      have b2 : -9223372036854775808 ≤ -a * 10 - d := by omega
      clear hm s1 s2 t2
      obtain ⟨dg1, dg2⟩ := dg
      obtain ⟨t11, t12⟩ := t1
      go_wp2_with fail
      go_round
      case rel => exact ⟨m, by omega, by go_num, by first | rw [unveil S1] | rw [unveil S2]⟩
      case measure => simp [intOf]

theorem out_any (x : Value) (z : Int) (w : World) (hx : BigR w x z) :
    Calls Tryd.prog 38 #[x] w fun e w' => e = .returned (.tuple #[.int .i64 (fitV z), .int .i64 (fitF z)]) ∧ Below w.heap.size w w' := by
  obtain ⟨o, rfl, ds, hd, hn, hv⟩ := hx
  have hd0 := hd
  obtain ⟨_, _, ao, cap, rfl, _⟩ := hd0
  by_cases hneg : z < 0
  · rw [decide_eq_true hneg]
    rw [absI_neg hneg] at hv
    by_cases hb : 9223372036854775808 < dval ds
    · have ho : ¬ inR z := by unfold inR; omega
      rw [fitV_out ho, fitF_out ho]
      exact out_big true ao _ cap ds w hd rfl hn hb
    · have ho : inR z := by unfold inR; omega
      rw [fitV_in ho, fitF_in ho, show z = -dval ds by omega]
      exact out_neg ao _ cap ds w hd rfl hn (by omega)
  · rw [decide_eq_false hneg]
    rw [absI_pos hneg] at hv
    by_cases hb : 9223372036854775808 < dval ds
    · have ho : ¬ inR z := by unfold inR; omega
      rw [fitV_out ho, fitF_out ho]
      exact out_big false ao _ cap ds w hd rfl hn hb
    by_cases he : dval ds = 9223372036854775808
    · have ho : ¬ inR z := by unfold inR; omega
      rw [fitV_out ho, fitF_out ho]
      exact out_edge ao _ cap ds w hd rfl hn he
    · have ho : inR z := by unfold inR; omega
      rw [fitV_in ho, fitF_in ho, show z = dval ds by omega]
      exact out_pos ao _ cap ds w hd rfl hn (by omega)

end Go.Proofs.YtldplmchgmoopaaDoor
