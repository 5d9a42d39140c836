import Derived.Test.YtldplmchgmoopaaDoorXAU
import Derived.Test.YtldplmchgmoopaaDoorXAV
import Derived.Lib.Hide
import Derived.Test.YtldplmchgmoopaaDoorXAH
namespace Go.Proofs.YtldplmchgmoopaaDoor
open Go.RowKit
set_option linter.unusedVariables false
set_option linter.unusedSimpArgs false

theorem digs_ex (u : Nat) : ∃ ds : List Int, Digs ds ∧ Norm ds ∧ dval ds = u := by
  induction u using Nat.strongRecOn with
  | ind u ih =>
    by_cases h : u = 0
    · subst h; exact ⟨[], digs_nil, Or.inl rfl, rfl⟩
    · obtain ⟨ds, a, b, c⟩ := ih (u / 10) (by omega)
      refine ⟨((u % 10 : Nat) : Int) :: ds, digs_cons a (by omega) (by omega), ?_, by rw [dval, c]; omega⟩
      right
      cases ds with
      | nil => simp [dval] at c; simp; omega
      | cons d r =>
        rcases b with b | b
        · simp at b
        · simpa using b

/-- The box of the number that is gathered. -/
structure RBox (w wr : World) (neg : Bool) (o : Value) : Prop where
  size : w.heap.size + 1 ≤ wr.heap.size
  b0 : wr.cell? ⟨w.heap.size, 0, none⟩ = some (.bool neg)
  b1 : wr.cell? ⟨w.heap.size, 1, none⟩ = some o
  q0 : wr.frozen? ⟨w.heap.size, 0, none⟩ = false
  q1 : wr.frozen? ⟨w.heap.size, 1, none⟩ = false
  bel : Below w.heap.size w wr
theorem RBox.grow {w wr w1 : World} {neg : Bool} {o : Value} {ob : Obj} (F : RBox w wr neg o) (hrow : ∀ k, o.ownBlock = some k → w.heap.size + 1 ≤ k) (hg : (wr.alloc ob).grownBy w1 o.ownBlock) : RBox w w1 neg o := by
  obtain ⟨s, b0, b1, q0, q1, bel⟩ := F
  have hs : (wr.alloc ob).heap.size = wr.heap.size + 1 := by simp
  have hb : ∀ k, k < w.heap.size + 1 → w1.heap[k]? = wr.heap[k]? := fun k hk => by
    refine (hg.block k (by omega) (fun e => ?_)).trans (Below.heap_alloc wr ob k (by omega))
    have := hrow k e.symm
    omega
  have c : ∀ k j, k < w.heap.size + 1 → w1.cell? ⟨k, j, none⟩ = wr.cell? ⟨k, j, none⟩ := fun k j hk => World.cell?_of_block (a := ⟨k, j, none⟩) (hb k hk)
  have f : ∀ k j, k < w.heap.size + 1 → w1.frozen? ⟨k, j, none⟩ = wr.frozen? ⟨k, j, none⟩ := fun k j hk => World.frozen?_of_block (a := ⟨k, j, none⟩) (hb k hk)
  refine ⟨by have := hg.size; omega, (c _ _ (by omega)).trans b0, (c _ _ (by omega)).trans b1, (f _ _ (by omega)).trans q0, (f _ _ (by omega)).trans q1, ?_⟩
  exact (bel.alloc (by omega) ob).grown hg (by omega) (fun k e => by have := hrow k e; omega)
theorem RBox.store {w wr : World} {neg : Bool} {o : Value} (F : RBox w wr neg o) (v : Value) : RBox w (wr.setCell ⟨w.heap.size, 1, none⟩ v) neg v := by
  obtain ⟨s, b0, b1, q0, q1, bel⟩ := F
  refine ⟨by simpa using s, ?_, World.cell?_setCell_same _ _ _ b1, by simpa using q0, by simpa using q1, bel.setCell (by simp) v⟩
  rw [World.cell?_setCell_other _ _ _ _ (by simp)]; exact b0
theorem RBox.mark {w wr : World} {neg : Bool} {o : Value} (F : RBox w wr neg o) (n : Bool) : RBox w (wr.setCell ⟨w.heap.size, 0, none⟩ (.bool n)) n o := by
  obtain ⟨s, b0, b1, q0, q1, bel⟩ := F
  refine ⟨by simpa using s, World.cell?_setCell_same _ _ _ b0, ?_, by simpa using q0, by simpa using q1, bel.setCell (by simp) _⟩
  rw [World.cell?_setCell_other _ _ _ _ (by simp)]; exact b1
theorem RBox.later {w wr wr' : World} {neg : Bool} {o : Value} (F : RBox w wr neg o) (hb : Below wr.heap.size wr wr') : RBox w wr' neg o := by
  obtain ⟨s, b0, b1, q0, q1, bel⟩ := F
  refine ⟨Nat.le_trans s hb.size, ?_, ?_, ?_, ?_, bel.trans (hb.mono bel.size)⟩
  · rw [hb.cell (p := ⟨w.heap.size, 0, none⟩) (by simp; omega)]; exact b0
  · rw [hb.cell (p := ⟨w.heap.size, 1, none⟩) (by simp; omega)]; exact b1
  · rw [hb.frozen (p := ⟨w.heap.size, 0, none⟩) (by simp; omega)]; exact q0
  · rw [hb.frozen (p := ⟨w.heap.size, 1, none⟩) (by simp; omega)]; exact q1

theorem drop_atR (s : ByteArray) (k : Nat) (h : k < s.size) : s.data.toList.drop k = s[k] :: s.data.toList.drop (k + 1) := by
  rw [List.drop_eq_getElem_cons (by simpa using h)]; rfl

/-- The state of the gathering, at a place. -/
def RSt (w wr : World) (l : List UInt8) (o : Value) : Prop := RBox w wr (col l).2 o ∧ wr.ownsRow (w.heap.size + 1) 3 1 o (col l).1.length ((col l).1.map (Value.int .i64))

theorem ret_t {k k' : IntKind} {a b c : Int} (h : a = b) : Ending.returned (.tuple #[.int k a, .int k' c]) = .returned (.tuple #[.int k b, .int k' c]) := by rw [h]
theorem rtext_dtx (v : Int) (hv : inR v) (p : Nat) (hp : p ≤ 18) (w : World) :
    Calls Tryd.prog 40 #[.int .i64 v, .int .i64 p] w fun e w' => e = .returned (.tuple #[.string ⟨(dtx v p).toArray⟩, .int .i64 0]) ∧ Below w.heap.size w w' := by
  refine (refText_in v hv p hp w).mono ?_
  rintro e w' ⟨ds, rfl, hb, hd, hn, hu⟩
  refine ⟨?_, hb⟩
  have := absI_nonneg v
  unfold dtx
  rw [texts_one hd hn (u := (absI v).toNat) (by omega) (decide (v < 0)) p]
theorem z_abs (l : List UInt8) : dval (col l).1 = absI (zOf l) ∧ (¬ zOf l = 0 → (col l).2 = decide (zOf l < 0)) := by
  have b := dval_bd _ (col_digs l).1
  unfold zOf
  cases h : (col l).2 with
  | true => rw [if_pos rfl]; unfold absI; refine ⟨by split <;> omega, fun g => by rw [decide_eq_true (by omega)]⟩
  | false => rw [if_neg (by simp)]; unfold absI; refine ⟨by split <;> omega, fun g => by rw [decide_eq_false (by omega)]⟩

set_option maxHeartbeats 2000000 in
set_option maxRecDepth 100000 in
theorem rparse_yes (s : ByteArray) (p : Nat) (hp : p ≤ 18) (hm : s.size ≤ 9223372036854775807) (w : World) (hz : inR (zOf s.data.toList)) (he : dtx (zOf s.data.toList) p = s.data.toList) :
    Calls Tryd.prog 26 #[.string s, .int .i64 p] w fun e w' => e = .returned (.tuple #[.int .i64 (zOf s.data.toList), .int .i64 0]) ∧ Below w.heap.size w w' := by
  obtain ⟨i0, hi, hz0, hz1, hz2⟩ := info_parts info3
  have P2 : decide ((p : Int) < 0) = false := by simp
  have P3 : decide (18 < (p : Int)) = false := by simp; omega
  have P4 : decide (18 < p) = false := by simp; omega
  have OV := Lib.hid (p := fitV (zOf s.data.toList) = zOf s.data.toList ∧ fitF (zOf s.data.toList) = 0) ⟨fitV_in hz, fitF_in hz⟩
  have TX := Lib.hid (fun w => rtext_dtx (zOf s.data.toList) hz p hp w)
  rw [he] at TX
  clear hz he
  go_enter Tryd.func26, Tryd.ntmps26
  go_wp2_with fail
  go_loopw [7] (fun i wr => ∃ (k : Nat) (o : Value), k ≤ s.size ∧ i = .int .i64 ((k : Int) - 1) ∧ RSt w wr (s.data.toList.drop k) o) (fun i _ => (intOf i + 1).toNat)
  case atStart =>
    refine ⟨s.size, .slice none 0 0, Nat.le_refl _, by go_num, ?_⟩
    rw [List.drop_of_length_le (by simp)]
    exact ⟨⟨by simp, by simp [go_sem, col], by simp [go_sem], by simp [go_sem], by simp [go_sem], (Below.refl _ _).alloc (Nat.le_refl _) _⟩, World.ownsRow_nil _ _ _ _⟩
  case round =>
    obtain ⟨k, o, hk, rfl, hR⟩ := hrel
    cases k with
    | zero =>
      unfold RSt at hR
      rw [List.drop_zero] at hR
      have ZA := Lib.hid (z_abs s.data.toList)
      have cd := col_digs s.data.toList
      generalize hz : zOf s.data.toList = z at *
      generalize (col s.data.toList).1 = ds at *
      generalize (col s.data.toList).2 = neg at *
      obtain ⟨hB0, hown⟩ := hR
      have hB := veil hB0
      have hsz := hB0.size
      have b0 := hB0.b0
      have b1 := hB0.b1
      have q0 := hB0.q0
      have q1 := hB0.q1
      have hdg := dg_of_own hown cd.1 (by have := cd.2; omega)
      have DG := veil hdg
      have FR := veil (fresh_of_own hown)
      obtain ⟨_, _, ao, cap, rfl, _⟩ := hdg
      have HZ := Lib.hid hz
      clear hB0 cd hz hown
      go_wp2_with (first
        | (go_at_call 37; refine (trim_any _ ds wr (unveil DG)).mono ?_; rintro e w1 ⟨v1, rfl, rfl, ds1, d1, dv1, n1, l1, f1⟩; have F1 := veil (f1 _ (unveil FR)); obtain ⟨_, _, ao1, cap1, rfl, _⟩ := id d1; have R2 := (unveil hB).store (.slice ao1 ds1.length cap1); have D2 := veil (d1.set (unveil F1) (j := 1) (show w.heap.size < w.heap.size + 1 by omega) (.slice ao1 ds1.length cap1)); have R2' := veil R2; obtain ⟨s2, e20, e21, g20, g21, bel2⟩ := R2; have DV := veil dv1; have NM := veil n1; clear d1 dv1 n1 l1 f1)
        | (go_at_call 39; refine (sign_any _ _ ds1 _ (unveil D2)).mono ?_; rintro e w3 ⟨rfl, h3⟩; have D3 := veil ((unveil D2).later h3); have R3 := veil ((unveil R2').later h3))
        | (go_at_call 38; refine (out_any _ z _ (bigR_sign (unveil D3) (unveil NM) ((unveil DV).trans ZA.out.1) ZA.out.2)).mono ?_; rintro e w4 ⟨rfl, h4⟩; rw [OV.out.1, OV.out.2]; have R4 := veil ((unveil R3).later h4))
        | (go_at_call 40; refine (TX.out _).mono ?_; rintro e w5 ⟨rfl, h5⟩; have R5 := veil ((unveil R4).later h5)))
      go_ret2
      exact ⟨by first | rfl | exact ret_t HZ.out.symm, (unveil R5).bel⟩
    | succ k =>
      have hks : k < s.size := by omega
      have cd := col_digs (s.data.toList.drop (k + 1))
      have dr := drop_atR s k hks
      have HC1 : (col (s.data.toList.drop k)).1 = if 0 ≤ (s[k].toNat : Int) - 48 ∧ (s[k].toNat : Int) - 48 ≤ 9 ∧ (col (s.data.toList.drop (k + 1))).1.length < 40 then (col (s.data.toList.drop (k + 1))).1 ++ [(s[k].toNat : Int) - 48] else (col (s.data.toList.drop (k + 1))).1 := by rw [dr]; rfl
      have HC2 : (col (s.data.toList.drop k)).2 = ((col (s.data.toList.drop (k + 1))).2 || decide (s[k].toNat = 45)) := by rw [dr]; rfl
      unfold RSt at hR
      have NX : ∀ wr o, RSt w wr (s.data.toList.drop k) o = (RBox w wr (col (s.data.toList.drop k)).2 o ∧ wr.ownsRow (w.heap.size + 1) 3 1 o (col (s.data.toList.drop k)).1.length ((col (s.data.toList.drop k)).1.map (Value.int .i64))) := fun _ _ => rfl
      rw [HC1, HC2] at NX
      generalize (col (s.data.toList.drop (k + 1))).1 = ds at *
      generalize (col (s.data.toList.drop (k + 1))).2 = neg at *
      obtain ⟨hB0, hown⟩ := hR
      have hB := veil hB0
      have hsz := hB0.size
      have b0 := hB0.b0
      have b1 := hB0.b1
      have q0 := hB0.q0
      have q1 := hB0.q1
      have hdg := dg_of_own hown cd.1 (by have := cd.2; omega)
      have CD := veil cd
      have hrow := veil (fun k e => (hown.lt k e).1)
      obtain ⟨_, _, ao, cap, rfl, _⟩ := hdg
      have hl := cd.2
      have ub : (s[k].toNat : Int) ≤ 255 := by have := UInt8.toNat_lt s[k]; omega
      clear hB0 HC1 HC2 dr cd
      by_cases c1 : 48 ≤ (s[k].toNat : Int)
      · have n45 : ¬ (s[k].toNat : Int) = 45 := by omega
        have d45 : decide (s[k].toNat = 45) = false := decide_eq_false (by omega)
        rw [d45, Bool.or_false] at NX
        by_cases c2 : (s[k].toNat : Int) ≤ 57
        · by_cases c3 : ds.length < 40
          · have c3' : (ds.length : Int) < 40 := by omega
            rw [if_pos (by omega)] at NX
            have HN := veil NX
            clear NX
            go_wp2_with (at_builtin; refine wp_digit wr ((s[k].toNat : Int) - 48) rfl _ _ rfl (w.heap.size + 1) _ ds rfl rfl hown (by omega) (by omega) ?_; intro v' w1 R0 hgrow; have B1 := (unveil hB).grow (unveil hrow) hgrow; obtain ⟨_, _, ao', cap', hv', _⟩ := id (dg_of_own R0 (digs_snoc (unveil CD).1 (by omega) (by omega)) (by have := (unveil CD).2; simp; omega)); rw [List.length_append, List.length_singleton] at hv'; subst hv'; have e1 := B1.b1; have e2 := B1.q1; have R1 := veil (ownsRow_setCell_below R0 (a := ⟨w.heap.size, 1, none⟩) (by simp) (.slice ao' (ds.length + 1) cap')); have R2 := veil (B1.store (.slice ao' (ds.length + 1) cap')); clear hgrow B1 R0)
            go_roundw
            case rel => exact ⟨k, _, by omega, by go_num, by rw [unveil HN]; exact ⟨unveil R2, unveil R1⟩⟩
            case measure => first | (simp [intOf]; done) | (simp [intOf]; omega)
          · have c3' : decide ((ds.length : Int) < 40) = false := by simp; omega
            rw [if_neg (by omega)] at NX
            have HN := veil NX
            clear NX
            go_wp2_with fail
            go_roundw
            case rel => exact ⟨k, _, by omega, by go_num, by rw [unveil HN]; exact ⟨unveil hB, hown⟩⟩
            case measure => first | (simp [intOf]; done) | (simp [intOf]; omega)
        · have c2' : decide ((s[k].toNat : Int) - 48 ≤ 9) = false := by simp; omega
          rw [if_neg (by omega)] at NX
          have HN := veil NX
          clear NX
          go_wp2_with fail
          go_roundw
          case rel => exact ⟨k, _, by omega, by go_num, by rw [unveil HN]; exact ⟨unveil hB, hown⟩⟩
          case measure => first | (simp [intOf]; done) | (simp [intOf]; omega)
      · have c1' : decide (0 ≤ (s[k].toNat : Int) - 48) = false := by simp; omega
        rw [if_neg (by omega)] at NX
        by_cases c4 : (s[k].toNat : Int) = 45
        · rw [show decide (s[k].toNat = 45) = true from decide_eq_true (by omega), Bool.or_true] at NX
          have HN := veil NX
          clear NX
          go_wp2_with fail
          go_roundw
          case rel => exact ⟨k, _, by omega, by go_num, by rw [unveil HN]; exact ⟨(unveil hB).mark true, ownsRow_setCell_below hown (a := ⟨w.heap.size, 0, none⟩) (by simp) _⟩⟩
          case measure => first | (simp [intOf]; done) | (simp [intOf]; omega)
        · rw [show decide (s[k].toNat = 45) = false from decide_eq_false (by omega), Bool.or_false] at NX
          have HN := veil NX
          clear NX
          go_wp2_with fail
          go_roundw
          case rel => exact ⟨k, _, by omega, by go_num, by rw [unveil HN]; exact ⟨unveil hB, hown⟩⟩
          case measure => first | (simp [intOf]; done) | (simp [intOf]; omega)

set_option maxHeartbeats 2000000 in
set_option maxRecDepth 100000 in
theorem rparse_far (s : ByteArray) (p : Nat) (hp : p ≤ 18) (hm : s.size ≤ 9223372036854775807) (w : World) (hz : ¬ inR (zOf s.data.toList)) :
    Calls Tryd.prog 26 #[.string s, .int .i64 p] w fun e w' => e = .returned (.tuple #[.int .i64 0, .int .i64 11]) ∧ Below w.heap.size w w' := by
  obtain ⟨i0, hi, hz0, hz1, hz2⟩ := info_parts info3
  have P2 : decide ((p : Int) < 0) = false := by simp
  have P3 : decide (18 < (p : Int)) = false := by simp; omega
  have P4 : decide (18 < p) = false := by simp; omega
  have OV := Lib.hid (p := fitV (zOf s.data.toList) = 0 ∧ fitF (zOf s.data.toList) = 1) ⟨fitV_out hz, fitF_out hz⟩
  have TX := Lib.hid (fun w => rtext_dtx 0 (by unfold inR; omega) p hp w)
  clear hz
  go_enter Tryd.func26, Tryd.ntmps26
  go_wp2_with fail
  go_loopw [7] (fun i wr => ∃ (k : Nat) (o : Value), k ≤ s.size ∧ i = .int .i64 ((k : Int) - 1) ∧ RSt w wr (s.data.toList.drop k) o) (fun i _ => (intOf i + 1).toNat)
  case atStart =>
    refine ⟨s.size, .slice none 0 0, Nat.le_refl _, by go_num, ?_⟩
    rw [List.drop_of_length_le (by simp)]
    exact ⟨⟨by simp, by simp [go_sem, col], by simp [go_sem], by simp [go_sem], by simp [go_sem], (Below.refl _ _).alloc (Nat.le_refl _) _⟩, World.ownsRow_nil _ _ _ _⟩
  case round =>
    obtain ⟨k, o, hk, rfl, hR⟩ := hrel
    cases k with
    | zero =>
      unfold RSt at hR
      rw [List.drop_zero] at hR
      have ZA := Lib.hid (z_abs s.data.toList)
      have cd := col_digs s.data.toList
      generalize hz : zOf s.data.toList = z at *
      generalize (col s.data.toList).1 = ds at *
      generalize (col s.data.toList).2 = neg at *
      obtain ⟨hB0, hown⟩ := hR
      have hB := veil hB0
      have hsz := hB0.size
      have b0 := hB0.b0
      have b1 := hB0.b1
      have q0 := hB0.q0
      have q1 := hB0.q1
      have hdg := dg_of_own hown cd.1 (by have := cd.2; omega)
      have DG := veil hdg
      have FR := veil (fresh_of_own hown)
      obtain ⟨_, _, ao, cap, rfl, _⟩ := hdg
      have HZ := Lib.hid hz
      clear hB0 cd hz hown
      go_wp2_with (first
        | (go_at_call 37; refine (trim_any _ ds wr (unveil DG)).mono ?_; rintro e w1 ⟨v1, rfl, rfl, ds1, d1, dv1, n1, l1, f1⟩; have F1 := veil (f1 _ (unveil FR)); obtain ⟨_, _, ao1, cap1, rfl, _⟩ := id d1; have R2 := (unveil hB).store (.slice ao1 ds1.length cap1); have D2 := veil (d1.set (unveil F1) (j := 1) (show w.heap.size < w.heap.size + 1 by omega) (.slice ao1 ds1.length cap1)); have R2' := veil R2; obtain ⟨s2, e20, e21, g20, g21, bel2⟩ := R2; have DV := veil dv1; have NM := veil n1; clear d1 dv1 n1 l1 f1)
        | (go_at_call 39; refine (sign_any _ _ ds1 _ (unveil D2)).mono ?_; rintro e w3 ⟨rfl, h3⟩; have D3 := veil ((unveil D2).later h3); have R3 := veil ((unveil R2').later h3))
        | (go_at_call 38; refine (out_any _ z _ (bigR_sign (unveil D3) (unveil NM) ((unveil DV).trans ZA.out.1) ZA.out.2)).mono ?_; rintro e w4 ⟨rfl, h4⟩; rw [OV.out.1, OV.out.2]; have R4 := veil ((unveil R3).later h4))
        | (go_at_call 40; refine (TX.out _).mono ?_; rintro e w5 ⟨rfl, h5⟩; have R5 := veil ((unveil R4).later h5)))
      go_ret2
      exact ⟨by first | rfl | exact ret_t HZ.out.symm, (unveil R5).bel⟩
    | succ k =>
      have hks : k < s.size := by omega
      have cd := col_digs (s.data.toList.drop (k + 1))
      have dr := drop_atR s k hks
      have HC1 : (col (s.data.toList.drop k)).1 = if 0 ≤ (s[k].toNat : Int) - 48 ∧ (s[k].toNat : Int) - 48 ≤ 9 ∧ (col (s.data.toList.drop (k + 1))).1.length < 40 then (col (s.data.toList.drop (k + 1))).1 ++ [(s[k].toNat : Int) - 48] else (col (s.data.toList.drop (k + 1))).1 := by rw [dr]; rfl
      have HC2 : (col (s.data.toList.drop k)).2 = ((col (s.data.toList.drop (k + 1))).2 || decide (s[k].toNat = 45)) := by rw [dr]; rfl
      unfold RSt at hR
      have NX : ∀ wr o, RSt w wr (s.data.toList.drop k) o = (RBox w wr (col (s.data.toList.drop k)).2 o ∧ wr.ownsRow (w.heap.size + 1) 3 1 o (col (s.data.toList.drop k)).1.length ((col (s.data.toList.drop k)).1.map (Value.int .i64))) := fun _ _ => rfl
      rw [HC1, HC2] at NX
      generalize (col (s.data.toList.drop (k + 1))).1 = ds at *
      generalize (col (s.data.toList.drop (k + 1))).2 = neg at *
      obtain ⟨hB0, hown⟩ := hR
      have hB := veil hB0
      have hsz := hB0.size
      have b0 := hB0.b0
      have b1 := hB0.b1
      have q0 := hB0.q0
      have q1 := hB0.q1
      have hdg := dg_of_own hown cd.1 (by have := cd.2; omega)
      have CD := veil cd
      have hrow := veil (fun k e => (hown.lt k e).1)
      obtain ⟨_, _, ao, cap, rfl, _⟩ := hdg
      have hl := cd.2
      have ub : (s[k].toNat : Int) ≤ 255 := by have := UInt8.toNat_lt s[k]; omega
      clear hB0 HC1 HC2 dr cd
      by_cases c1 : 48 ≤ (s[k].toNat : Int)
      · have n45 : ¬ (s[k].toNat : Int) = 45 := by omega
        have d45 : decide (s[k].toNat = 45) = false := decide_eq_false (by omega)
        rw [d45, Bool.or_false] at NX
        by_cases c2 : (s[k].toNat : Int) ≤ 57
        · by_cases c3 : ds.length < 40
          · have c3' : (ds.length : Int) < 40 := by omega
            rw [if_pos (by omega)] at NX
            have HN := veil NX
            clear NX
            go_wp2_with (at_builtin; refine wp_digit wr ((s[k].toNat : Int) - 48) rfl _ _ rfl (w.heap.size + 1) _ ds rfl rfl hown (by omega) (by omega) ?_; intro v' w1 R0 hgrow; have B1 := (unveil hB).grow (unveil hrow) hgrow; obtain ⟨_, _, ao', cap', hv', _⟩ := id (dg_of_own R0 (digs_snoc (unveil CD).1 (by omega) (by omega)) (by have := (unveil CD).2; simp; omega)); rw [List.length_append, List.length_singleton] at hv'; subst hv'; have e1 := B1.b1; have e2 := B1.q1; have R1 := veil (ownsRow_setCell_below R0 (a := ⟨w.heap.size, 1, none⟩) (by simp) (.slice ao' (ds.length + 1) cap')); have R2 := veil (B1.store (.slice ao' (ds.length + 1) cap')); clear hgrow B1 R0)
            go_roundw
            case rel => exact ⟨k, _, by omega, by go_num, by rw [unveil HN]; exact ⟨unveil R2, unveil R1⟩⟩
            case measure => first | (simp [intOf]; done) | (simp [intOf]; omega)
          · have c3' : decide ((ds.length : Int) < 40) = false := by simp; omega
            rw [if_neg (by omega)] at NX
            have HN := veil NX
            clear NX
            go_wp2_with fail
            go_roundw
            case rel => exact ⟨k, _, by omega, by go_num, by rw [unveil HN]; exact ⟨unveil hB, hown⟩⟩
            case measure => first | (simp [intOf]; done) | (simp [intOf]; omega)
        · have c2' : decide ((s[k].toNat : Int) - 48 ≤ 9) = false := by simp; omega
          rw [if_neg (by omega)] at NX
          have HN := veil NX
          clear NX
          go_wp2_with fail
          go_roundw
          case rel => exact ⟨k, _, by omega, by go_num, by rw [unveil HN]; exact ⟨unveil hB, hown⟩⟩
          case measure => first | (simp [intOf]; done) | (simp [intOf]; omega)
      · have c1' : decide (0 ≤ (s[k].toNat : Int) - 48) = false := by simp; omega
        rw [if_neg (by omega)] at NX
        by_cases c4 : (s[k].toNat : Int) = 45
        · rw [show decide (s[k].toNat = 45) = true from decide_eq_true (by omega), Bool.or_true] at NX
          have HN := veil NX
          clear NX
          go_wp2_with fail
          go_roundw
          case rel => exact ⟨k, _, by omega, by go_num, by rw [unveil HN]; exact ⟨(unveil hB).mark true, ownsRow_setCell_below hown (a := ⟨w.heap.size, 0, none⟩) (by simp) _⟩⟩
          case measure => first | (simp [intOf]; done) | (simp [intOf]; omega)
        · rw [show decide (s[k].toNat = 45) = false from decide_eq_false (by omega), Bool.or_false] at NX
          have HN := veil NX
          clear NX
          go_wp2_with fail
          go_roundw
          case rel => exact ⟨k, _, by omega, by go_num, by rw [unveil HN]; exact ⟨unveil hB, hown⟩⟩
          case measure => first | (simp [intOf]; done) | (simp [intOf]; omega)

set_option maxHeartbeats 2000000 in
set_option maxRecDepth 100000 in
theorem rparse_not (s : ByteArray) (p : Nat) (hp : p ≤ 18) (hm : s.size ≤ 9223372036854775807) (w : World) (hz : inR (zOf s.data.toList)) (he : ¬ dtx (zOf s.data.toList) p = s.data.toList) :
    Calls Tryd.prog 26 #[.string s, .int .i64 p] w fun e w' => e = .returned (.tuple #[.int .i64 0, .int .i64 11]) ∧ Below w.heap.size w w' := by
  obtain ⟨i0, hi, hz0, hz1, hz2⟩ := info_parts info3
  have P2 : decide ((p : Int) < 0) = false := by simp
  have P3 : decide (18 < (p : Int)) = false := by simp; omega
  have P4 : decide (18 < p) = false := by simp; omega
  have OV := Lib.hid (p := fitV (zOf s.data.toList) = zOf s.data.toList ∧ fitF (zOf s.data.toList) = 0) ⟨fitV_in hz, fitF_in hz⟩
  have TX := Lib.hid (fun w => rtext_dtx (zOf s.data.toList) hz p hp w)
  have ne : ((⟨(dtx (zOf s.data.toList) p).toArray⟩ : ByteArray).toList == s.toList) = false := by
    rw [ByteArray.toList_mk, show s.toList = s.data.toList from by have := ByteArray.toList_mk s.data.toList; simpa using this]; simpa using he
  generalize (⟨(dtx (zOf s.data.toList) p).toArray⟩ : ByteArray) = T at *
  clear hz he
  go_enter Tryd.func26, Tryd.ntmps26
  go_wp2_with fail
  go_loopw [7] (fun i wr => ∃ (k : Nat) (o : Value), k ≤ s.size ∧ i = .int .i64 ((k : Int) - 1) ∧ RSt w wr (s.data.toList.drop k) o) (fun i _ => (intOf i + 1).toNat)
  case atStart =>
    refine ⟨s.size, .slice none 0 0, Nat.le_refl _, by go_num, ?_⟩
    rw [List.drop_of_length_le (by simp)]
    exact ⟨⟨by simp, by simp [go_sem, col], by simp [go_sem], by simp [go_sem], by simp [go_sem], (Below.refl _ _).alloc (Nat.le_refl _) _⟩, World.ownsRow_nil _ _ _ _⟩
  case round =>
    obtain ⟨k, o, hk, rfl, hR⟩ := hrel
    cases k with
    | zero =>
      unfold RSt at hR
      rw [List.drop_zero] at hR
      have ZA := Lib.hid (z_abs s.data.toList)
      have cd := col_digs s.data.toList
      generalize hz : zOf s.data.toList = z at *
      generalize (col s.data.toList).1 = ds at *
      generalize (col s.data.toList).2 = neg at *
      obtain ⟨hB0, hown⟩ := hR
      have hB := veil hB0
      have hsz := hB0.size
      have b0 := hB0.b0
      have b1 := hB0.b1
      have q0 := hB0.q0
      have q1 := hB0.q1
      have hdg := dg_of_own hown cd.1 (by have := cd.2; omega)
      have DG := veil hdg
      have FR := veil (fresh_of_own hown)
      obtain ⟨_, _, ao, cap, rfl, _⟩ := hdg
      have HZ := Lib.hid hz
      clear hB0 cd hz hown
      go_wp2_with (first
        | (go_at_call 37; refine (trim_any _ ds wr (unveil DG)).mono ?_; rintro e w1 ⟨v1, rfl, rfl, ds1, d1, dv1, n1, l1, f1⟩; have F1 := veil (f1 _ (unveil FR)); obtain ⟨_, _, ao1, cap1, rfl, _⟩ := id d1; have R2 := (unveil hB).store (.slice ao1 ds1.length cap1); have D2 := veil (d1.set (unveil F1) (j := 1) (show w.heap.size < w.heap.size + 1 by omega) (.slice ao1 ds1.length cap1)); have R2' := veil R2; obtain ⟨s2, e20, e21, g20, g21, bel2⟩ := R2; have DV := veil dv1; have NM := veil n1; clear d1 dv1 n1 l1 f1)
        | (go_at_call 39; refine (sign_any _ _ ds1 _ (unveil D2)).mono ?_; rintro e w3 ⟨rfl, h3⟩; have D3 := veil ((unveil D2).later h3); have R3 := veil ((unveil R2').later h3))
        | (go_at_call 38; refine (out_any _ z _ (bigR_sign (unveil D3) (unveil NM) ((unveil DV).trans ZA.out.1) ZA.out.2)).mono ?_; rintro e w4 ⟨rfl, h4⟩; rw [OV.out.1, OV.out.2]; have R4 := veil ((unveil R3).later h4))
        | (go_at_call 40; refine (TX.out _).mono ?_; rintro e w5 ⟨rfl, h5⟩; have R5 := veil ((unveil R4).later h5)))
      go_ret2
      exact ⟨by first | rfl | exact ret_t HZ.out.symm, (unveil R5).bel⟩
    | succ k =>
      have hks : k < s.size := by omega
      have cd := col_digs (s.data.toList.drop (k + 1))
      have dr := drop_atR s k hks
      have HC1 : (col (s.data.toList.drop k)).1 = if 0 ≤ (s[k].toNat : Int) - 48 ∧ (s[k].toNat : Int) - 48 ≤ 9 ∧ (col (s.data.toList.drop (k + 1))).1.length < 40 then (col (s.data.toList.drop (k + 1))).1 ++ [(s[k].toNat : Int) - 48] else (col (s.data.toList.drop (k + 1))).1 := by rw [dr]; rfl
      have HC2 : (col (s.data.toList.drop k)).2 = ((col (s.data.toList.drop (k + 1))).2 || decide (s[k].toNat = 45)) := by rw [dr]; rfl
      unfold RSt at hR
      have NX : ∀ wr o, RSt w wr (s.data.toList.drop k) o = (RBox w wr (col (s.data.toList.drop k)).2 o ∧ wr.ownsRow (w.heap.size + 1) 3 1 o (col (s.data.toList.drop k)).1.length ((col (s.data.toList.drop k)).1.map (Value.int .i64))) := fun _ _ => rfl
      rw [HC1, HC2] at NX
      generalize (col (s.data.toList.drop (k + 1))).1 = ds at *
      generalize (col (s.data.toList.drop (k + 1))).2 = neg at *
      obtain ⟨hB0, hown⟩ := hR
      have hB := veil hB0
      have hsz := hB0.size
      have b0 := hB0.b0
      have b1 := hB0.b1
      have q0 := hB0.q0
      have q1 := hB0.q1
      have hdg := dg_of_own hown cd.1 (by have := cd.2; omega)
      have CD := veil cd
      have hrow := veil (fun k e => (hown.lt k e).1)
      obtain ⟨_, _, ao, cap, rfl, _⟩ := hdg
      have hl := cd.2
      have ub : (s[k].toNat : Int) ≤ 255 := by have := UInt8.toNat_lt s[k]; omega
      clear hB0 HC1 HC2 dr cd
      by_cases c1 : 48 ≤ (s[k].toNat : Int)
      · have n45 : ¬ (s[k].toNat : Int) = 45 := by omega
        have d45 : decide (s[k].toNat = 45) = false := decide_eq_false (by omega)
        rw [d45, Bool.or_false] at NX
        by_cases c2 : (s[k].toNat : Int) ≤ 57
        · by_cases c3 : ds.length < 40
          · have c3' : (ds.length : Int) < 40 := by omega
            rw [if_pos (by omega)] at NX
            have HN := veil NX
            clear NX
            go_wp2_with (at_builtin; refine wp_digit wr ((s[k].toNat : Int) - 48) rfl _ _ rfl (w.heap.size + 1) _ ds rfl rfl hown (by omega) (by omega) ?_; intro v' w1 R0 hgrow; have B1 := (unveil hB).grow (unveil hrow) hgrow; obtain ⟨_, _, ao', cap', hv', _⟩ := id (dg_of_own R0 (digs_snoc (unveil CD).1 (by omega) (by omega)) (by have := (unveil CD).2; simp; omega)); rw [List.length_append, List.length_singleton] at hv'; subst hv'; have e1 := B1.b1; have e2 := B1.q1; have R1 := veil (ownsRow_setCell_below R0 (a := ⟨w.heap.size, 1, none⟩) (by simp) (.slice ao' (ds.length + 1) cap')); have R2 := veil (B1.store (.slice ao' (ds.length + 1) cap')); clear hgrow B1 R0)
            go_roundw
            case rel => exact ⟨k, _, by omega, by go_num, by rw [unveil HN]; exact ⟨unveil R2, unveil R1⟩⟩
            case measure => first | (simp [intOf]; done) | (simp [intOf]; omega)
          · have c3' : decide ((ds.length : Int) < 40) = false := by simp; omega
            rw [if_neg (by omega)] at NX
            have HN := veil NX
            clear NX
            go_wp2_with fail
            go_roundw
            case rel => exact ⟨k, _, by omega, by go_num, by rw [unveil HN]; exact ⟨unveil hB, hown⟩⟩
            case measure => first | (simp [intOf]; done) | (simp [intOf]; omega)
        · have c2' : decide ((s[k].toNat : Int) - 48 ≤ 9) = false := by simp; omega
          rw [if_neg (by omega)] at NX
          have HN := veil NX
          clear NX
          go_wp2_with fail
          go_roundw
          case rel => exact ⟨k, _, by omega, by go_num, by rw [unveil HN]; exact ⟨unveil hB, hown⟩⟩
          case measure => first | (simp [intOf]; done) | (simp [intOf]; omega)
      · have c1' : decide (0 ≤ (s[k].toNat : Int) - 48) = false := by simp; omega
        rw [if_neg (by omega)] at NX
        by_cases c4 : (s[k].toNat : Int) = 45
        · rw [show decide (s[k].toNat = 45) = true from decide_eq_true (by omega), Bool.or_true] at NX
          have HN := veil NX
          clear NX
          go_wp2_with fail
          go_roundw
          case rel => exact ⟨k, _, by omega, by go_num, by rw [unveil HN]; exact ⟨(unveil hB).mark true, ownsRow_setCell_below hown (a := ⟨w.heap.size, 0, none⟩) (by simp) _⟩⟩
          case measure => first | (simp [intOf]; done) | (simp [intOf]; omega)
        · rw [show decide (s[k].toNat = 45) = false from decide_eq_false (by omega), Bool.or_false] at NX
          have HN := veil NX
          clear NX
          go_wp2_with fail
          go_roundw
          case rel => exact ⟨k, _, by omega, by go_num, by rw [unveil HN]; exact ⟨unveil hB, hown⟩⟩
          case measure => first | (simp [intOf]; done) | (simp [intOf]; omega)
end Go.Proofs.YtldplmchgmoopaaDoor

namespace Go.Proofs.YtldplmchgmoopaaDoor
open Go.RowKit
set_option linter.unusedVariables false
set_option linter.unusedSimpArgs false

/-- What Parse reads of any string. -/
def prA (p : Nat) (s : ByteArray) : Option Int := if s.size ≤ 21 then prs p s.data.toList else none
theorem prA_some {p : Nat} {s : ByteArray} {v : Int} (h : prA p s = some v) : inR v ∧ (⟨(dtx v p).toArray⟩ : ByteArray) = s := by
  unfold prA at h
  split at h
  · obtain ⟨a, b⟩ := prs_some h
    exact ⟨atoi_inR b, by rw [a]⟩
  · cases h
end Go.Proofs.YtldplmchgmoopaaDoor

namespace Go.Proofs.YtldplmchgmoopaaDoor
open Go.RowKit
set_option linter.unusedVariables false
set_option linter.unusedSimpArgs false

theorem ref_some (s : ByteArray) (hm : s.size ≤ 9223372036854775807) (p : Nat) (hp : p ≤ 18) (x : Int) (h : prA p s = some x) (w : World) :
    Calls Tryd.prog 26 #[.string s, .int .i64 p] w fun e w' => e = .returned (.tuple #[.int .i64 x, .int .i64 0]) ∧ Below w.heap.size w w' := by
  obtain ⟨xr, xe⟩ := prA_some h
  have L : s.data.toList = dtx x p := by rw [← xe]
  obtain ⟨b1, b2⟩ := absI_bd x xr
  obtain ⟨ds, a, b, c⟩ := digs_ex (absI x).toNat
  have z : zOf s.data.toList = x := by rw [L]; exact zOf_dtx x xr p hp a b (by omega)
  have := rparse_yes s p hp hm w (by rw [z]; exact xr) (by rw [z, ← L])
  rw [z] at this
  exact this
theorem ref_none (s : ByteArray) (hm : s.size ≤ 9223372036854775807) (p : Nat) (hp : p ≤ 18) (h : prA p s = none) (w : World) :
    Calls Tryd.prog 26 #[.string s, .int .i64 p] w fun e w' => e = .returned (.tuple #[.int .i64 0, .int .i64 11]) ∧ Below w.heap.size w w' := by
  by_cases hz : inR (zOf s.data.toList)
  · by_cases he : dtx (zOf s.data.toList) p = s.data.toList
    · exfalso
      have hl := dtx_len _ hz p hp
      rw [he] at hl
      unfold prA at h
      rw [if_pos (by simpa using hl)] at h
      have := prs_back _ hz p
      rw [he, h] at this
      cases this
    · exact rparse_not s p hp hm w hz he
  · exact rparse_far s p hp hm w hz
theorem ref_places (s : ByteArray) (p : Int) (hp : ¬ (0 ≤ p ∧ p ≤ 18)) (w : World) :
    Calls Tryd.prog 26 #[.string s, .int .i64 p] w fun e w' => e = .returned (.tuple #[.int .i64 0, .int .i64 1]) ∧ w' = w := by
  by_cases g : p < 0
  · clear hp
    go_enter Tryd.func26, Tryd.ntmps26
    go_wp2
    go_ret2
    exact ⟨rfl, rfl⟩
  · have g2 : 18 < p := by omega
    clear hp
    go_enter Tryd.func26, Tryd.ntmps26
    go_wp2
    go_ret2
    exact ⟨rfl, rfl⟩

end Go.Proofs.YtldplmchgmoopaaDoor

namespace Go.Proofs.YtldplmchgmoopaaDoor
open Go.RowKit
set_option linter.unusedVariables false
set_option linter.unusedSimpArgs false

def numR (u : ByteArray) : Int × Int := match prs 0 u.data.toList with | some v => (v, 0) | none => (0, 11)
theorem rNum_any (u : ByteArray) (hu : u.size ≤ 1048576) (w : World) : Calls Tryd.prog 26 #[.string u, .int .i64 0] w fun e w' => e = .returned (.tuple #[.int .i64 (numR u).1, .int .i64 (numR u).2]) ∧ Below w.heap.size w w' := by
  have e : prA 0 u = prs 0 u.data.toList := by
    unfold prA
    split
    · rfl
    · rename_i h
      rw [prs_long (by have : u.data.toList.length = u.size := Array.length_toList
                       omega)]
  unfold numR
  cases h : prs 0 u.data.toList with
  | some v => exact ref_some u (by omega) 0 (by omega) v (e.trans h) w
  | none => exact ref_none u (by omega) 0 (by omega) (e.trans h) w
theorem dash_no {u : ByteArray} (h : ¬ u.data.toList = [45]) : (u.toList == [45]) = false := by
  rw [beq_eq_false_iff_ne, Lib.toList_data]; exact h
theorem dash_yes {u : ByteArray} (h : u.data.toList = [45]) : (u.toList == [45]) = true := by
  rw [beq_iff_eq, Lib.toList_data]; exact h
/-- What stands while a row is read. -/
structure RwI (w1 W : World) (B : Nat) (v : Value) (cs : List Cl) : Prop where
  own : W.ownsRow B 65 2 v cs.length (clv cs)
  bel : Below B w1 W
theorem RwI.below {w1 W W' : World} {B : Nat} {v : Value} {cs : List Cl} (h : RwI w1 W B v cs) (hB : B ≤ W.heap.size) (b : Below W.heap.size W W') : RwI w1 W' B v cs := ⟨own_back h.own b, h.bel.trans (b.mono hB)⟩
/-- A word's box, and a cell's behind it. -/
structure BxC (ww W : World) (u : ByteArray) (a : Nat) (c : Cl) : Prop where
  bel : Below ww.heap.size ww W
  hw : W.heap[ww.heap.size]? = some (.cells #[.string u, .int .i64 (a : Int)] 49)
  hc : W.heap[ww.heap.size + 1]? = some (.cells #[.bool c.h, .int .i64 c.v] 65)
theorem bxC_new (ww : World) (u : ByteArray) (a : Nat) : BxC ww ((ww.alloc (.cells #[.string u, .int .i64 (a : Int)] 49)).alloc (.cells #[.bool false, .int .i64 0] 65)) u a ⟨false, 0⟩ := by
  have s1 := World.alloc_heap_new ww (.cells #[.string u, .int .i64 (a : Int)] 49)
  have s2 := World.alloc_heap_new (ww.alloc (.cells #[.string u, .int .i64 (a : Int)] 49)) (.cells #[.bool false, .int .i64 0] 65)
  rw [World.size_alloc] at s2
  exact ⟨((Below.refl _ ww).alloc (Nat.le_refl _) _).alloc (by simp) _, (Below.heap_alloc _ _ _ (blk_lt s1)).trans s1, s2⟩
theorem BxC.below {ww W W' : World} {u : ByteArray} {a : Nat} {c : Cl} (h : BxC ww W u a c) (b : Below W.heap.size W W') : BxC ww W' u a c :=
  ⟨h.bel.trans (b.mono h.bel.size), (b.block _ (blk_lt h.hw)).trans h.hw, (b.block _ (blk_lt h.hc)).trans h.hc⟩
theorem BxC.set {ww W : World} {u : ByteArray} {a : Nat} {c : Cl} (h : BxC ww W u a c) (d : Cl) : BxC ww ((W.setCell ⟨ww.heap.size + 1, 0, none⟩ (.bool d.h)).setCell ⟨ww.heap.size + 1, 1, none⟩ (.int .i64 d.v)) u a d := by
  refine ⟨(h.bel.setCell (p := ⟨ww.heap.size + 1, 0, none⟩) (by simp) _).setCell (p := ⟨ww.heap.size + 1, 1, none⟩) (by simp) _, ?_, box_set2 h.hc⟩
  have ne : ¬ ww.heap.size + 1 = ww.heap.size := by omega
  simp [World.setCell, Array.getElem?_modify, ne, h.hw]
set_option maxRecDepth 100000 in
set_option maxHeartbeats 8000000 in
theorem rRow_any (la : Option Addr) (ln lc le N : Nat) (ws : List Wp) (w : World) (h : WdR w la ln ws) (h0 : 0 < ln) (hn : ln ≤ 2000000) (hN : N ≤ 64) (hw : ∀ u ∈ ws, u.1.size ≤ 1048576) (R : Nat × Int × List Cl) (hR : rowD N le (ws.drop 1) [] = R) :
    Calls Tryd.prog 13 #[.agg #[.slice la ln lc, .int .i64 (le : Int)], .int .i64 (N : Int)] w fun e w' => ∃ v, e = .returned (.tuple #[v, .int .i64 (R.1 : Int), .int .i64 R.2.1]) ∧ w'.ownsRow w.heap.size 65 2 v R.2.2.length (clv R.2.2) ∧ Below w.heap.size w w' := by
  have HW := Lib.hid h
  have LEN := Lib.hid h.len
  have SZ := Lib.hid (p := ∀ i, i < ln → (ws.getD i default).1.size ≤ 1048576) (fun i hi => hw _ (wp_mem (by rw [← h.len]; exact hi)))
  obtain ⟨x, hx, hxl, c0, c1⟩ := h.at_ 0 h0
  subst hx
  have hb0 := below_al w (.cells #[.slice (some ⟨x, 0, none⟩) ln lc, .int .i64 (le : Int)] 46)
  have hbx := World.alloc_heap_new w (.cells #[.slice (some ⟨x, 0, none⟩) ln lc, .int .i64 (le : Int)] 46)
  have hsz : (w.alloc (.cells #[.slice (some ⟨x, 0, none⟩) ln lc, .int .i64 (le : Int)] 46)).heap.size = w.heap.size + 1 := by simp
  go_enter Tryd.func13, Tryd.ntmps13
  go_upto_region 3 with fail
  obtain ⟨w1, hw1⟩ : ∃ y, w.alloc (.cells #[.slice (some ⟨x, 0, none⟩) ln lc, .int .i64 (le : Int)] 46) = y := ⟨_, rfl⟩
  rw [hw1] at hb0 hbx hsz
  rw [hw1]
  clear hw1
  have B0 := Lib.hid hb0
  have SZ1 := Lib.hid hsz
  have ST := Lib.hid (p := ∀ W, Below (w.heap.size + 1) w1 W → W.cell? ⟨w.heap.size, 0, none⟩ = some (.slice (some ⟨x, 0, none⟩) ln lc) ∧ W.cell? ⟨w.heap.size, 1, none⟩ = some (.int .i64 (le : Int)) ∧ Below w.heap.size w W ∧ WdR W (some ⟨x, 0, none⟩) ln ws) (fun W q => by
    have e := hb0.trans (q.mono (Nat.le_succ _))
    obtain ⟨a, b, _, _⟩ := box_all2 ((q.block _ (Nat.lt_succ_self _)).trans hbx)
    exact ⟨a, b, e, HW.out.later e⟩)
  have AT := Lib.hid (p := ∀ W, WdR W (some ⟨x, 0, none⟩) ln ws → ∀ i, i < ln → W.cell? ⟨x, i * 2, none⟩ = some (.string (ws.getD i default).1) ∧ W.cell? ⟨x, i * 2 + 1, none⟩ = some (.int .i64 ((ws.getD i default).2 : Int))) (fun W q i hi => by
    obtain ⟨y, e, _, a, b⟩ := q.at_ i hi
    injection e with e
    injection e with e
    subst e
    exact ⟨a, b⟩)
  have KN := Lib.hid (fun (u : ByteArray) (hu : u.size ≤ 1048576) (W : World) => rNum_any u hu W)
  clear h hw hb0 hbx hsz c0 c1
  go_loopw [7, 8] (fun t7 t8 ww => ∃ (i : Nat) (cs : List Cl), 1 ≤ i ∧ i ≤ ln ∧ t8 = .int .i64 (i : Int) ∧ RowKit.Hid (RwI w1 ww (w.heap.size + 1) t7 cs ∧ cs.length + 1 = i ∧ rowD N le (ws.drop i) cs = R)) (fun _ t8 _ => ln - (intOf t8).toNat)
  case atStart => exact ⟨1, [], Nat.le_refl _, h0, rfl, ⟨World.ownsRow_nil _ _ _ _, Below.refl _ _⟩, rfl, hR⟩
  case round =>
    clear hR
    obtain ⟨i, cs, h1i, hil, rfl, hQ⟩ := hrel
    rename World => ww
    have RW := Lib.hid hQ.out.1
    have NI := Lib.hid hQ.out.2.1
    have RI := Lib.hid hQ.out.2.2
    clear hQ
    obtain ⟨f0, f1, eb, fw⟩ := ST.out _ RW.out.bel
    have EB := Lib.hid eb
    have SW := Lib.hid (p := w.heap.size + 1 ≤ ww.heap.size) (by have := RW.out.bel.size; have := SZ1.out; omega)
    obtain ⟨va, vc, hv⟩ := own_form2 RW.out.own
    subst hv
    by_cases hlt : i < ln
    · have kc : (i : Int) < (ln : Int) := by omega
      have kw : IntKind.i64.wrap ((i : Int) + 1) = (i : Int) + 1 := by simp [IntKind.wrap, IntKind.bits, IntKind.signed]; omega
      obtain ⟨d0, d1⟩ := AT.out _ fw i hlt
      have SP := wds_split (ws := ws) (i := i) (by rw [← LEN.out]; exact hlt)
      have su := SZ.out i hlt
      obtain ⟨p, hp⟩ : ∃ p, ws.getD i default = p := ⟨_, rfl⟩
      rw [hp] at d0 d1 SP su
      obtain ⟨u, a⟩ := p
      simp only at d0 d1 SP su
      have R1 := RI.out
      rw [SP, rowD] at R1
      clear SP hp fw eb
      have KU := Lib.hid (KN.out u su)
      have X0 := Lib.hid (bxC_new ww u a)
      obtain ⟨e0, e1, _, _⟩ := box_all2 X0.out.hw
      obtain ⟨e2, e3, e4, e5⟩ := box_all2 X0.out.hc
      have R2 := Lib.hid R1
      clear R1
      go_upto_region 7 with fail
      clear f0 f1 d0 d1
      obtain ⟨W0, hW0⟩ : ∃ y, (ww.alloc (.cells #[.string u, .int .i64 (a : Int)] 49)).alloc (.cells #[.bool false, .int .i64 0] 65) = y := ⟨_, rfl⟩
      rw [hW0] at X0 e0 e1 e2 e3 e4 e5
      rw [hW0]
      clear hW0
      obtain ⟨B, hB⟩ : ∃ B : Bool, decide (¬ u.data.toList = [45]) = B := ⟨_, rfl⟩
      go_cut [28] (fun v wx => v = .bool B ∧ W0 = wx)
      case first =>
        by_cases hd : u.data.toList = [45]
        · have hd2 := dash_yes hd
          obtain rfl : B = false := by rw [← hB]; simp [hd]
          clear hB
          go_wp2
          go_meet
          case rel => exact ⟨by first | rfl | simp [hd2], rfl⟩
        · have hd2 := dash_no hd
          obtain rfl : B = true := by rw [← hB]; simp [hd]
          clear hB
          go_wp2
          go_meet
          case rel => exact ⟨by first | rfl | simp [hd2], rfl⟩
      case rest =>
      obtain ⟨rfl, rfl⟩ := hcut
      go_upto_if 28 with fail
      go_cut [10] (fun v wx => v = .pointer (some ⟨ww.heap.size + 1, 0, none⟩) ∧ RowKit.Hid (∃ c, cellV u = some c ∧ BxC ww wx u a c))
      case first =>
        cases B with
        | false =>
          have hd : u.data.toList = [45] := by have := of_decide_eq_false hB; simpa using this
          have CV := Lib.hid (p := cellV u = some ⟨false, 0⟩) (by unfold cellV; rw [if_pos hd])
          clear hd hB
          go_wp2
          go_meet
          case rel => exact ⟨rfl, _, CV.out, X0.out⟩
        | true =>
          have hd : ¬ u.data.toList = [45] := of_decide_eq_true hB
          clear hB
          cases hp : prs 0 u.data.toList with
          | none =>
            have CV := Lib.hid (p := cellV u = none) (by unfold cellV; rw [if_neg hd, hp]; rfl)
            have NR : numR u = (0, 11) := by unfold numR; rw [hp]
            rw [NR] at KU
            have R3 := R2.out
            rw [CV.out] at R3
            simp only at R3
            subst R3
            clear hd hp NR
            go_wp2_with (first | (go_at_call 26; refine (KU.out _).mono ?_; rintro e w3 ⟨rfl, hb⟩; have X3 := Lib.hid (X0.out.below hb); obtain ⟨i0, i1, _, _⟩ := box_all2 X3.out.hw; clear hb))
            go_region_held3 (fun w' => w'.cell? ⟨ww.heap.size, 1, none⟩ = some (.int .i64 (a : Int))) (first | exact i1) (fail)
            go_wp2
            refine bodyPost_ret (v := .tuple #[.slice none 0 0, .int .i64 (a : Int), .int .i64 51]) (by simp [results, Tryd.results13, go_sem]) rfl ?_
            exact ⟨_, rfl, World.ownsRow_nil _ _ _ _, below_eq (EB.out.trans (X3.out.bel.mono EB.out.size)) rfl rfl rfl rfl⟩
          | some n =>
            have CV := Lib.hid (p := cellV u = some ⟨true, n⟩) (by unfold cellV; rw [if_neg hd, hp]; rfl)
            have NR : numR u = (n, 0) := by unfold numR; rw [hp]
            rw [NR] at KU
            clear hd hp NR
            go_wp2_with (first | (go_at_call 26; refine (KU.out _).mono ?_; rintro e w3 ⟨rfl, hb⟩; have X3 := Lib.hid (X0.out.below hb); obtain ⟨i0, i1, _, _⟩ := box_all2 X3.out.hw; obtain ⟨j0, j1, j2, j3⟩ := box_all2 X3.out.hc; clear hb))
            go_meet
            case rel => exact ⟨rfl, ⟨true, n⟩, CV.out, X3.out.set ⟨true, n⟩⟩
      case rest =>
        as_aux_lemma =>
          obtain ⟨rfl, hX⟩ := hcut
          rename World => wx
          obtain ⟨c, hcv, hx⟩ := hX.out
          clear hX
          have XC := Lib.hid hx
          have R3 := R2.out
          rw [hcv] at R3
          simp only at R3
          clear hcv hx X0 e0 e1 e2 e3 e4 e5 R2
          obtain ⟨e0, e1, _, _⟩ := box_all2 XC.out.hw
          obtain ⟨ch, cv⟩ := c
          obtain ⟨e2, e3, _, _⟩ := box_all2 XC.out.hc
          have BE := Lib.hid (EB.out.trans (XC.out.bel.mono EB.out.size))
          by_cases hc : N ≤ cs.length
          · rw [if_pos hc] at R3
            subst R3
            have k2 : (N : Int) < (i : Int) := by have := NI.out; omega
            go_wp2
            go_region_held3 (fun w' => w'.cell? ⟨ww.heap.size, 1, none⟩ = some (.int .i64 (a : Int))) (first | exact e1) (fail)
            go_wp2
            refine bodyPost_ret (v := .tuple #[.slice none 0 0, .int .i64 (a : Int), .int .i64 51]) (by simp [results, Tryd.results13, go_sem]) rfl ?_
            exact ⟨_, rfl, World.ownsRow_nil _ _ _ _, below_eq BE.out rfl rfl rfl rfl⟩
          · rw [if_neg hc] at R3
            have k2 : ¬ (N : Int) < (i : Int) := by have := NI.out; omega
            have RN := Lib.hid R3
            clear R3
            have BA := Lib.hid (below_al wx (.cells #[.bool ch, .int .i64 cv] 65))
            have WX := Lib.hid (RW.out.below SW.out XC.out.bel)
            have SX := Lib.hid (Nat.le_trans SW.out XC.out.bel.size)
            have WA := Lib.hid (WX.out.below SX.out BA.out)
            have SA := Lib.hid (Nat.le_trans SX.out BA.out.size)
            have c64 : cs.length ≤ 64 := by omega
            go_wp2_with (at_builtin; refine wp_appG Tryd.underlying50 infoC rfl (by decide) _ (w.heap.size + 1) SA.out (some ⟨wx.heap.size, 0, none⟩) 1 1 [.bool ch, .int .i64 cv] rfl (two_news wx (.bool ch) (.int .i64 cv) 65) (fun e => by cases e) (by simp [Value.oneCell']) rfl _ _ rfl _ _ _ rfl WA.out.own rfl (by unfold maxLen; omega) (by omega) ?_; intro v5 w5 O5 G5; have P5 := Lib.hid (p := RwI w1 w5 (w.heap.size + 1) v5 (cs ++ [⟨ch, cv⟩])) ⟨by rw [List.length_append, clv_snoc]; exact O5, WA.out.bel.grown G5 SA.out (fun k e => (WA.out.own.lt k e).1)⟩; clear O5 G5)
            go_roundw
            case rel => exact ⟨i + 1, cs ++ [⟨ch, cv⟩], by omega, by omega, by go_num, P5.out, by rw [List.length_append, List.length_singleton]; have := NI.out; omega, RN.out⟩
            case measure => simp [intOf]; omega
    · obtain rfl : i = ln := by omega
      have kc : ¬ (i : Int) < (i : Int) := by omega
      have R1 := RI.out
      rw [List.drop_eq_nil_of_le (by rw [LEN.out]; omega), rowD] at R1
      by_cases hc : cs.length < N
      · rw [if_pos hc] at R1
        subst R1
        have k2 : (cs.length : Int) < (N : Int) := by omega
        go_wp2
        go_region_held3 (fun w' => w'.cell? ⟨w.heap.size, 1, none⟩ = some (.int .i64 (le : Int))) (first | exact f1) (fail)
        go_wp2
        refine bodyPost_ret (v := .tuple #[.slice none 0 0, .int .i64 (le : Int), .int .i64 51]) (by simp [results, Tryd.results13, go_sem]) rfl ?_
        exact ⟨_, rfl, World.ownsRow_nil _ _ _ _, below_eq EB.out rfl rfl rfl rfl⟩
      · rw [if_neg hc] at R1
        subst R1
        have k2 : ¬ (cs.length : Int) < (N : Int) := by omega
        go_wp2
        refine bodyPost_ret (v := .tuple #[.slice va cs.length vc, .int .i64 0, .int .i64 0]) (by simp [results, Tryd.results13, go_sem]) rfl ?_
        exact ⟨_, rfl, own_mono RW.out.own (Nat.le_succ _), EB.out⟩
end Go.Proofs.YtldplmchgmoopaaDoor

namespace Go.Proofs.YtldplmchgmoopaaDoor
open Go.RowKit
set_option linter.unusedVariables false
set_option linter.unusedSimpArgs false

theorem BkI.perm {W : World} {B bk : Nat} {vs : List Value} {g : Bg} {sn sE' sR' : List (Nat × Obj)} {mark : Int} {late : Bool} (h : Bk W B bk vs g sn mark late) (nd : (sn.map (·.1)).Nodup) (p : sn.Perm (sE' ++ sR')) (ev : EvF sE' g) : BkI W B bk vs g sE' sR' mark late :=
  ⟨h.sub (fun q hq => p.symm.subset hq), (p.map (·.1)).nodup_iff.1 nd, ev⟩
theorem perm_mid {α : Type} (was seg sE R Y : List α) : (was ++ (seg ++ (sE ++ (R ++ Y)))).Perm ((was ++ sE) ++ ((R ++ seg) ++ Y)) := by
  rw [List.append_assoc, List.append_assoc]
  refine List.Perm.append_left was ?_
  rw [← List.append_assoc, ← List.append_assoc, ← List.append_assoc, ← List.append_assoc]
  refine List.Perm.append_right Y ?_
  rw [List.append_assoc]
  exact List.perm_append_comm
theorem EvF.late {sE sE' : List (Nat × Obj)} {g g' : Bg} (h : EvF sE g) (k : ∀ p ∈ sE, p ∈ sE') (e : g' = { g with rr := g'.rr, wr := g'.wr, rn := g'.rn, wn := g'.wn, rp := g'.rp, wp := g'.wp }) : EvF sE' g' := by
  have q := h.more k
  rw [e]
  exact ⟨q.l1, q.l2, q.l3, q.l4, q.l5, q.l6, q.l7, q.r, q.o, q.n, q.p⟩
theorem LtF.same {B : Nat} {sE sE' : List (Nat × Obj)} {SR SN SP : List (List (Nat × Obj))} {i j k : Nat} {g g' : Bg} (h : LtF B sE SR SN SP i j k g) (s : SameL g g') (q : ∀ p ∈ sE, p ∈ sE') : LtF B sE' SR SN SP i j k g' := by
  refine ⟨by rw [s.rr]; exact h.r1, by rw [s.wr]; exact h.r2, by rw [s.rn]; exact h.n1, by rw [s.wn]; exact h.n2, by rw [s.rp]; exact h.p1, by rw [s.wp]; exact h.p2, fun m hm => ?_, fun m hm => ?_, fun m hm => ?_⟩
  · rw [s.rr, s.wr]; exact (h.r m hm).more q Iff.rfl
  · rw [s.rn, s.wn]; exact (h.n m hm).more q Iff.rfl
  · rw [s.rp, s.wp]; exact (h.p m hm).more q Iff.rfl
theorem RwO.mono {W : World} {B B' : Nat} {v : Value} {qs : List Rw} (h : RwO W B v qs) (hB : B' ≤ B) : RwO W B' v qs :=
  ⟨own_mono h.own hB, fun q hq => by obtain ⟨z, e1, e2, r⟩ := h.ok q hq; exact ⟨z, e1, Nat.le_trans hB e2, r⟩, h.nd⟩
/-- The late book's rows. -/
theorem rows_L (B bk : Nat) (vs : List Value) (g : Bg) (sE : List (Nat × Obj)) (SR SN SP : List (List (Nat × Obj))) (X : List (Nat × Obj)) (mark : Int) (N M : Nat) (a : Option Addr) (n c : Nat) (qs : List Rw) (w : World) (h : BkL w B bk vs g sE SR SN SP 0 0 0 X mark true) (hs : Sz g mark N M) (hN : M ≤ 900000000000) (hB : B ≤ w.heap.size) (o : RwO w B (.slice a n c) qs) (fr : FrR bk vs g.fs (sE ++ (restS SR 0 ++ (restS SN 0 ++ (restS SP 0 ++ X)))) (.slice a n c) qs)
    (hn : n ≤ 4096) (hq : ∀ q ∈ qs, q.cs.length ≤ 2000000 ∧ ∀ c ∈ q.cs, (Lit.int .i64 c.v).wf = true) :
    Calls Tryd.prog 20 #[.pointer (some ⟨bk, 0, none⟩), .slice a n c] w fun e w' => e = .returned (.tuple #[]) ∧ (∃ vs' g' sE' SR', BkL w' B bk vs' g' sE' SR' SN SP 0 0 0 X mark true ∧ Sz g' mark N (M + 1)) ∧ Fr B bk w w' := by
  have rr := hs.rr
  have r1 := h.l.r1
  have r2 := h.l.r2
  refine (rows_late B bk vs g _ mark a n c qs w h.I.b hB o fr (by omega) (fun q hq' => (hq q hq').1) ⟨by omega, by omega⟩).mono ?_
  rintro e w' ⟨rfl, ⟨vs', v1, B1, seg, was, qs1, hb, sg, rw1, ec, nd⟩, f⟩
  refine ⟨rfl, ⟨vs', { g with rr := g.rr ++ [.slice a n c], wr := g.wr ++ [v1] }, was ++ sE, SR ++ [seg], ⟨?_, ?_⟩, ?_⟩, f⟩
  · rw [restS_snoc]
    exact BkI.perm hb (nd h.I.nd) (perm_mid _ _ _ _ _) (h.I.ev.late (fun p hp => List.mem_append.2 (.inr hp)) rfl)
  · have mb : ∀ p ∈ sE, p ∈ was ++ sE := fun p hp => List.mem_append.2 (.inr hp)
    refine ⟨by simp [r1], by simp [r2], h.l.n1, h.l.n2, h.l.p1, h.l.p2, fun m hm => ?_, fun m hm => (h.l.n m hm).more mb Iff.rfl, fun m hm => (h.l.p m hm).more mb Iff.rfl⟩
    simp only
    by_cases q : m < SR.length
    · rw [getD_app, getD_app, getD_app, if_pos q, if_pos (by omega), if_pos (by omega)]
      exact (h.l.r m q).more mb Iff.rfl
    · have e : m = SR.length := by simp at hm; omega
      rw [getD_last _ _ _ _ e, getD_last _ _ _ _ (by omega), getD_last _ _ _ _ (by omega)]
      exact ⟨a, n, c, qs, B1, qs1, rfl, (own_len o.own).symm, hn, hq, fun _ => sg, fun z => absurd z (by omega), fun W hW => rw1 W (hW.sub (fun p hp => List.mem_append.2 (.inl hp))), ec⟩
  · exact ⟨⟨hs.m.1, by have := hs.m.2; omega⟩, by have := hs.r; show g.rv.length ≤ _; omega, by have := hs.o; show g.ov.length ≤ _; omega, by have := hs.n; show g.nv.length ≤ _; omega, by have := hs.p; show g.pv.length ≤ _; omega, by simp; omega, by have := hs.rn; show g.rn.length ≤ _; omega, by have := hs.rp; show g.rp.length ≤ _; omega⟩
theorem names_L (B bk : Nat) (vs : List Value) (g : Bg) (sE : List (Nat × Obj)) (SR SN SP : List (List (Nat × Obj))) (X : List (Nat × Obj)) (mark : Int) (N M : Nat) (a : Option Addr) (n c : Nat) (ss : List ByteArray) (w : World) (h : BkL w B bk vs g sE SR SN SP 0 0 0 X mark true) (hs : Sz g mark N M) (hN : M ≤ 900000000000) (hB : B ≤ w.heap.size) (o : w.ownsRow B 9 1 (.slice a n c) n (ss.map Value.string)) (fr : ∀ z, (Value.slice a n c).ownBlock = some z → BkO.Free bk vs g.fs (sE ++ (restS SR 0 ++ (restS SN 0 ++ (restS SP 0 ++ X)))) z)
    (hn : n ≤ 1000000) (hq : ∀ s ∈ ss, s.size ≤ 140737488351232) :
    Calls Tryd.prog 21 #[.pointer (some ⟨bk, 0, none⟩), .slice a n c] w fun e w' => e = .returned (.tuple #[]) ∧ (∃ vs' g' sE' SN', BkL w' B bk vs' g' sE' SR SN' SP 0 0 0 X mark true ∧ Sz g' mark N (M + 1)) ∧ Fr B bk w w' := by
  have rr := hs.rn
  have r1 := h.l.n1
  have r2 := h.l.n2
  refine (names_late B bk vs g _ mark a n c ss w h.I.b hB o fr (by omega) ⟨by omega, by omega⟩).mono ?_
  rintro e w' ⟨rfl, ⟨vs', v1, B1, seg, was, hb, sg, sw, nd⟩, f⟩
  refine ⟨rfl, ⟨vs', { g with rn := g.rn ++ [.slice a n c], wn := g.wn ++ [v1] }, was ++ sE, SN ++ [seg], ⟨?_, ?_⟩, ?_⟩, f⟩
  · rw [restS_snoc]
    refine BkI.perm hb (nd h.I.nd) ?_ (h.I.ev.late (fun p hp => List.mem_append.2 (.inr hp)) rfl)
    have := perm_mid was seg sE (restS SR 0 ++ restS SN 0) (restS SP 0 ++ X)
    simpa [List.append_assoc] using this
  · have mb : ∀ p ∈ sE, p ∈ was ++ sE := fun p hp => List.mem_append.2 (.inr hp)
    refine ⟨h.l.r1, h.l.r2, by simp [r1], by simp [r2], h.l.p1, h.l.p2, fun m hm => (h.l.r m hm).more mb Iff.rfl, fun m hm => ?_, fun m hm => (h.l.p m hm).more mb Iff.rfl⟩
    simp only
    by_cases q : m < SN.length
    · rw [getD_app, getD_app, getD_app, if_pos q, if_pos (by omega), if_pos (by omega)]
      exact (h.l.n m q).more mb Iff.rfl
    · have e : m = SN.length := by simp at hm; omega
      rw [getD_last _ _ _ _ e, getD_last _ _ _ _ (by omega), getD_last _ _ _ _ (by omega)]
      exact ⟨a, n, c, ss, B1, rfl, by have := o.1; simpa using this, hn, hq, fun _ => sg, fun z => absurd z (by omega), fun W hW => sw.1 W (hW.sub (fun p hp => List.mem_append.2 (.inl hp)))⟩
  · exact ⟨⟨hs.m.1, by have := hs.m.2; omega⟩, by have := hs.r; show g.rv.length ≤ _; omega, by have := hs.o; show g.ov.length ≤ _; omega, by have := hs.n; show g.nv.length ≤ _; omega, by have := hs.p; show g.pv.length ≤ _; omega, by have := hs.rr; show g.rr.length ≤ _; omega, by simp; omega, by have := hs.rp; show g.rp.length ≤ _; omega⟩
theorem pairs_L (B bk : Nat) (vs : List Value) (g : Bg) (sE : List (Nat × Obj)) (SR SN SP : List (List (Nat × Obj))) (X : List (Nat × Obj)) (mark : Int) (N M : Nat) (a : Option Addr) (n c : Nat) (ps : List (ByteArray × Int)) (w : World) (h : BkL w B bk vs g sE SR SN SP 0 0 0 X mark true) (hs : Sz g mark N M) (hN : M ≤ 900000000000) (hB : B ≤ w.heap.size) (o : w.ownsRow B 67 2 (.slice a n c) n (prV ps)) (fr : ∀ z, (Value.slice a n c).ownBlock = some z → BkO.Free bk vs g.fs (sE ++ (restS SR 0 ++ (restS SN 0 ++ (restS SP 0 ++ X)))) z)
    (hn : n ≤ 900000000000) :
    Calls Tryd.prog 23 #[.pointer (some ⟨bk, 0, none⟩), .slice a n c] w fun e w' => e = .returned (.tuple #[]) ∧ (∃ vs' g' sE' SP', BkL w' B bk vs' g' sE' SR SN SP' 0 0 0 X mark true ∧ Sz g' mark N (M + 1)) ∧ Fr B bk w w' := by
  have rr := hs.rp
  have r1 := h.l.p1
  have r2 := h.l.p2
  refine (pairs_late B bk vs g _ mark a n c ps w h.I.b hB o fr (by omega) ⟨by omega, by omega⟩).mono ?_
  rintro e w' ⟨rfl, ⟨vs', v1, B1, seg, was, hb, sg, sw, nd⟩, f⟩
  refine ⟨rfl, ⟨vs', { g with rp := g.rp ++ [.slice a n c], wp := g.wp ++ [v1] }, was ++ sE, SP ++ [seg], ⟨?_, ?_⟩, ?_⟩, f⟩
  · rw [restS_snoc]
    refine BkI.perm hb (nd h.I.nd) ?_ (h.I.ev.late (fun p hp => List.mem_append.2 (.inr hp)) rfl)
    have := perm_mid was seg sE (restS SR 0 ++ restS SN 0 ++ restS SP 0) X
    simpa [List.append_assoc] using this
  · have mb : ∀ p ∈ sE, p ∈ was ++ sE := fun p hp => List.mem_append.2 (.inr hp)
    refine ⟨h.l.r1, h.l.r2, h.l.n1, h.l.n2, by simp [r1], by simp [r2], fun m hm => (h.l.r m hm).more mb Iff.rfl, fun m hm => (h.l.n m hm).more mb Iff.rfl, fun m hm => ?_⟩
    simp only
    by_cases q : m < SP.length
    · rw [getD_app, getD_app, getD_app, if_pos q, if_pos (by omega), if_pos (by omega)]
      exact (h.l.p m q).more mb Iff.rfl
    · have e : m = SP.length := by simp at hm; omega
      rw [getD_last _ _ _ _ e, getD_last _ _ _ _ (by omega), getD_last _ _ _ _ (by omega)]
      exact ⟨a, n, c, ps, B1, rfl, by have := o.1; rw [prV_len2] at this; omega, hn, fun _ => sg, fun z => absurd z (by omega), fun W hW => sw.1 W (hW.sub (fun p hp => List.mem_append.2 (.inl hp)))⟩
  · exact ⟨⟨hs.m.1, by have := hs.m.2; omega⟩, by have := hs.r; show g.rv.length ≤ _; omega, by have := hs.o; show g.ov.length ≤ _; omega, by have := hs.n; show g.nv.length ≤ _; omega, by have := hs.p; show g.pv.length ≤ _; omega, by have := hs.rr; show g.rr.length ≤ _; omega, by have := hs.rn; show g.rn.length ≤ _; omega, by simp; omega⟩
end Go.Proofs.YtldplmchgmoopaaDoor
