/-
  WALKS: Parse (the document's, of numbers).
-/
import Derived.Test.YtaeppjnnddakfaaDoorPlainReads
import Derived.Test.YtaeppjnnddakfaaDoorWRefOut
import Derived.Lib.Hide
namespace Go.Proofs.YtaeppjnnddakfaaDoor
open Go.RowKit
set_option linter.unusedVariables false
set_option linter.unusedSimpArgs false

theorem digs_ex (u : Nat) : ∃ ds : List Int, Digs ds ∧ Norm ds ∧ dval ds = u := by
  induction u using Nat.strongRecOn with
  | ind u ih =>
    by_cases h : u = 0
    · subst h; exact ⟨[], digs_nil, Or.inl rfl, rfl⟩
    · obtain ⟨ds, a, b, c⟩ := ih (u / 10) (by omega)
      refine ⟨((u % 10 : Nat) : Int) :: ds, digs_cons a (by omega) (by omega), ?_, by rw [dval, c]; omega⟩
      right
      cases ds with
      | nil => simp [dval] at c; simp; omega
      | cons d r =>
        rcases b with b | b
        · simp at b
        · simpa using b

/-- The box of the number that is gathered. -/
structure RBox (w wr : World) (neg : Bool) (o : Value) : Prop where
  size : w.heap.size + 1 ≤ wr.heap.size
  b0 : wr.cell? ⟨w.heap.size, 0, none⟩ = some (.bool neg)
  b1 : wr.cell? ⟨w.heap.size, 1, none⟩ = some o
  q0 : wr.frozen? ⟨w.heap.size, 0, none⟩ = false
  q1 : wr.frozen? ⟨w.heap.size, 1, none⟩ = false
  bel : Below w.heap.size w wr
theorem RBox.grow {w wr w1 : World} {neg : Bool} {o : Value} {ob : Obj} (F : RBox w wr neg o) (hrow : ∀ k, o.ownBlock = some k → w.heap.size + 1 ≤ k) (hg : (wr.alloc ob).grownBy w1 o.ownBlock) : RBox w w1 neg o := by
  obtain ⟨s, b0, b1, q0, q1, bel⟩ := F
  have hs : (wr.alloc ob).heap.size = wr.heap.size + 1 := by simp
  have hb : ∀ k, k < w.heap.size + 1 → w1.heap[k]? = wr.heap[k]? := fun k hk => by
    refine (hg.block k (by omega) (fun e => ?_)).trans (Below.heap_alloc wr ob k (by omega))
    have := hrow k e.symm
    omega
  have c : ∀ k j, k < w.heap.size + 1 → w1.cell? ⟨k, j, none⟩ = wr.cell? ⟨k, j, none⟩ := fun k j hk => World.cell?_of_block (a := ⟨k, j, none⟩) (hb k hk)
  have f : ∀ k j, k < w.heap.size + 1 → w1.frozen? ⟨k, j, none⟩ = wr.frozen? ⟨k, j, none⟩ := fun k j hk => World.frozen?_of_block (a := ⟨k, j, none⟩) (hb k hk)
  refine ⟨by have := hg.size; omega, (c _ _ (by omega)).trans b0, (c _ _ (by omega)).trans b1, (f _ _ (by omega)).trans q0, (f _ _ (by omega)).trans q1, ?_⟩
  exact (bel.alloc (by omega) ob).grown hg (by omega) (fun k e => by have := hrow k e; omega)
theorem RBox.store {w wr : World} {neg : Bool} {o : Value} (F : RBox w wr neg o) (v : Value) : RBox w (wr.setCell ⟨w.heap.size, 1, none⟩ v) neg v := by
  obtain ⟨s, b0, b1, q0, q1, bel⟩ := F
  refine ⟨by simpa using s, ?_, World.cell?_setCell_same _ _ _ b1, by simpa using q0, by simpa using q1, bel.setCell (by simp) v⟩
  rw [World.cell?_setCell_other _ _ _ _ (by simp)]; exact b0
theorem RBox.mark {w wr : World} {neg : Bool} {o : Value} (F : RBox w wr neg o) (n : Bool) : RBox w (wr.setCell ⟨w.heap.size, 0, none⟩ (.bool n)) n o := by
  obtain ⟨s, b0, b1, q0, q1, bel⟩ := F
  refine ⟨by simpa using s, World.cell?_setCell_same _ _ _ b0, ?_, by simpa using q0, by simpa using q1, bel.setCell (by simp) _⟩
  rw [World.cell?_setCell_other _ _ _ _ (by simp)]; exact b1
theorem RBox.later {w wr wr' : World} {neg : Bool} {o : Value} (F : RBox w wr neg o) (hb : Below wr.heap.size wr wr') : RBox w wr' neg o := by
  obtain ⟨s, b0, b1, q0, q1, bel⟩ := F
  refine ⟨Nat.le_trans s hb.size, ?_, ?_, ?_, ?_, bel.trans (hb.mono bel.size)⟩
  · rw [hb.cell (p := ⟨w.heap.size, 0, none⟩) (by simp; omega)]; exact b0
  · rw [hb.cell (p := ⟨w.heap.size, 1, none⟩) (by simp; omega)]; exact b1
  · rw [hb.frozen (p := ⟨w.heap.size, 0, none⟩) (by simp; omega)]; exact q0
  · rw [hb.frozen (p := ⟨w.heap.size, 1, none⟩) (by simp; omega)]; exact q1

theorem drop_at (s : ByteArray) (k : Nat) (h : k < s.size) : s.data.toList.drop k = s[k] :: s.data.toList.drop (k + 1) := by
  rw [List.drop_eq_getElem_cons (by simpa using h)]; rfl

/-- The state of the gathering, at a place. -/
def RSt (w wr : World) (l : List UInt8) (o : Value) : Prop := RBox w wr (col l).2 o ∧ wr.ownsRow (w.heap.size + 1) 3 1 o (col l).1.length ((col l).1.map (Value.int .i64))

theorem ret_t {k k' : IntKind} {a b c : Int} (h : a = b) : Ending.returned (.tuple #[.int k a, .int k' c]) = .returned (.tuple #[.int k b, .int k' c]) := by rw [h]
theorem rtext_dtx (v : Int) (hv : inR v) (p : Nat) (hp : p ≤ 18) (w : World) :
    Calls Tryd.prog 7 #[.int .i64 v, .int .i64 p] w fun e w' => e = .returned (.tuple #[.string ⟨(dtx v p).toArray⟩, .int .i64 0]) ∧ Below w.heap.size w w' := by
  refine (refText_in v hv p hp w).mono ?_
  rintro e w' ⟨ds, rfl, hb, hd, hn, hu⟩
  refine ⟨?_, hb⟩
  have := absI_nonneg v
  unfold dtx
  rw [texts_one hd hn (u := (absI v).toNat) (by omega) (decide (v < 0)) p]
theorem z_abs (l : List UInt8) : dval (col l).1 = absI (zOf l) ∧ (¬ zOf l = 0 → (col l).2 = decide (zOf l < 0)) := by
  have b := dval_bd _ (col_digs l).1
  unfold zOf
  cases h : (col l).2 with
  | true => rw [if_pos rfl]; unfold absI; refine ⟨by split <;> omega, fun g => by rw [decide_eq_true (by omega)]⟩
  | false => rw [if_neg (by simp)]; unfold absI; refine ⟨by split <;> omega, fun g => by rw [decide_eq_false (by omega)]⟩

set_option maxHeartbeats 2000000 in
set_option maxRecDepth 100000 in
theorem rparse_yes (s : ByteArray) (p : Nat) (hp : p ≤ 18) (hm : s.size ≤ 9223372036854775807) (w : World) (hz : inR (zOf s.data.toList)) (he : dtx (zOf s.data.toList) p = s.data.toList) :
    Calls Tryd.prog 9 #[.string s, .int .i64 p] w fun e w' => e = .returned (.tuple #[.int .i64 (zOf s.data.toList), .int .i64 0]) ∧ Below w.heap.size w w' := by
  obtain ⟨i0, hi, hz0, hz1, hz2⟩ := info_parts info3
  have P2 : decide ((p : Int) < 0) = false := by simp
  have P3 : decide (18 < (p : Int)) = false := by simp; omega
  have P4 : decide (18 < p) = false := by simp; omega
  have OV := Lib.hid (p := fitV (zOf s.data.toList) = zOf s.data.toList ∧ fitF (zOf s.data.toList) = 0) ⟨fitV_in hz, fitF_in hz⟩
  have TX := Lib.hid (fun w => rtext_dtx (zOf s.data.toList) hz p hp w)
  rw [he] at TX
  clear hz he
  go_enter Tryd.func9, Tryd.ntmps9
  go_wp2_with fail
  go_loopw [7] (fun i wr => ∃ (k : Nat) (o : Value), k ≤ s.size ∧ i = .int .i64 ((k : Int) - 1) ∧ RSt w wr (s.data.toList.drop k) o) (fun i _ => (intOf i + 1).toNat)
  case atStart =>
    refine ⟨s.size, .slice none 0 0, Nat.le_refl _, by go_num, ?_⟩
    rw [List.drop_of_length_le (by simp)]
    exact ⟨⟨by simp, by simp [go_sem, col], by simp [go_sem], by simp [go_sem], by simp [go_sem], (Below.refl _ _).alloc (Nat.le_refl _) _⟩, World.ownsRow_nil _ _ _ _⟩
  case round =>
    obtain ⟨k, o, hk, rfl, hR⟩ := hrel
    cases k with
    | zero =>
      unfold RSt at hR
      rw [List.drop_zero] at hR
      have ZA := Lib.hid (z_abs s.data.toList)
      have cd := col_digs s.data.toList
      generalize hz : zOf s.data.toList = z at *
      generalize (col s.data.toList).1 = ds at *
      generalize (col s.data.toList).2 = neg at *
      obtain ⟨hB0, hown⟩ := hR
      have hB := veil hB0
      have hsz := hB0.size
      have b0 := hB0.b0
      have b1 := hB0.b1
      have q0 := hB0.q0
      have q1 := hB0.q1
      have hdg := dg_of_own hown cd.1 (by have := cd.2; omega)
      have DG := veil hdg
      have FR := veil (fresh_of_own hown)
      obtain ⟨_, _, ao, cap, rfl, _⟩ := hdg
      have HZ := Lib.hid hz
      clear hB0 cd hz hown
      go_wp2_with (first
        | (go_at_call 16; refine (trim_any _ ds wr (unveil DG)).mono ?_; rintro e w1 ⟨v1, rfl, rfl, ds1, d1, dv1, n1, l1, f1⟩; have F1 := veil (f1 _ (unveil FR)); obtain ⟨_, _, ao1, cap1, rfl, _⟩ := id d1; have R2 := (unveil hB).store (.slice ao1 ds1.length cap1); have D2 := veil (d1.set (unveil F1) (j := 1) (show w.heap.size < w.heap.size + 1 by omega) (.slice ao1 ds1.length cap1)); have R2' := veil R2; obtain ⟨s2, e20, e21, g20, g21, bel2⟩ := R2; have DV := veil dv1; have NM := veil n1; clear d1 dv1 n1 l1 f1)
        | (go_at_call 18; refine (sign_any _ _ ds1 _ (unveil D2)).mono ?_; rintro e w3 ⟨rfl, h3⟩; have D3 := veil ((unveil D2).later h3); have R3 := veil ((unveil R2').later h3))
        | (go_at_call 17; refine (out_any _ z _ (bigR_sign (unveil D3) (unveil NM) ((unveil DV).trans ZA.out.1) ZA.out.2)).mono ?_; rintro e w4 ⟨rfl, h4⟩; rw [OV.out.1, OV.out.2]; have R4 := veil ((unveil R3).later h4))
        | (go_at_call 7; refine (TX.out _).mono ?_; rintro e w5 ⟨rfl, h5⟩; have R5 := veil ((unveil R4).later h5)))
      go_ret2
      exact ⟨by first | rfl | exact ret_t HZ.out.symm, (unveil R5).bel⟩
    | succ k =>
      have hks : k < s.size := by omega
      have cd := col_digs (s.data.toList.drop (k + 1))
      have dr := drop_at s k hks
      have HC1 : (col (s.data.toList.drop k)).1 = if 0 ≤ (s[k].toNat : Int) - 48 ∧ (s[k].toNat : Int) - 48 ≤ 9 ∧ (col (s.data.toList.drop (k + 1))).1.length < 40 then (col (s.data.toList.drop (k + 1))).1 ++ [(s[k].toNat : Int) - 48] else (col (s.data.toList.drop (k + 1))).1 := by rw [dr]; rfl
      have HC2 : (col (s.data.toList.drop k)).2 = ((col (s.data.toList.drop (k + 1))).2 || decide (s[k].toNat = 45)) := by rw [dr]; rfl
      unfold RSt at hR
      have NX : ∀ wr o, RSt w wr (s.data.toList.drop k) o = (RBox w wr (col (s.data.toList.drop k)).2 o ∧ wr.ownsRow (w.heap.size + 1) 3 1 o (col (s.data.toList.drop k)).1.length ((col (s.data.toList.drop k)).1.map (Value.int .i64))) := fun _ _ => rfl
      rw [HC1, HC2] at NX
      generalize (col (s.data.toList.drop (k + 1))).1 = ds at *
      generalize (col (s.data.toList.drop (k + 1))).2 = neg at *
      obtain ⟨hB0, hown⟩ := hR
      have hB := veil hB0
      have hsz := hB0.size
      have b0 := hB0.b0
      have b1 := hB0.b1
      have q0 := hB0.q0
      have q1 := hB0.q1
      have hdg := dg_of_own hown cd.1 (by have := cd.2; omega)
      have CD := veil cd
      have hrow := veil (fun k e => (hown.lt k e).1)
      obtain ⟨_, _, ao, cap, rfl, _⟩ := hdg
      have hl := cd.2
      have ub : (s[k].toNat : Int) ≤ 255 := by have := UInt8.toNat_lt s[k]; omega
      clear hB0 HC1 HC2 dr cd
      by_cases c1 : 48 ≤ (s[k].toNat : Int)
      · have n45 : ¬ (s[k].toNat : Int) = 45 := by omega
        have d45 : decide (s[k].toNat = 45) = false := decide_eq_false (by omega)
        rw [d45, Bool.or_false] at NX
        by_cases c2 : (s[k].toNat : Int) ≤ 57
        · by_cases c3 : ds.length < 40
          · have c3' : (ds.length : Int) < 40 := by omega
            rw [if_pos (by omega)] at NX
            have HN := veil NX
            clear NX
            go_wp2_with (at_builtin; refine wp_digit wr ((s[k].toNat : Int) - 48) rfl _ _ rfl (w.heap.size + 1) _ ds rfl rfl hown (by omega) (by omega) ?_; intro v' w1 R0 hgrow; have B1 := (unveil hB).grow (unveil hrow) hgrow; obtain ⟨_, _, ao', cap', hv', _⟩ := id (dg_of_own R0 (digs_snoc (unveil CD).1 (by omega) (by omega)) (by have := (unveil CD).2; simp; omega)); rw [List.length_append, List.length_singleton] at hv'; subst hv'; have e1 := B1.b1; have e2 := B1.q1; have R1 := veil (ownsRow_setCell_below R0 (a := ⟨w.heap.size, 1, none⟩) (by simp) (.slice ao' (ds.length + 1) cap')); have R2 := veil (B1.store (.slice ao' (ds.length + 1) cap')); clear hgrow B1 R0)
            go_roundw
            case rel => exact ⟨k, _, by omega, by go_num, by rw [unveil HN]; exact ⟨unveil R2, unveil R1⟩⟩
            case measure => first | (simp [intOf]; done) | (simp [intOf]; omega)
          · have c3' : decide ((ds.length : Int) < 40) = false := by simp; omega
            rw [if_neg (by omega)] at NX
            have HN := veil NX
            clear NX
            go_wp2_with fail
            go_roundw
            case rel => exact ⟨k, _, by omega, by go_num, by rw [unveil HN]; exact ⟨unveil hB, hown⟩⟩
            case measure => first | (simp [intOf]; done) | (simp [intOf]; omega)
        · have c2' : decide ((s[k].toNat : Int) - 48 ≤ 9) = false := by simp; omega
          rw [if_neg (by omega)] at NX
          have HN := veil NX
          clear NX
          go_wp2_with fail
          go_roundw
          case rel => exact ⟨k, _, by omega, by go_num, by rw [unveil HN]; exact ⟨unveil hB, hown⟩⟩
          case measure => first | (simp [intOf]; done) | (simp [intOf]; omega)
      · have c1' : decide (0 ≤ (s[k].toNat : Int) - 48) = false := by simp; omega
        rw [if_neg (by omega)] at NX
        by_cases c4 : (s[k].toNat : Int) = 45
        · rw [show decide (s[k].toNat = 45) = true from decide_eq_true (by omega), Bool.or_true] at NX
          have HN := veil NX
          clear NX
          go_wp2_with fail
          go_roundw
          case rel => exact ⟨k, _, by omega, by go_num, by rw [unveil HN]; exact ⟨(unveil hB).mark true, ownsRow_setCell_below hown (a := ⟨w.heap.size, 0, none⟩) (by simp) _⟩⟩
          case measure => first | (simp [intOf]; done) | (simp [intOf]; omega)
        · rw [show decide (s[k].toNat = 45) = false from decide_eq_false (by omega), Bool.or_false] at NX
          have HN := veil NX
          clear NX
          go_wp2_with fail
          go_roundw
          case rel => exact ⟨k, _, by omega, by go_num, by rw [unveil HN]; exact ⟨unveil hB, hown⟩⟩
          case measure => first | (simp [intOf]; done) | (simp [intOf]; omega)

set_option maxHeartbeats 2000000 in
set_option maxRecDepth 100000 in
theorem rparse_far (s : ByteArray) (p : Nat) (hp : p ≤ 18) (hm : s.size ≤ 9223372036854775807) (w : World) (hz : ¬ inR (zOf s.data.toList)) :
    Calls Tryd.prog 9 #[.string s, .int .i64 p] w fun e w' => e = .returned (.tuple #[.int .i64 0, .int .i64 11]) ∧ Below w.heap.size w w' := by
  obtain ⟨i0, hi, hz0, hz1, hz2⟩ := info_parts info3
  have P2 : decide ((p : Int) < 0) = false := by simp
  have P3 : decide (18 < (p : Int)) = false := by simp; omega
  have P4 : decide (18 < p) = false := by simp; omega
  have OV := Lib.hid (p := fitV (zOf s.data.toList) = 0 ∧ fitF (zOf s.data.toList) = 1) ⟨fitV_out hz, fitF_out hz⟩
  have TX := Lib.hid (fun w => rtext_dtx 0 (by unfold inR; omega) p hp w)
  clear hz
  go_enter Tryd.func9, Tryd.ntmps9
  go_wp2_with fail
  go_loopw [7] (fun i wr => ∃ (k : Nat) (o : Value), k ≤ s.size ∧ i = .int .i64 ((k : Int) - 1) ∧ RSt w wr (s.data.toList.drop k) o) (fun i _ => (intOf i + 1).toNat)
  case atStart =>
    refine ⟨s.size, .slice none 0 0, Nat.le_refl _, by go_num, ?_⟩
    rw [List.drop_of_length_le (by simp)]
    exact ⟨⟨by simp, by simp [go_sem, col], by simp [go_sem], by simp [go_sem], by simp [go_sem], (Below.refl _ _).alloc (Nat.le_refl _) _⟩, World.ownsRow_nil _ _ _ _⟩
  case round =>
    obtain ⟨k, o, hk, rfl, hR⟩ := hrel
    cases k with
    | zero =>
      unfold RSt at hR
      rw [List.drop_zero] at hR
      have ZA := Lib.hid (z_abs s.data.toList)
      have cd := col_digs s.data.toList
      generalize hz : zOf s.data.toList = z at *
      generalize (col s.data.toList).1 = ds at *
      generalize (col s.data.toList).2 = neg at *
      obtain ⟨hB0, hown⟩ := hR
      have hB := veil hB0
      have hsz := hB0.size
      have b0 := hB0.b0
      have b1 := hB0.b1
      have q0 := hB0.q0
      have q1 := hB0.q1
      have hdg := dg_of_own hown cd.1 (by have := cd.2; omega)
      have DG := veil hdg
      have FR := veil (fresh_of_own hown)
      obtain ⟨_, _, ao, cap, rfl, _⟩ := hdg
      have HZ := Lib.hid hz
      clear hB0 cd hz hown
      go_wp2_with (first
        | (go_at_call 16; refine (trim_any _ ds wr (unveil DG)).mono ?_; rintro e w1 ⟨v1, rfl, rfl, ds1, d1, dv1, n1, l1, f1⟩; have F1 := veil (f1 _ (unveil FR)); obtain ⟨_, _, ao1, cap1, rfl, _⟩ := id d1; have R2 := (unveil hB).store (.slice ao1 ds1.length cap1); have D2 := veil (d1.set (unveil F1) (j := 1) (show w.heap.size < w.heap.size + 1 by omega) (.slice ao1 ds1.length cap1)); have R2' := veil R2; obtain ⟨s2, e20, e21, g20, g21, bel2⟩ := R2; have DV := veil dv1; have NM := veil n1; clear d1 dv1 n1 l1 f1)
        | (go_at_call 18; refine (sign_any _ _ ds1 _ (unveil D2)).mono ?_; rintro e w3 ⟨rfl, h3⟩; have D3 := veil ((unveil D2).later h3); have R3 := veil ((unveil R2').later h3))
        | (go_at_call 17; refine (out_any _ z _ (bigR_sign (unveil D3) (unveil NM) ((unveil DV).trans ZA.out.1) ZA.out.2)).mono ?_; rintro e w4 ⟨rfl, h4⟩; rw [OV.out.1, OV.out.2]; have R4 := veil ((unveil R3).later h4))
        | (go_at_call 7; refine (TX.out _).mono ?_; rintro e w5 ⟨rfl, h5⟩; have R5 := veil ((unveil R4).later h5)))
      go_ret2
      exact ⟨by first | rfl | exact ret_t HZ.out.symm, (unveil R5).bel⟩
    | succ k =>
      have hks : k < s.size := by omega
      have cd := col_digs (s.data.toList.drop (k + 1))
      have dr := drop_at s k hks
      have HC1 : (col (s.data.toList.drop k)).1 = if 0 ≤ (s[k].toNat : Int) - 48 ∧ (s[k].toNat : Int) - 48 ≤ 9 ∧ (col (s.data.toList.drop (k + 1))).1.length < 40 then (col (s.data.toList.drop (k + 1))).1 ++ [(s[k].toNat : Int) - 48] else (col (s.data.toList.drop (k + 1))).1 := by rw [dr]; rfl
      have HC2 : (col (s.data.toList.drop k)).2 = ((col (s.data.toList.drop (k + 1))).2 || decide (s[k].toNat = 45)) := by rw [dr]; rfl
      unfold RSt at hR
      have NX : ∀ wr o, RSt w wr (s.data.toList.drop k) o = (RBox w wr (col (s.data.toList.drop k)).2 o ∧ wr.ownsRow (w.heap.size + 1) 3 1 o (col (s.data.toList.drop k)).1.length ((col (s.data.toList.drop k)).1.map (Value.int .i64))) := fun _ _ => rfl
      rw [HC1, HC2] at NX
      generalize (col (s.data.toList.drop (k + 1))).1 = ds at *
      generalize (col (s.data.toList.drop (k + 1))).2 = neg at *
      obtain ⟨hB0, hown⟩ := hR
      have hB := veil hB0
      have hsz := hB0.size
      have b0 := hB0.b0
      have b1 := hB0.b1
      have q0 := hB0.q0
      have q1 := hB0.q1
      have hdg := dg_of_own hown cd.1 (by have := cd.2; omega)
      have CD := veil cd
      have hrow := veil (fun k e => (hown.lt k e).1)
      obtain ⟨_, _, ao, cap, rfl, _⟩ := hdg
      have hl := cd.2
      have ub : (s[k].toNat : Int) ≤ 255 := by have := UInt8.toNat_lt s[k]; omega
      clear hB0 HC1 HC2 dr cd
      by_cases c1 : 48 ≤ (s[k].toNat : Int)
      · have n45 : ¬ (s[k].toNat : Int) = 45 := by omega
        have d45 : decide (s[k].toNat = 45) = false := decide_eq_false (by omega)
        rw [d45, Bool.or_false] at NX
        by_cases c2 : (s[k].toNat : Int) ≤ 57
        · by_cases c3 : ds.length < 40
          · have c3' : (ds.length : Int) < 40 := by omega
            rw [if_pos (by omega)] at NX
            have HN := veil NX
            clear NX
            go_wp2_with (at_builtin; refine wp_digit wr ((s[k].toNat : Int) - 48) rfl _ _ rfl (w.heap.size + 1) _ ds rfl rfl hown (by omega) (by omega) ?_; intro v' w1 R0 hgrow; have B1 := (unveil hB).grow (unveil hrow) hgrow; obtain ⟨_, _, ao', cap', hv', _⟩ := id (dg_of_own R0 (digs_snoc (unveil CD).1 (by omega) (by omega)) (by have := (unveil CD).2; simp; omega)); rw [List.length_append, List.length_singleton] at hv'; subst hv'; have e1 := B1.b1; have e2 := B1.q1; have R1 := veil (ownsRow_setCell_below R0 (a := ⟨w.heap.size, 1, none⟩) (by simp) (.slice ao' (ds.length + 1) cap')); have R2 := veil (B1.store (.slice ao' (ds.length + 1) cap')); clear hgrow B1 R0)
            go_roundw
            case rel => exact ⟨k, _, by omega, by go_num, by rw [unveil HN]; exact ⟨unveil R2, unveil R1⟩⟩
            case measure => first | (simp [intOf]; done) | (simp [intOf]; omega)
          · have c3' : decide ((ds.length : Int) < 40) = false := by simp; omega
            rw [if_neg (by omega)] at NX
            have HN := veil NX
            clear NX
            go_wp2_with fail
            go_roundw
            case rel => exact ⟨k, _, by omega, by go_num, by rw [unveil HN]; exact ⟨unveil hB, hown⟩⟩
            case measure => first | (simp [intOf]; done) | (simp [intOf]; omega)
        · have c2' : decide ((s[k].toNat : Int) - 48 ≤ 9) = false := by simp; omega
          rw [if_neg (by omega)] at NX
          have HN := veil NX
          clear NX
          go_wp2_with fail
          go_roundw
          case rel => exact ⟨k, _, by omega, by go_num, by rw [unveil HN]; exact ⟨unveil hB, hown⟩⟩
          case measure => first | (simp [intOf]; done) | (simp [intOf]; omega)
      · have c1' : decide (0 ≤ (s[k].toNat : Int) - 48) = false := by simp; omega
        rw [if_neg (by omega)] at NX
        by_cases c4 : (s[k].toNat : Int) = 45
        · rw [show decide (s[k].toNat = 45) = true from decide_eq_true (by omega), Bool.or_true] at NX
          have HN := veil NX
          clear NX
          go_wp2_with fail
          go_roundw
          case rel => exact ⟨k, _, by omega, by go_num, by rw [unveil HN]; exact ⟨(unveil hB).mark true, ownsRow_setCell_below hown (a := ⟨w.heap.size, 0, none⟩) (by simp) _⟩⟩
          case measure => first | (simp [intOf]; done) | (simp [intOf]; omega)
        · rw [show decide (s[k].toNat = 45) = false from decide_eq_false (by omega), Bool.or_false] at NX
          have HN := veil NX
          clear NX
          go_wp2_with fail
          go_roundw
          case rel => exact ⟨k, _, by omega, by go_num, by rw [unveil HN]; exact ⟨unveil hB, hown⟩⟩
          case measure => first | (simp [intOf]; done) | (simp [intOf]; omega)

set_option maxHeartbeats 2000000 in
set_option maxRecDepth 100000 in
theorem rparse_not (s : ByteArray) (p : Nat) (hp : p ≤ 18) (hm : s.size ≤ 9223372036854775807) (w : World) (hz : inR (zOf s.data.toList)) (he : ¬ dtx (zOf s.data.toList) p = s.data.toList) :
    Calls Tryd.prog 9 #[.string s, .int .i64 p] w fun e w' => e = .returned (.tuple #[.int .i64 0, .int .i64 11]) ∧ Below w.heap.size w w' := by
  obtain ⟨i0, hi, hz0, hz1, hz2⟩ := info_parts info3
  have P2 : decide ((p : Int) < 0) = false := by simp
  have P3 : decide (18 < (p : Int)) = false := by simp; omega
  have P4 : decide (18 < p) = false := by simp; omega
  have OV := Lib.hid (p := fitV (zOf s.data.toList) = zOf s.data.toList ∧ fitF (zOf s.data.toList) = 0) ⟨fitV_in hz, fitF_in hz⟩
  have TX := Lib.hid (fun w => rtext_dtx (zOf s.data.toList) hz p hp w)
  have ne : ((⟨(dtx (zOf s.data.toList) p).toArray⟩ : ByteArray).toList == s.toList) = false := by
    rw [ByteArray.toList_mk, show s.toList = s.data.toList from by have := ByteArray.toList_mk s.data.toList; simpa using this]; simpa using he
  generalize (⟨(dtx (zOf s.data.toList) p).toArray⟩ : ByteArray) = T at *
  clear hz he
  go_enter Tryd.func9, Tryd.ntmps9
  go_wp2_with fail
  go_loopw [7] (fun i wr => ∃ (k : Nat) (o : Value), k ≤ s.size ∧ i = .int .i64 ((k : Int) - 1) ∧ RSt w wr (s.data.toList.drop k) o) (fun i _ => (intOf i + 1).toNat)
  case atStart =>
    refine ⟨s.size, .slice none 0 0, Nat.le_refl _, by go_num, ?_⟩
    rw [List.drop_of_length_le (by simp)]
    exact ⟨⟨by simp, by simp [go_sem, col], by simp [go_sem], by simp [go_sem], by simp [go_sem], (Below.refl _ _).alloc (Nat.le_refl _) _⟩, World.ownsRow_nil _ _ _ _⟩
  case round =>
    obtain ⟨k, o, hk, rfl, hR⟩ := hrel
    cases k with
    | zero =>
      unfold RSt at hR
      rw [List.drop_zero] at hR
      have ZA := Lib.hid (z_abs s.data.toList)
      have cd := col_digs s.data.toList
      generalize hz : zOf s.data.toList = z at *
      generalize (col s.data.toList).1 = ds at *
      generalize (col s.data.toList).2 = neg at *
      obtain ⟨hB0, hown⟩ := hR
      have hB := veil hB0
      have hsz := hB0.size
      have b0 := hB0.b0
      have b1 := hB0.b1
      have q0 := hB0.q0
      have q1 := hB0.q1
      have hdg := dg_of_own hown cd.1 (by have := cd.2; omega)
      have DG := veil hdg
      have FR := veil (fresh_of_own hown)
      obtain ⟨_, _, ao, cap, rfl, _⟩ := hdg
      have HZ := Lib.hid hz
      clear hB0 cd hz hown
      go_wp2_with (first
        | (go_at_call 16; refine (trim_any _ ds wr (unveil DG)).mono ?_; rintro e w1 ⟨v1, rfl, rfl, ds1, d1, dv1, n1, l1, f1⟩; have F1 := veil (f1 _ (unveil FR)); obtain ⟨_, _, ao1, cap1, rfl, _⟩ := id d1; have R2 := (unveil hB).store (.slice ao1 ds1.length cap1); have D2 := veil (d1.set (unveil F1) (j := 1) (show w.heap.size < w.heap.size + 1 by omega) (.slice ao1 ds1.length cap1)); have R2' := veil R2; obtain ⟨s2, e20, e21, g20, g21, bel2⟩ := R2; have DV := veil dv1; have NM := veil n1; clear d1 dv1 n1 l1 f1)
        | (go_at_call 18; refine (sign_any _ _ ds1 _ (unveil D2)).mono ?_; rintro e w3 ⟨rfl, h3⟩; have D3 := veil ((unveil D2).later h3); have R3 := veil ((unveil R2').later h3))
        | (go_at_call 17; refine (out_any _ z _ (bigR_sign (unveil D3) (unveil NM) ((unveil DV).trans ZA.out.1) ZA.out.2)).mono ?_; rintro e w4 ⟨rfl, h4⟩; rw [OV.out.1, OV.out.2]; have R4 := veil ((unveil R3).later h4))
        | (go_at_call 7; refine (TX.out _).mono ?_; rintro e w5 ⟨rfl, h5⟩; have R5 := veil ((unveil R4).later h5)))
      go_ret2
      exact ⟨by first | rfl | exact ret_t HZ.out.symm, (unveil R5).bel⟩
    | succ k =>
      have hks : k < s.size := by omega
      have cd := col_digs (s.data.toList.drop (k + 1))
      have dr := drop_at s k hks
      have HC1 : (col (s.data.toList.drop k)).1 = if 0 ≤ (s[k].toNat : Int) - 48 ∧ (s[k].toNat : Int) - 48 ≤ 9 ∧ (col (s.data.toList.drop (k + 1))).1.length < 40 then (col (s.data.toList.drop (k + 1))).1 ++ [(s[k].toNat : Int) - 48] else (col (s.data.toList.drop (k + 1))).1 := by rw [dr]; rfl
      have HC2 : (col (s.data.toList.drop k)).2 = ((col (s.data.toList.drop (k + 1))).2 || decide (s[k].toNat = 45)) := by rw [dr]; rfl
      unfold RSt at hR
      have NX : ∀ wr o, RSt w wr (s.data.toList.drop k) o = (RBox w wr (col (s.data.toList.drop k)).2 o ∧ wr.ownsRow (w.heap.size + 1) 3 1 o (col (s.data.toList.drop k)).1.length ((col (s.data.toList.drop k)).1.map (Value.int .i64))) := fun _ _ => rfl
      rw [HC1, HC2] at NX
      generalize (col (s.data.toList.drop (k + 1))).1 = ds at *
      generalize (col (s.data.toList.drop (k + 1))).2 = neg at *
      obtain ⟨hB0, hown⟩ := hR
      have hB := veil hB0
      have hsz := hB0.size
      have b0 := hB0.b0
      have b1 := hB0.b1
      have q0 := hB0.q0
      have q1 := hB0.q1
      have hdg := dg_of_own hown cd.1 (by have := cd.2; omega)
      have CD := veil cd
      have hrow := veil (fun k e => (hown.lt k e).1)
      obtain ⟨_, _, ao, cap, rfl, _⟩ := hdg
      have hl := cd.2
      have ub : (s[k].toNat : Int) ≤ 255 := by have := UInt8.toNat_lt s[k]; omega
      clear hB0 HC1 HC2 dr cd
      by_cases c1 : 48 ≤ (s[k].toNat : Int)
      · have n45 : ¬ (s[k].toNat : Int) = 45 := by omega
        have d45 : decide (s[k].toNat = 45) = false := decide_eq_false (by omega)
        rw [d45, Bool.or_false] at NX
        by_cases c2 : (s[k].toNat : Int) ≤ 57
        · by_cases c3 : ds.length < 40
          · have c3' : (ds.length : Int) < 40 := by omega
            rw [if_pos (by omega)] at NX
            have HN := veil NX
            clear NX
            go_wp2_with (at_builtin; refine wp_digit wr ((s[k].toNat : Int) - 48) rfl _ _ rfl (w.heap.size + 1) _ ds rfl rfl hown (by omega) (by omega) ?_; intro v' w1 R0 hgrow; have B1 := (unveil hB).grow (unveil hrow) hgrow; obtain ⟨_, _, ao', cap', hv', _⟩ := id (dg_of_own R0 (digs_snoc (unveil CD).1 (by omega) (by omega)) (by have := (unveil CD).2; simp; omega)); rw [List.length_append, List.length_singleton] at hv'; subst hv'; have e1 := B1.b1; have e2 := B1.q1; have R1 := veil (ownsRow_setCell_below R0 (a := ⟨w.heap.size, 1, none⟩) (by simp) (.slice ao' (ds.length + 1) cap')); have R2 := veil (B1.store (.slice ao' (ds.length + 1) cap')); clear hgrow B1 R0)
            go_roundw
            case rel => exact ⟨k, _, by omega, by go_num, by rw [unveil HN]; exact ⟨unveil R2, unveil R1⟩⟩
            case measure => first | (simp [intOf]; done) | (simp [intOf]; omega)
          · have c3' : decide ((ds.length : Int) < 40) = false := by simp; omega
            rw [if_neg (by omega)] at NX
            have HN := veil NX
            clear NX
            go_wp2_with fail
            go_roundw
            case rel => exact ⟨k, _, by omega, by go_num, by rw [unveil HN]; exact ⟨unveil hB, hown⟩⟩
            case measure => first | (simp [intOf]; done) | (simp [intOf]; omega)
        · have c2' : decide ((s[k].toNat : Int) - 48 ≤ 9) = false := by simp; omega
          rw [if_neg (by omega)] at NX
          have HN := veil NX
          clear NX
          go_wp2_with fail
          go_roundw
          case rel => exact ⟨k, _, by omega, by go_num, by rw [unveil HN]; exact ⟨unveil hB, hown⟩⟩
          case measure => first | (simp [intOf]; done) | (simp [intOf]; omega)
      · have c1' : decide (0 ≤ (s[k].toNat : Int) - 48) = false := by simp; omega
        rw [if_neg (by omega)] at NX
        by_cases c4 : (s[k].toNat : Int) = 45
        · rw [show decide (s[k].toNat = 45) = true from decide_eq_true (by omega), Bool.or_true] at NX
          have HN := veil NX
          clear NX
          go_wp2_with fail
          go_roundw
          case rel => exact ⟨k, _, by omega, by go_num, by rw [unveil HN]; exact ⟨(unveil hB).mark true, ownsRow_setCell_below hown (a := ⟨w.heap.size, 0, none⟩) (by simp) _⟩⟩
          case measure => first | (simp [intOf]; done) | (simp [intOf]; omega)
        · rw [show decide (s[k].toNat = 45) = false from decide_eq_false (by omega), Bool.or_false] at NX
          have HN := veil NX
          clear NX
          go_wp2_with fail
          go_roundw
          case rel => exact ⟨k, _, by omega, by go_num, by rw [unveil HN]; exact ⟨unveil hB, hown⟩⟩
          case measure => first | (simp [intOf]; done) | (simp [intOf]; omega)
end Go.Proofs.YtaeppjnnddakfaaDoor
