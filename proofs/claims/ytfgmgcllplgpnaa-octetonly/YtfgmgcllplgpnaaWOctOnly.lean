/-
  WALK: OctetOnly (made by wip/gen/gen_only.py).
-/
import Derived.Test.YtfgmgcllplgpnaaWSameB
namespace Go.Proofs.Ytfgmgcllplgpnaa
open Go.RowKit
set_option linter.unusedVariables false
set_option linter.unusedSimpArgs false

/-- Of two varints the first is no beginning of the other. -/
theorem vl_begin {x y : Nat} (hx : x < 18446744073709551616) (hy : y < 18446744073709551616) : decide (vl x = (vl y).take (vl x).length) = decide (x = y) := by
  by_cases h : x = y
  · subst h; simp
  · rw [decide_eq_false h]
    refine decide_eq_false (fun e => h ?_)
    exact vl_apart hx hy (t := (vl y).drop (vl x).length) (by conv => lhs; rw [← List.take_append_drop (vl x).length (vl y)]; rw [← e])
theorem ret_bb {a b : Bool} (h : a = b) : Ending.returned (.bool (a == b)) = .returned (.bool true) := by rw [h]; simp
theorem below_gr0 {B : Nat} {a b : World} (h : a.grownBy b none) (hB : B ≤ a.heap.size) : Below B a b := (Below.refl B a).grown h hB (fun k e => by cases e)

set_option maxRecDepth 100000 in
set_option maxHeartbeats 4000000 in
theorem only_okGt (b o : Nat) (n cap : Nat) (xs : List Int) (x y : Nat) (w : World) (h : BL w (some ⟨b, o, none⟩) n xs) (hn0 : (some ⟨b, o, none⟩ : Option Addr) = none → n = 0) (hcap : n ≤ cap) (hx : x < 18446744073709551616) (hy : y < 18446744073709551616) (hr : (rd xs).2.2 = 0) (hg : (vl y).length < (vl x).length) :
    Calls Try.prog 3 #[.slice (some ⟨b, o, none⟩) n cap, .int .u64 (x : Int), .int .u64 (y : Int)] w fun e w' => e = .returned (.bool true) ∧ Below w.heap.size w w' := by
  have HL := Lib.hid h
  have KN := Lib.hid (newReader_any (some ⟨b, o, none⟩) n cap xs w h hn0)
  have KU := Lib.hid (fun B p a cap W (q : RB W B p a n cap xs 0) => uint_any B p a n cap xs 0 18446744073709551615 W q)
  have KP := Lib.hid (fun B p a cap k W (q : RB W B p a n cap xs k) => place_any B p a n cap xs k W q)
  have KX := Lib.hid (fun W (q : w.heap.size ≤ W.heap.size) => appendUint_any (.slice none 0 0) w.heap.size 0 [] x W (own_nil _ _) (by omega) q hx)
  have KY := Lib.hid (fun W (q : w.heap.size ≤ W.heap.size) => appendUint_any (.slice none 0 0) w.heap.size 0 [] y W (own_nil _ _) (by omega) q hy)
  have BX := Lib.hid (vl_byte x)
  have BY := Lib.hid (vl_byte y)
  have BG := Lib.hid (vl_begin hx hy)
  have h2 := h.2.1
  have lx := vl_len10 hx
  have ly := vl_len10 hy
  have px := vl_pos x
  have py := vl_pos y
  obtain ⟨r1, r2, r3, r4, r5⟩ := rd_only h.2.2.1 hr
  have KV := Lib.hid (fun W (q : w.heap.size ≤ W.heap.size) => appendUint_any (.slice none 0 0) w.heap.size 0 [] (rd xs).1 W (own_nil _ _) (by omega) q r5)
  have U : uR xs 18446744073709551615 = ((rd xs).1, 0, (rd xs).2.1) := by unfold uR; simp [hr]; omega
  have lv : (vl (rd xs).1).length = (rd xs).2.1 := by rw [r1]; have := h.1; simp; omega
  rw [List.drop_zero, U] at KU
  simp only [Nat.zero_add, List.nil_append] at KV
  rw [lv] at KV
  obtain ⟨cv, tv, ev, _⟩ := vl_head (rd xs).1
  have EV := Lib.hid ev
  have BV := Lib.hid (vl_byte (rd xs).1)
  have RV := Lib.hid r1
  have r4' : (rd xs).2.1 ≤ n := by have := h.1; omega
  clear r1 lv ev U r4 hr
  generalize (rd xs).2.1 = m at *
  generalize (rd xs).1 = v at *
  generalize vl v = bv at *
  have KT := Lib.hid (fun a a' c c' W (q : BL W a m bv) (q' : BL W a' m (xs.take m)) => same_any a a' m m c c' bv (xs.take m) W q q')
  rw [decide_eq_true RV.out] at KT
  have m1 : ¬ (m : Int) < 1 := by omega
  have m2 : ¬ (10 : Int) < (m : Int) := by omega
  have m3 : ¬ (n : Int) < (m : Int) := by omega
  have m4 : decide ((m : Int) < 1) = false := decide_eq_false m1
  have m5 : decide ((10 : Int) < (m : Int)) = false := decide_eq_false m2
  have m6 : decide ((n : Int) < (m : Int)) = false := decide_eq_false m3
  have m7 : m ≤ cap := by omega
  have hr : True := trivial
  simp only [List.drop_zero, Nat.zero_add, List.nil_append] at KU KX KY
  obtain ⟨cx, tx, ex, _⟩ := vl_head x
  obtain ⟨cy, ty, ey, _⟩ := vl_head y
  have EX := Lib.hid ex
  have EY := Lib.hid ey
  have XY := Lib.hid (p := ((x : Int) == (y : Int)) = decide (x = y)) (by by_cases q : x = y <;> simp [q]; omega)
  generalize hmx : (vl x).length = mx at *
  generalize hmy : (vl y).length = my at *
  clear hmx hmy
  generalize vl x = bx at *
  generalize vl y = by_ at *
  have KS := Lib.hid (fun a a' c c' W (q : BL W a mx bx) (q' : BL W a' mx (by_.take mx)) => same_any a a' mx mx c c' bx (by_.take mx) W q q')
  rw [BG.out] at KS
  have g1 : (my : Int) < (mx : Int) := by omega
  have g2 : decide ((my : Int) < (mx : Int)) = true := decide_eq_true g1
  have g3 : ¬ (mx : Int) = 0 := by omega
  have g4 : ((mx : Int) == 0) = false := by simp; omega
  have g5 : (0 : Int) < (mx : Int) := by omega
  clear h ex ey hx hy hr hg
  go_enter Try.func3, Try.ntmps3
  go_wp2_with (first
    | (go_at_call 10; refine KN.out.mono ?_; rintro e w1 ⟨p, a1, cap1, rfl, h3, h4⟩; have R1 := Lib.hid h3; have B1 := Lib.hid h4; clear h3 h4)
    | (go_at_call 11; refine (KU.out _ _ _ _ _ R1.out).mono ?_; rintro e w2 ⟨rfl, h3, h4⟩; have R2 := Lib.hid h3; have B2 := Lib.hid (B1.out.trans (gr_out h4 R1.out.base B1.out.size)); clear h3 h4)
    | (go_at_call 12; refine (KP.out _ _ _ _ _ _ R2.out).mono ?_; rintro e w3 ⟨rfl, h3⟩; have B3 := Lib.hid (B2.out.trans (below_gr0 h3 B2.out.size)); clear h3)
    | (go_at_call 14; have qq := O6; refine (KS.out _ _ _ _ _ (own_bl P5.out BX.out (by omega)).1 ((own_bl O6.out BY.out (by omega)).1.upTo mx (by omega))).mono ?_; rintro e w7 ⟨rfl, q7, rfl⟩; have B7 := Lib.hid (below_drewN B6.out q7))
    | (go_at_call 14; have qq := O4; refine (KT.out _ _ _ _ _ (own_bl O4.out BV.out (by omega)).1 ((HL.out.later B4.out).upTo m (by omega))).mono ?_; rintro e w4' ⟨rfl, q4, rfl⟩; have M4 := Lib.hid (below_drewN B4.out q4))
    | (go_at_call 13; have qq := O5; refine (KY.out _ B5.out.size).mono ?_; rintro e w6 ⟨v6, rfl, h3⟩; have B6 := Lib.hid (B5.out.trans (h3.below B5.out.size)); have P5 := Lib.hid (own_later O5.out h3.grown); have O6' := h3.own; have O6 := Lib.hid h3.own; rw [EY.out] at O6'; obtain ⟨g6, cap6, rfl, _⟩ := own_first O6'; have N6 := (own_bl O6.out BY.out (by omega)).2.2; clear h3 O6')
    | (go_at_call 13; have qq := M4; refine (KX.out _ M4.out.size).mono ?_; rintro e w5 ⟨v5, rfl, h3⟩; have B5 := Lib.hid (M4.out.trans (h3.below M4.out.size)); have O5' := h3.own; have O5 := Lib.hid h3.own; rw [EX.out] at O5'; obtain ⟨g5', cap5, rfl, _⟩ := own_first O5'; clear h3 O5')
    | (go_at_call 13; refine (KV.out _ B3.out.size).mono ?_; rintro e w4 ⟨v4, rfl, h3⟩; have B4 := Lib.hid (B3.out.trans (h3.below B3.out.size)); have O4' := h3.own; have O4 := Lib.hid h3.own; rw [EV.out] at O4'; obtain ⟨g4', cap4, rfl, _⟩ := own_first O4'; clear h3 O4'))
  go_ret
  exact ⟨ret_b (decide_eq_true (by omega)), B6.out⟩

set_option maxRecDepth 100000 in
set_option maxHeartbeats 4000000 in
theorem only_okLe (b o : Nat) (n cap : Nat) (xs : List Int) (x y : Nat) (w : World) (h : BL w (some ⟨b, o, none⟩) n xs) (hn0 : (some ⟨b, o, none⟩ : Option Addr) = none → n = 0) (hcap : n ≤ cap) (hx : x < 18446744073709551616) (hy : y < 18446744073709551616) (hr : (rd xs).2.2 = 0) (hg : ¬ (vl y).length < (vl x).length) :
    Calls Try.prog 3 #[.slice (some ⟨b, o, none⟩) n cap, .int .u64 (x : Int), .int .u64 (y : Int)] w fun e w' => e = .returned (.bool true) ∧ Below w.heap.size w w' := by
  have HL := Lib.hid h
  have KN := Lib.hid (newReader_any (some ⟨b, o, none⟩) n cap xs w h hn0)
  have KU := Lib.hid (fun B p a cap W (q : RB W B p a n cap xs 0) => uint_any B p a n cap xs 0 18446744073709551615 W q)
  have KP := Lib.hid (fun B p a cap k W (q : RB W B p a n cap xs k) => place_any B p a n cap xs k W q)
  have KX := Lib.hid (fun W (q : w.heap.size ≤ W.heap.size) => appendUint_any (.slice none 0 0) w.heap.size 0 [] x W (own_nil _ _) (by omega) q hx)
  have KY := Lib.hid (fun W (q : w.heap.size ≤ W.heap.size) => appendUint_any (.slice none 0 0) w.heap.size 0 [] y W (own_nil _ _) (by omega) q hy)
  have BX := Lib.hid (vl_byte x)
  have BY := Lib.hid (vl_byte y)
  have BG := Lib.hid (vl_begin hx hy)
  have h2 := h.2.1
  have lx := vl_len10 hx
  have ly := vl_len10 hy
  have px := vl_pos x
  have py := vl_pos y
  obtain ⟨r1, r2, r3, r4, r5⟩ := rd_only h.2.2.1 hr
  have KV := Lib.hid (fun W (q : w.heap.size ≤ W.heap.size) => appendUint_any (.slice none 0 0) w.heap.size 0 [] (rd xs).1 W (own_nil _ _) (by omega) q r5)
  have U : uR xs 18446744073709551615 = ((rd xs).1, 0, (rd xs).2.1) := by unfold uR; simp [hr]; omega
  have lv : (vl (rd xs).1).length = (rd xs).2.1 := by rw [r1]; have := h.1; simp; omega
  rw [List.drop_zero, U] at KU
  simp only [Nat.zero_add, List.nil_append] at KV
  rw [lv] at KV
  obtain ⟨cv, tv, ev, _⟩ := vl_head (rd xs).1
  have EV := Lib.hid ev
  have BV := Lib.hid (vl_byte (rd xs).1)
  have RV := Lib.hid r1
  have r4' : (rd xs).2.1 ≤ n := by have := h.1; omega
  clear r1 lv ev U r4 hr
  generalize (rd xs).2.1 = m at *
  generalize (rd xs).1 = v at *
  generalize vl v = bv at *
  have KT := Lib.hid (fun a a' c c' W (q : BL W a m bv) (q' : BL W a' m (xs.take m)) => same_any a a' m m c c' bv (xs.take m) W q q')
  rw [decide_eq_true RV.out] at KT
  have m1 : ¬ (m : Int) < 1 := by omega
  have m2 : ¬ (10 : Int) < (m : Int) := by omega
  have m3 : ¬ (n : Int) < (m : Int) := by omega
  have m4 : decide ((m : Int) < 1) = false := decide_eq_false m1
  have m5 : decide ((10 : Int) < (m : Int)) = false := decide_eq_false m2
  have m6 : decide ((n : Int) < (m : Int)) = false := decide_eq_false m3
  have m7 : m ≤ cap := by omega
  have hr : True := trivial
  simp only [List.drop_zero, Nat.zero_add, List.nil_append] at KU KX KY
  obtain ⟨cx, tx, ex, _⟩ := vl_head x
  obtain ⟨cy, ty, ey, _⟩ := vl_head y
  have EX := Lib.hid ex
  have EY := Lib.hid ey
  have XY := Lib.hid (p := ((x : Int) == (y : Int)) = decide (x = y)) (by by_cases q : x = y <;> simp [q]; omega)
  generalize hmx : (vl x).length = mx at *
  generalize hmy : (vl y).length = my at *
  clear hmx hmy
  generalize vl x = bx at *
  generalize vl y = by_ at *
  have KS := Lib.hid (fun a a' c c' W (q : BL W a mx bx) (q' : BL W a' mx (by_.take mx)) => same_any a a' mx mx c c' bx (by_.take mx) W q q')
  rw [BG.out] at KS
  have g1 : ¬ (my : Int) < (mx : Int) := by omega
  have g2 : decide ((my : Int) < (mx : Int)) = false := decide_eq_false g1
  have g6 : ∀ c6 : Nat, my ≤ c6 → mx ≤ c6 := by omega
  have g3 : ¬ (mx : Int) = 0 := by omega
  have g4 : ((mx : Int) == 0) = false := by simp; omega
  have g5 : (0 : Int) < (mx : Int) := by omega
  clear h ex ey hx hy hr hg
  go_enter Try.func3, Try.ntmps3
  go_wp2_with (first
    | (go_at_call 10; refine KN.out.mono ?_; rintro e w1 ⟨p, a1, cap1, rfl, h3, h4⟩; have R1 := Lib.hid h3; have B1 := Lib.hid h4; clear h3 h4)
    | (go_at_call 11; refine (KU.out _ _ _ _ _ R1.out).mono ?_; rintro e w2 ⟨rfl, h3, h4⟩; have R2 := Lib.hid h3; have B2 := Lib.hid (B1.out.trans (gr_out h4 R1.out.base B1.out.size)); clear h3 h4)
    | (go_at_call 12; refine (KP.out _ _ _ _ _ _ R2.out).mono ?_; rintro e w3 ⟨rfl, h3⟩; have B3 := Lib.hid (B2.out.trans (below_gr0 h3 B2.out.size)); clear h3)
    | (go_at_call 14; have qq := O6; refine (KS.out _ _ _ _ _ (own_bl P5.out BX.out (by omega)).1 ((own_bl O6.out BY.out (by omega)).1.upTo mx (by omega))).mono ?_; rintro e w7 ⟨rfl, q7, rfl⟩; have B7 := Lib.hid (below_drewN B6.out q7))
    | (go_at_call 14; have qq := O4; refine (KT.out _ _ _ _ _ (own_bl O4.out BV.out (by omega)).1 ((HL.out.later B4.out).upTo m (by omega))).mono ?_; rintro e w4' ⟨rfl, q4, rfl⟩; have M4 := Lib.hid (below_drewN B4.out q4))
    | (go_at_call 13; have qq := O5; refine (KY.out _ B5.out.size).mono ?_; rintro e w6 ⟨v6, rfl, h3⟩; have B6 := Lib.hid (B5.out.trans (h3.below B5.out.size)); have P5 := Lib.hid (own_later O5.out h3.grown); have O6' := h3.own; have O6 := Lib.hid h3.own; rw [EY.out] at O6'; obtain ⟨g6, cap6, rfl, _⟩ := own_first O6'; have N6 := (own_bl O6.out BY.out (by omega)).2.2; clear h3 O6')
    | (go_at_call 13; have qq := M4; refine (KX.out _ M4.out.size).mono ?_; rintro e w5 ⟨v5, rfl, h3⟩; have B5 := Lib.hid (M4.out.trans (h3.below M4.out.size)); have O5' := h3.own; have O5 := Lib.hid h3.own; rw [EX.out] at O5'; obtain ⟨g5', cap5, rfl, _⟩ := own_first O5'; clear h3 O5')
    | (go_at_call 13; refine (KV.out _ B3.out.size).mono ?_; rintro e w4 ⟨v4, rfl, h3⟩; have B4 := Lib.hid (B3.out.trans (h3.below B3.out.size)); have O4' := h3.own; have O4 := Lib.hid h3.own; rw [EV.out] at O4'; obtain ⟨g4', cap4, rfl, _⟩ := own_first O4'; clear h3 O4'))
  go_ret
  exact ⟨by rw [XY.out]; exact ret_bb rfl, B7.out⟩

set_option maxRecDepth 100000 in
set_option maxHeartbeats 4000000 in
theorem only_badGt (a : Option Addr) (n cap : Nat) (xs : List Int) (x y : Nat) (w : World) (h : BL w (a) n xs) (hn0 : (a : Option Addr) = none → n = 0) (hcap : n ≤ cap) (hx : x < 18446744073709551616) (hy : y < 18446744073709551616) (hr : ¬ (rd xs).2.2 = 0) (hg : (vl y).length < (vl x).length) :
    Calls Try.prog 3 #[.slice (a) n cap, .int .u64 (x : Int), .int .u64 (y : Int)] w fun e w' => e = .returned (.bool true) ∧ Below w.heap.size w w' := by
  have HL := Lib.hid h
  have KN := Lib.hid (newReader_any (a) n cap xs w h hn0)
  have KU := Lib.hid (fun B p a cap W (q : RB W B p a n cap xs 0) => uint_any B p a n cap xs 0 18446744073709551615 W q)
  have KP := Lib.hid (fun B p a cap k W (q : RB W B p a n cap xs k) => place_any B p a n cap xs k W q)
  have KX := Lib.hid (fun W (q : w.heap.size ≤ W.heap.size) => appendUint_any (.slice none 0 0) w.heap.size 0 [] x W (own_nil _ _) (by omega) q hx)
  have KY := Lib.hid (fun W (q : w.heap.size ≤ W.heap.size) => appendUint_any (.slice none 0 0) w.heap.size 0 [] y W (own_nil _ _) (by omega) q hy)
  have BX := Lib.hid (vl_byte x)
  have BY := Lib.hid (vl_byte y)
  have BG := Lib.hid (vl_begin hx hy)
  have h2 := h.2.1
  have lx := vl_len10 hx
  have ly := vl_len10 hy
  have px := vl_pos x
  have py := vl_pos y
  have U : uR xs 18446744073709551615 = (0, (rd xs).2.2, 0) := by unfold uR; simp [hr]
  rw [List.drop_zero, U] at KU
  have e1 : ((rd xs).2.2 == 0) = false := by simpa using hr
  clear U
  generalize (rd xs).2.2 = er at *
  simp only [List.drop_zero, Nat.zero_add, List.nil_append] at KU KX KY
  obtain ⟨cx, tx, ex, _⟩ := vl_head x
  obtain ⟨cy, ty, ey, _⟩ := vl_head y
  have EX := Lib.hid ex
  have EY := Lib.hid ey
  have XY := Lib.hid (p := ((x : Int) == (y : Int)) = decide (x = y)) (by by_cases q : x = y <;> simp [q]; omega)
  generalize hmx : (vl x).length = mx at *
  generalize hmy : (vl y).length = my at *
  clear hmx hmy
  generalize vl x = bx at *
  generalize vl y = by_ at *
  have KS := Lib.hid (fun a a' c c' W (q : BL W a mx bx) (q' : BL W a' mx (by_.take mx)) => same_any a a' mx mx c c' bx (by_.take mx) W q q')
  rw [BG.out] at KS
  have g1 : (my : Int) < (mx : Int) := by omega
  have g2 : decide ((my : Int) < (mx : Int)) = true := decide_eq_true g1
  have g3 : ¬ (mx : Int) = 0 := by omega
  have g4 : ((mx : Int) == 0) = false := by simp; omega
  have g5 : (0 : Int) < (mx : Int) := by omega
  clear h ex ey hx hy hr hg
  go_enter Try.func3, Try.ntmps3
  go_wp2_with (first
    | (go_at_call 10; refine KN.out.mono ?_; rintro e w1 ⟨p, a1, cap1, rfl, h3, h4⟩; have R1 := Lib.hid h3; have B1 := Lib.hid h4; clear h3 h4)
    | (go_at_call 11; refine (KU.out _ _ _ _ _ R1.out).mono ?_; rintro e w2 ⟨rfl, h3, h4⟩; have R2 := Lib.hid h3; have B2 := Lib.hid (B1.out.trans (gr_out h4 R1.out.base B1.out.size)); clear h3 h4)
    | (go_at_call 12; refine (KP.out _ _ _ _ _ _ R2.out).mono ?_; rintro e w3 ⟨rfl, h3⟩; have B3 := Lib.hid (B2.out.trans (below_gr0 h3 B2.out.size)); clear h3)
    | (go_at_call 14; have qq := O6; refine (KS.out _ _ _ _ _ (own_bl P5.out BX.out (by omega)).1 ((own_bl O6.out BY.out (by omega)).1.upTo mx (by omega))).mono ?_; rintro e w7 ⟨rfl, q7, rfl⟩; have B7 := Lib.hid (below_drewN B6.out q7))

    | (go_at_call 13; have qq := O5; refine (KY.out _ B5.out.size).mono ?_; rintro e w6 ⟨v6, rfl, h3⟩; have B6 := Lib.hid (B5.out.trans (h3.below B5.out.size)); have P5 := Lib.hid (own_later O5.out h3.grown); have O6' := h3.own; have O6 := Lib.hid h3.own; rw [EY.out] at O6'; obtain ⟨g6, cap6, rfl, _⟩ := own_first O6'; have N6 := (own_bl O6.out BY.out (by omega)).2.2; clear h3 O6')
    | (go_at_call 13; have qq := B3; refine (KX.out _ B3.out.size).mono ?_; rintro e w5 ⟨v5, rfl, h3⟩; have B5 := Lib.hid (B3.out.trans (h3.below B3.out.size)); have O5' := h3.own; have O5 := Lib.hid h3.own; rw [EX.out] at O5'; obtain ⟨g5', cap5, rfl, _⟩ := own_first O5'; clear h3 O5'))
  go_ret
  exact ⟨ret_b (decide_eq_true (by omega)), B6.out⟩

set_option maxRecDepth 100000 in
set_option maxHeartbeats 4000000 in
theorem only_badLe (a : Option Addr) (n cap : Nat) (xs : List Int) (x y : Nat) (w : World) (h : BL w (a) n xs) (hn0 : (a : Option Addr) = none → n = 0) (hcap : n ≤ cap) (hx : x < 18446744073709551616) (hy : y < 18446744073709551616) (hr : ¬ (rd xs).2.2 = 0) (hg : ¬ (vl y).length < (vl x).length) :
    Calls Try.prog 3 #[.slice (a) n cap, .int .u64 (x : Int), .int .u64 (y : Int)] w fun e w' => e = .returned (.bool true) ∧ Below w.heap.size w w' := by
  have HL := Lib.hid h
  have KN := Lib.hid (newReader_any (a) n cap xs w h hn0)
  have KU := Lib.hid (fun B p a cap W (q : RB W B p a n cap xs 0) => uint_any B p a n cap xs 0 18446744073709551615 W q)
  have KP := Lib.hid (fun B p a cap k W (q : RB W B p a n cap xs k) => place_any B p a n cap xs k W q)
  have KX := Lib.hid (fun W (q : w.heap.size ≤ W.heap.size) => appendUint_any (.slice none 0 0) w.heap.size 0 [] x W (own_nil _ _) (by omega) q hx)
  have KY := Lib.hid (fun W (q : w.heap.size ≤ W.heap.size) => appendUint_any (.slice none 0 0) w.heap.size 0 [] y W (own_nil _ _) (by omega) q hy)
  have BX := Lib.hid (vl_byte x)
  have BY := Lib.hid (vl_byte y)
  have BG := Lib.hid (vl_begin hx hy)
  have h2 := h.2.1
  have lx := vl_len10 hx
  have ly := vl_len10 hy
  have px := vl_pos x
  have py := vl_pos y
  have U : uR xs 18446744073709551615 = (0, (rd xs).2.2, 0) := by unfold uR; simp [hr]
  rw [List.drop_zero, U] at KU
  have e1 : ((rd xs).2.2 == 0) = false := by simpa using hr
  clear U
  generalize (rd xs).2.2 = er at *
  simp only [List.drop_zero, Nat.zero_add, List.nil_append] at KU KX KY
  obtain ⟨cx, tx, ex, _⟩ := vl_head x
  obtain ⟨cy, ty, ey, _⟩ := vl_head y
  have EX := Lib.hid ex
  have EY := Lib.hid ey
  have XY := Lib.hid (p := ((x : Int) == (y : Int)) = decide (x = y)) (by by_cases q : x = y <;> simp [q]; omega)
  generalize hmx : (vl x).length = mx at *
  generalize hmy : (vl y).length = my at *
  clear hmx hmy
  generalize vl x = bx at *
  generalize vl y = by_ at *
  have KS := Lib.hid (fun a a' c c' W (q : BL W a mx bx) (q' : BL W a' mx (by_.take mx)) => same_any a a' mx mx c c' bx (by_.take mx) W q q')
  rw [BG.out] at KS
  have g1 : ¬ (my : Int) < (mx : Int) := by omega
  have g2 : decide ((my : Int) < (mx : Int)) = false := decide_eq_false g1
  have g6 : ∀ c6 : Nat, my ≤ c6 → mx ≤ c6 := by omega
  have g3 : ¬ (mx : Int) = 0 := by omega
  have g4 : ((mx : Int) == 0) = false := by simp; omega
  have g5 : (0 : Int) < (mx : Int) := by omega
  clear h ex ey hx hy hr hg
  go_enter Try.func3, Try.ntmps3
  go_wp2_with (first
    | (go_at_call 10; refine KN.out.mono ?_; rintro e w1 ⟨p, a1, cap1, rfl, h3, h4⟩; have R1 := Lib.hid h3; have B1 := Lib.hid h4; clear h3 h4)
    | (go_at_call 11; refine (KU.out _ _ _ _ _ R1.out).mono ?_; rintro e w2 ⟨rfl, h3, h4⟩; have R2 := Lib.hid h3; have B2 := Lib.hid (B1.out.trans (gr_out h4 R1.out.base B1.out.size)); clear h3 h4)
    | (go_at_call 12; refine (KP.out _ _ _ _ _ _ R2.out).mono ?_; rintro e w3 ⟨rfl, h3⟩; have B3 := Lib.hid (B2.out.trans (below_gr0 h3 B2.out.size)); clear h3)
    | (go_at_call 14; have qq := O6; refine (KS.out _ _ _ _ _ (own_bl P5.out BX.out (by omega)).1 ((own_bl O6.out BY.out (by omega)).1.upTo mx (by omega))).mono ?_; rintro e w7 ⟨rfl, q7, rfl⟩; have B7 := Lib.hid (below_drewN B6.out q7))

    | (go_at_call 13; have qq := O5; refine (KY.out _ B5.out.size).mono ?_; rintro e w6 ⟨v6, rfl, h3⟩; have B6 := Lib.hid (B5.out.trans (h3.below B5.out.size)); have P5 := Lib.hid (own_later O5.out h3.grown); have O6' := h3.own; have O6 := Lib.hid h3.own; rw [EY.out] at O6'; obtain ⟨g6, cap6, rfl, _⟩ := own_first O6'; have N6 := (own_bl O6.out BY.out (by omega)).2.2; clear h3 O6')
    | (go_at_call 13; have qq := B3; refine (KX.out _ B3.out.size).mono ?_; rintro e w5 ⟨v5, rfl, h3⟩; have B5 := Lib.hid (B3.out.trans (h3.below B3.out.size)); have O5' := h3.own; have O5 := Lib.hid h3.own; rw [EX.out] at O5'; obtain ⟨g5', cap5, rfl, _⟩ := own_first O5'; clear h3 O5'))
  go_ret
  exact ⟨by rw [XY.out]; exact ret_bb rfl, B7.out⟩

theorem octetOnly_any (a : Option Addr) (n cap : Nat) (xs : List Int) (x y : Nat) (w : World) (h : BL w a n xs ∧ (a = none → n = 0) ∧ n ≤ cap) (hx : x < 18446744073709551616) (hy : y < 18446744073709551616) :
    Calls Try.prog 3 #[.slice a n cap, .int .u64 (x : Int), .int .u64 (y : Int)] w fun e w' => e = .returned (.bool true) ∧ Below w.heap.size w w' := by
  obtain ⟨h1, h2, h3⟩ := h
  by_cases hr : (rd xs).2.2 = 0
  · obtain ⟨_, _, r3, r4, _⟩ := rd_only h1.2.2.1 hr
    rcases h1.2.2.2 with h0 | ⟨b, o, rfl, _⟩
    · have := h1.1; omega
    · by_cases hg : (vl y).length < (vl x).length
      · exact only_okGt b o n cap xs x y w h1 h2 h3 hx hy hr hg
      · exact only_okLe b o n cap xs x y w h1 h2 h3 hx hy hr hg
  · by_cases hg : (vl y).length < (vl x).length
    · exact only_badGt a n cap xs x y w h1 h2 h3 hx hy hr hg
    · exact only_badLe a n cap xs x y w h1 h2 h3 hx hy hr hg
theorem u64_nat {z : Int} (h : (Lit.int .u64 z).wf = true) : ∃ n : Nat, z = (n : Int) ∧ n < 18446744073709551616 := by
  have : 0 ≤ z ∧ z ≤ 18446744073709551615 := by simpa [Lit.wf, IntKind.min, IntKind.max, IntKind.bits, IntKind.signed] using h
  exact ⟨z.toNat, by omega, by omega⟩
theorem octetOnly_walk (a : Option Addr) (n cap : Nat) (xs : List Int) (x y : Int) (w : World) (h : BL w a n xs ∧ (a = none → n = 0) ∧ n ≤ cap) (hx : (Lit.int .u64 x).wf = true) (hy : (Lit.int .u64 y).wf = true) :
    Calls Try.prog 3 #[.slice a n cap, .int .u64 x, .int .u64 y] w fun e w' => e = .returned (.bool true) ∧ Below w.heap.size w w' := by
  obtain ⟨x, rfl, hx2⟩ := u64_nat hx
  obtain ⟨y, rfl, hy2⟩ := u64_nat hy
  exact octetOnly_any a n cap xs x y w h hx2 hy2
end Go.Proofs.Ytfgmgcllplgpnaa
