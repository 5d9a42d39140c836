/-
  WALK: LexDates.
-/
import Derived.Test.YtadcgkfeeakpeaaDoorWLexNum
import Derived.Test.YtadcgkfeeakpeaaDoorPlainDates
import Derived.Test.YtadcgkfeeakpeaaDoorWText2L
namespace Go.Proofs.YtadcgkfeeakpeaaDoor
open Go.RowKit Lx
set_option linter.unusedVariables false
set_option linter.unusedSimpArgs false

theorem box3 {w w1 : World} {t : TypeId} {y m d : Int} (b : Below (w.alloc (.cells #[.int .i64 y, .int .i64 m, .int .i64 d] t)).heap.size (w.alloc (.cells #[.int .i64 y, .int .i64 m, .int .i64 d] t)) w1) :
    w1.cell? ⟨w.heap.size, 0, none⟩ = some (.int .i64 y) ∧ w1.cell? ⟨w.heap.size, 1, none⟩ = some (.int .i64 m) ∧ w1.cell? ⟨w.heap.size, 2, none⟩ = some (.int .i64 d) := by
  have h := alloc_kept b
  refine ⟨?_, ?_, ?_⟩ <;> simp [World.cell?, h]
theorem again3 {w1 w2 : World} {g : Nat} {y m d : Int} (h : w1.cell? ⟨g, 0, none⟩ = some (.int .i64 y) ∧ w1.cell? ⟨g, 1, none⟩ = some (.int .i64 m) ∧ w1.cell? ⟨g, 2, none⟩ = some (.int .i64 d)) (hg : g < w1.heap.size) (b : Below w1.heap.size w1 w2) :
    w2.cell? ⟨g, 0, none⟩ = some (.int .i64 y) ∧ w2.cell? ⟨g, 1, none⟩ = some (.int .i64 m) ∧ w2.cell? ⟨g, 2, none⟩ = some (.int .i64 d) :=
  ⟨(b.cell (p := ⟨g, 0, none⟩) hg).trans h.1, (b.cell (p := ⟨g, 1, none⟩) hg).trans h.2.1, (b.cell (p := ⟨g, 2, none⟩) hg).trans h.2.2⟩
set_option maxRecDepth 100000 in
set_option maxHeartbeats 2000000 in
theorem lexDates_yes (y m d : Int) (w : World) (hM : Mon w) (hE : Ev w) (hp : Pw w) (he : Cal.exB y m d = true) :
    Calls Tryd.prog 10 #[.agg #[.int .i64 y, .int .i64 m, .int .i64 d]] w fun e w' => e = .returned (.bool true) ∧ Below w.heap.size w w' := by
  obtain ⟨h1, h2, h3, h4, h5, h6⟩ := Cal.ex_out he
  have l := (Cal.len_bd y m).2
  obtain ⟨f1, f2, f3, f4, f5⟩ := date_text (y := y) (m := m) (d := d) (by omega) (by omega) (by omega) (by omega) (by omega) (by omega)
  have sc := (sc_date f1 f2).1 (by rw [f3, f4, f5]; exact he)
  rw [f3, f4, f5] at sc
  have HM := Lib.hid (p := ∀ W, Below w.heap.size w W → Mon W) (fun W b => mon_below (Nat.le_refl _) b hM)
  have HE := Lib.hid (p := ∀ W, Below w.heap.size w W → Ev W) (fun W b => ev_below hE b)
  have KT := Lib.hid (fun W hM hp => text_yes y m d W hM hp he)
  change RowKit.Hid (∀ W, Mon W → Pw W → Calls Tryd.prog 22 #[.agg #[.int .i64 y, .int .i64 m, .int .i64 d]] W fun e w' => e = .returned (.tuple #[.string (bs (dtxL y m d)), .int .i64 0]) ∧ Below W.heap.size W w') at KT
  have MA := Lib.hid (p := ∀ o, Mon (w.alloc o) ∧ Pw (w.alloc o)) (fun o => ⟨mon_alloc hM, pw_below hp ((Below.refl _ _).alloc (Nat.le_refl _) _)⟩)
  have KS := Lib.hid (fun W hM hE => scan_is (bs (dtxL y m d)) (by rw [bs_size]; omega) [⟨4, dtxL y m d, 0, 0, y, m, d, 0, 0⟩] 0 0 (.inr ⟨by rw [lst_bs]; omega, by rw [lst_bs]; exact sc⟩) W hM hE)
  rw [show ([⟨4, dtxL y m d, 0, 0, y, m, d, 0, 0⟩] : List Tok).length = 1 from rfl] at KS
  obtain ⟨s, hs⟩ : ∃ s, bs (dtxL y m d) = s := ⟨_, rfl⟩
  rw [hs] at KT KS
  have HS := Lib.hid hs
  clear hM hE hp he h1 h2 h3 h4 h5 h6 l f1 f2 f3 f4 f5 sc hs
  go_enter Tryd.func10, Tryd.ntmps10
  go_wp2_with (first
    | (go_at_call 22; refine (KT.out _ (MA.out _).1 (MA.out _).2).mono ?_; rintro e w1 ⟨rfl, b1⟩; have B1 := Lib.hid (alloc_below b1); have C1 := Lib.hid (box3 b1); have Z1 := Lib.hid (size_kept b1); clear b1)
    | (go_at_call 12; refine (KS.out _ (HM.out _ B1.out) (HE.out _ B1.out)).mono ?_; rintro e w2 ⟨a, cap, rfl, hL⟩; have B2 := Lib.hid (B1.out.trans (hL.bel.mono B1.out.size)); obtain ⟨x, o, rfl, hK⟩ := TL.one hL.tl; obtain ⟨c0, c1, c2, c3, c4, c5, c6, c7, c8⟩ := hK; rw [HS.out] at c1; obtain ⟨k0, k1, k2⟩ := again3 C1.out Z1.out hL.bel; clear hL))
  go_quiet (fail)
  go_wp2
  go_ret
  exact ⟨by simp, below_nq1 B2.out⟩
set_option maxRecDepth 100000 in
set_option maxHeartbeats 2000000 in
theorem lexDates_o1 (y m d : Int) (w : World) (hM : Mon w) (he : Cal.exB y m d = false) (hq : y < 1000) :
    Calls Tryd.prog 10 #[.agg #[.int .i64 y, .int .i64 m, .int .i64 d]] w fun e w' => e = .returned (.bool true) ∧ Below w.heap.size w w' := by
  have KT := Lib.hid (fun W hM => text_no y m d W hM he)
  have MA := Lib.hid (p := ∀ o, Mon (w.alloc o)) (fun o => mon_alloc hM)
  have f0 : y < 1000 := by omega
  clear hM he hq
  go_enter Tryd.func10, Tryd.ntmps10
  go_wp2_with (go_at_call 22; refine (KT.out _ (MA.out _)).mono ?_; rintro e w1 ⟨rfl, b1⟩; have B1 := Lib.hid (alloc_below b1); obtain ⟨k0, k1, k2⟩ := box3 b1; have Z1 := Lib.hid (size_kept b1); clear b1)
  go_ret
  exact ⟨rfl, B1.out⟩
set_option maxRecDepth 100000 in
set_option maxHeartbeats 2000000 in
theorem lexDates_o2 (y m d : Int) (w : World) (hM : Mon w) (he : Cal.exB y m d = false) (hq : 1000 ≤ y ∧ 9999 < y) :
    Calls Tryd.prog 10 #[.agg #[.int .i64 y, .int .i64 m, .int .i64 d]] w fun e w' => e = .returned (.bool true) ∧ Below w.heap.size w w' := by
  have KT := Lib.hid (fun W hM => text_no y m d W hM he)
  have MA := Lib.hid (p := ∀ o, Mon (w.alloc o)) (fun o => mon_alloc hM)
  have f0 : decide (y < 1000) = false := decide_eq_false (by omega)
  have f1 : 9999 < y := by omega
  clear hM he hq
  go_enter Tryd.func10, Tryd.ntmps10
  go_wp2_with (go_at_call 22; refine (KT.out _ (MA.out _)).mono ?_; rintro e w1 ⟨rfl, b1⟩; have B1 := Lib.hid (alloc_below b1); obtain ⟨k0, k1, k2⟩ := box3 b1; have Z1 := Lib.hid (size_kept b1); clear b1)
  go_ret
  exact ⟨rfl, B1.out⟩
set_option maxRecDepth 100000 in
set_option maxHeartbeats 2000000 in
theorem lexDates_o3 (y m d : Int) (w : World) (hM : Mon w) (he : Cal.exB y m d = false) (hq : 1000 ≤ y ∧ y ≤ 9999 ∧ m < 0) :
    Calls Tryd.prog 10 #[.agg #[.int .i64 y, .int .i64 m, .int .i64 d]] w fun e w' => e = .returned (.bool true) ∧ Below w.heap.size w w' := by
  have KT := Lib.hid (fun W hM => text_no y m d W hM he)
  have MA := Lib.hid (p := ∀ o, Mon (w.alloc o)) (fun o => mon_alloc hM)
  have f0 : decide (y < 1000) = false := decide_eq_false (by omega)
  have f1 : decide (9999 < y) = false := decide_eq_false (by omega)
  have f2 : m < 0 := by omega
  clear hM he hq
  go_enter Tryd.func10, Tryd.ntmps10
  go_wp2_with (go_at_call 22; refine (KT.out _ (MA.out _)).mono ?_; rintro e w1 ⟨rfl, b1⟩; have B1 := Lib.hid (alloc_below b1); obtain ⟨k0, k1, k2⟩ := box3 b1; have Z1 := Lib.hid (size_kept b1); clear b1)
  go_ret
  exact ⟨rfl, B1.out⟩
set_option maxRecDepth 100000 in
set_option maxHeartbeats 2000000 in
theorem lexDates_o4 (y m d : Int) (w : World) (hM : Mon w) (he : Cal.exB y m d = false) (hq : 1000 ≤ y ∧ y ≤ 9999 ∧ 0 ≤ m ∧ 99 < m) :
    Calls Tryd.prog 10 #[.agg #[.int .i64 y, .int .i64 m, .int .i64 d]] w fun e w' => e = .returned (.bool true) ∧ Below w.heap.size w w' := by
  have KT := Lib.hid (fun W hM => text_no y m d W hM he)
  have MA := Lib.hid (p := ∀ o, Mon (w.alloc o)) (fun o => mon_alloc hM)
  have f0 : decide (y < 1000) = false := decide_eq_false (by omega)
  have f1 : decide (9999 < y) = false := decide_eq_false (by omega)
  have f2 : decide (m < 0) = false := decide_eq_false (by omega)
  have f3 : 99 < m := by omega
  clear hM he hq
  go_enter Tryd.func10, Tryd.ntmps10
  go_wp2_with (go_at_call 22; refine (KT.out _ (MA.out _)).mono ?_; rintro e w1 ⟨rfl, b1⟩; have B1 := Lib.hid (alloc_below b1); obtain ⟨k0, k1, k2⟩ := box3 b1; have Z1 := Lib.hid (size_kept b1); clear b1)
  go_ret
  exact ⟨rfl, B1.out⟩
set_option maxRecDepth 100000 in
set_option maxHeartbeats 2000000 in
theorem lexDates_o5 (y m d : Int) (w : World) (hM : Mon w) (he : Cal.exB y m d = false) (hq : 1000 ≤ y ∧ y ≤ 9999 ∧ 0 ≤ m ∧ m ≤ 99 ∧ d < 0) :
    Calls Tryd.prog 10 #[.agg #[.int .i64 y, .int .i64 m, .int .i64 d]] w fun e w' => e = .returned (.bool true) ∧ Below w.heap.size w w' := by
  have KT := Lib.hid (fun W hM => text_no y m d W hM he)
  have MA := Lib.hid (p := ∀ o, Mon (w.alloc o)) (fun o => mon_alloc hM)
  have f0 : decide (y < 1000) = false := decide_eq_false (by omega)
  have f1 : decide (9999 < y) = false := decide_eq_false (by omega)
  have f2 : decide (m < 0) = false := decide_eq_false (by omega)
  have f3 : decide (99 < m) = false := decide_eq_false (by omega)
  have f4 : d < 0 := by omega
  clear hM he hq
  go_enter Tryd.func10, Tryd.ntmps10
  go_wp2_with (go_at_call 22; refine (KT.out _ (MA.out _)).mono ?_; rintro e w1 ⟨rfl, b1⟩; have B1 := Lib.hid (alloc_below b1); obtain ⟨k0, k1, k2⟩ := box3 b1; have Z1 := Lib.hid (size_kept b1); clear b1)
  go_ret
  exact ⟨rfl, B1.out⟩
set_option maxRecDepth 100000 in
set_option maxHeartbeats 2000000 in
theorem lexDates_o6 (y m d : Int) (w : World) (hM : Mon w) (he : Cal.exB y m d = false) (hq : 1000 ≤ y ∧ y ≤ 9999 ∧ 0 ≤ m ∧ m ≤ 99 ∧ 0 ≤ d ∧ 99 < d) :
    Calls Tryd.prog 10 #[.agg #[.int .i64 y, .int .i64 m, .int .i64 d]] w fun e w' => e = .returned (.bool true) ∧ Below w.heap.size w w' := by
  have KT := Lib.hid (fun W hM => text_no y m d W hM he)
  have MA := Lib.hid (p := ∀ o, Mon (w.alloc o)) (fun o => mon_alloc hM)
  have f0 : decide (y < 1000) = false := decide_eq_false (by omega)
  have f1 : decide (9999 < y) = false := decide_eq_false (by omega)
  have f2 : decide (m < 0) = false := decide_eq_false (by omega)
  have f3 : decide (99 < m) = false := decide_eq_false (by omega)
  have f4 : decide (d < 0) = false := decide_eq_false (by omega)
  have f5 : 99 < d := by omega
  clear hM he hq
  go_enter Tryd.func10, Tryd.ntmps10
  go_wp2_with (go_at_call 22; refine (KT.out _ (MA.out _)).mono ?_; rintro e w1 ⟨rfl, b1⟩; have B1 := Lib.hid (alloc_below b1); obtain ⟨k0, k1, k2⟩ := box3 b1; have Z1 := Lib.hid (size_kept b1); clear b1)
  go_ret
  exact ⟨rfl, B1.out⟩
set_option maxRecDepth 100000 in
set_option maxHeartbeats 2000000 in
theorem lexDates_in (y m d : Int) (w : World) (hM : Mon w) (hE : Ev w) (hP : Pows w) (he : Cal.exB y m d = false) (hq : 1000 ≤ y ∧ y ≤ 9999 ∧ 0 ≤ m ∧ m ≤ 99 ∧ 0 ≤ d ∧ d ≤ 99) :
    Calls Tryd.prog 10 #[.agg #[.int .i64 y, .int .i64 m, .int .i64 d]] w fun e w' => e = .returned (.bool true) ∧ Below w.heap.size w w' := by
  have KT := Lib.hid (fun W hM => text_no y m d W hM he)
  have MA := Lib.hid (p := ∀ o, Mon (w.alloc o)) (fun o => mon_alloc hM)
  have f0 : decide (y < 1000) = false := decide_eq_false (by omega)
  have f1 : decide (9999 < y) = false := decide_eq_false (by omega)
  have f2 : decide (m < 0) = false := decide_eq_false (by omega)
  have f3 : decide (99 < m) = false := decide_eq_false (by omega)
  have f4 : decide (d < 0) = false := decide_eq_false (by omega)
  have f5 : ¬ 99 < d := by omega
  obtain ⟨q1, q2, q3, q4, q5, q6⟩ := hq
  obtain ⟨t1, t2, t3, t4, t5⟩ := date_text (y := y) (m := m) (d := d) (by omega) q2 q3 q4 q5 q6
  have sc := (sc_date t1 t2).2 (by rw [t3, t4, t5]; exact he)
  have HM := Lib.hid (p := ∀ W, Below w.heap.size w W → Mon W) (fun W b => mon_below (Nat.le_refl _) b hM)
  have HE := Lib.hid (p := ∀ W, Below w.heap.size w W → Ev W) (fun W b => ev_below hE b)
  have HP := Lib.hid (p := ∀ W, Below w.heap.size w W → Pows W) (fun W b => pw_below (w := w) hP b)
  have KN := Lib.hid (fun W hP => numTextN (10000 * y + 100 * m + d) (by unfold inR; omega) W hP)
  rw [dec_eight q1 q2 q3 q4 q5 q6] at KN
  have A1 := lastD_len 4 y
  have A2 := lastD_len 2 m
  have A3 := lastD_len 2 d
  obtain ⟨s8, hs8⟩ : ∃ s8, bs (lastD 4 y ++ lastD 2 m ++ lastD 2 d) = s8 := ⟨_, rfl⟩
  have z8 : s8.size = 8 := by rw [← hs8, bs_size]; simp only [List.length_append]; omega
  have e8 : lst s8 = lastD 4 y ++ lastD 2 m ++ lastD 2 d := by rw [← hs8, lst_bs]
  rw [hs8] at KN
  have c1 := cutTo s8 4 (by omega) (by omega)
  have c2 := cutMid s8 4 6 (by omega) (by omega) (by omega)
  have c3 := cutFrom s8 6 (by omega) (by omega)
  rw [e8, show (4 : Int).toNat = 4 from rfl, show (lastD 4 y ++ lastD 2 m ++ lastD 2 d).take 4 = lastD 4 y by rw [List.append_assoc, List.take_append_of_le_length (by omega), List.take_of_length_le (by omega)]] at c1
  rw [e8, show (4 : Int).toNat = 4 from rfl, show (6 : Int).toNat = 6 from rfl, show ((lastD 4 y ++ lastD 2 m ++ lastD 2 d).take 6).drop 4 = lastD 2 m by rw [List.take_append_of_le_length (by simp only [List.length_append]; omega), List.take_of_length_le (by simp only [List.length_append]; omega)]; exact List.drop_left' (by omega)] at c2
  rw [e8, show (6 : Int).toNat = 6 from rfl, show (lastD 4 y ++ lastD 2 m ++ lastD 2 d).drop 6 = lastD 2 d from List.drop_left' (by simp only [List.length_append]; omega)] at c3
  have p1 := add_str (bs (lastD 4 y)) ⟨#[45]⟩ (by rw [bs_size]; omega) (by decide)
  have p2 := add_str (bs (lastD 4 y ++ [45])) (bs (lastD 2 m)) (by rw [bs_size]; simp only [List.length_append, List.length_cons, List.length_nil]; omega) (by rw [bs_size]; omega)
  have p3 := add_str (bs (lastD 4 y ++ [45] ++ lastD 2 m)) ⟨#[45]⟩ (by rw [bs_size]; simp only [List.length_append, List.length_cons, List.length_nil]; omega) (by decide)
  have p4 := add_str (bs (lastD 4 y ++ [45] ++ lastD 2 m ++ [45])) (bs (lastD 2 d)) (by rw [bs_size]; simp only [List.length_append, List.length_cons, List.length_nil]; omega) (by rw [bs_size]; omega)
  rw [lst_bs, show lst ⟨#[45]⟩ = [45] from rfl] at p1 p3
  rw [lst_bs, lst_bs] at p2 p4
  change ∀ W, (Op.stringOp .add (bs (lastD 4 y ++ [45] ++ lastD 2 m ++ [45])) (bs (lastD 2 d))).run Tryd.prog W = .ok (.string (bs (dtxL y m d))) W at p4
  have KS := Lib.hid (p := ∀ W, Below w.heap.size w W → Calls Tryd.prog 12 #[.string (bs (dtxL y m d))] W fun e w' => ∃ a cap, e = .returned (.tuple #[.slice a 0 cap, .int .i64 0, .int .i64 62]) ∧ Below w.heap.size w w') (fun W b => by
    refine (scan_is (bs (dtxL y m d)) (by rw [bs_size]; omega) [] 0 62 (.inr ⟨by rw [lst_bs]; omega, by rw [lst_bs]; exact sc⟩) W (HM.out W b) (HE.out W b)).mono ?_
    rintro e w' ⟨a, cap, rfl, hL⟩
    exact ⟨a, cap, rfl, b.trans (hL.bel.mono b.size)⟩)
  have z8' : ((s8.size : Int) != 8) = false := by rw [z8]; rfl
  generalize bs (dtxL y m d) = sT at *
  generalize bs (lastD 4 y ++ [45] ++ lastD 2 m ++ [45]) = s4 at *
  generalize bs (lastD 4 y ++ [45] ++ lastD 2 m) = s3 at *
  generalize bs (lastD 4 y ++ [45]) = s2 at *
  generalize bs (lastD 4 y) = sa at *
  generalize bs (lastD 2 m) = sb at *
  generalize bs (lastD 2 d) = sc_ at *
  clear hM hE hP he t1 t2 t3 t4 t5 sc A1 A2 A3 hs8 e8
  go_enter Tryd.func10, Tryd.ntmps10
  go_wp2_with (first
    | (go_at_call 22; refine (KT.out _ (MA.out _)).mono ?_; rintro e w1 ⟨rfl, b1⟩; have B1 := Lib.hid (alloc_below b1); obtain ⟨k0, k1, k2⟩ := box3 b1; have Z1 := Lib.hid (size_kept b1); clear b1)
    | (go_at_call 20; refine (KN.out _ (HP.out _ B1.out)).mono ?_; rintro e w2 ⟨rfl, b2⟩; have B2 := Lib.hid (B1.out.trans (b2.mono B1.out.size)); clear b2))
  go_region_held3 (fun _ => True) (exact trivial)
    (first
    | (go_at_call 12; refine (KS.out _ B2.out.drew).mono ?_; rintro e w3 ⟨a, cap, rfl, b3⟩; have B3 := Lib.hid b3; clear b3))
  all_goals
    go_wp2
    go_ret
    exact ⟨rfl, B3.out⟩
theorem lexDates_go (y m d : Int) (w : World) (hM : Mon w) (hE : Ev w) (hP : Pows w) :
    Calls Tryd.prog 10 #[.agg #[.int .i64 y, .int .i64 m, .int .i64 d]] w fun e w' => e = .returned (.bool true) ∧ Below w.heap.size w w' := by
  cases he : Cal.exB y m d with
  | true => exact lexDates_yes y m d w hM hE hP he
  | false =>
    rcases (show y < 1000 ∨ (1000 ≤ y ∧ 9999 < y) ∨ (1000 ≤ y ∧ y ≤ 9999 ∧ m < 0) ∨ (1000 ≤ y ∧ y ≤ 9999 ∧ 0 ≤ m ∧ 99 < m) ∨ (1000 ≤ y ∧ y ≤ 9999 ∧ 0 ≤ m ∧ m ≤ 99 ∧ d < 0) ∨ (1000 ≤ y ∧ y ≤ 9999 ∧ 0 ≤ m ∧ m ≤ 99 ∧ 0 ≤ d ∧ 99 < d) ∨ (1000 ≤ y ∧ y ≤ 9999 ∧ 0 ≤ m ∧ m ≤ 99 ∧ 0 ≤ d ∧ d ≤ 99) by omega) with q | q | q | q | q | q | q
    · exact lexDates_o1 y m d w hM he q
    · exact lexDates_o2 y m d w hM he q
    · exact lexDates_o3 y m d w hM he q
    · exact lexDates_o4 y m d w hM he q
    · exact lexDates_o5 y m d w hM he q
    · exact lexDates_o6 y m d w hM he q
    · exact lexDates_in y m d w hM hE hP he q
end Go.Proofs.YtadcgkfeeakpeaaDoor
