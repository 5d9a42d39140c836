/-
  WALK: LexNumbers (made by gen/gen_lexnum.py).
-/
import Derived.Test.YtadcgkfeeakpeaaDoorWLexTells
import Derived.Test.YtadcgkfeeakpeaaDoorPlainNumbers
import Derived.Test.YtadcgkfeeakpeaaDoorWLexAgain
namespace Go.Proofs.YtadcgkfeeakpeaaDoor
open Go.RowKit Lx
set_option linter.unusedVariables false
set_option linter.unusedSimpArgs false

theorem dec_ne1 (u : Nat) : 1 ≤ (Lib.decDigits u).length := List.length_pos_iff.2 (dec_neB u)
theorem word_eqN (v : Int) (u : Nat) (hu : absI v = u) : decS (decide (v < 0)) 0 (Lib.decDigits u) = Lib.itoa v := by
  have e : pointed 0 (padTo 0 (Lib.decDigits u)) = Lib.decDigits u := by
    have := dec_ne1 u
    unfold pointed padTo
    rw [if_pos rfl, show 0 + 1 - (Lib.decDigits u).length = 0 by omega]; rfl
  unfold decS
  rw [e]
  unfold Lib.itoa
  by_cases h : v < 0
  · rw [decide_eq_true h, if_pos rfl, if_pos h, show v.natAbs = u by rw [absI_neg h] at hu; omega]
  · rw [decide_eq_false h, if_neg (by simp), if_neg h, show v.toNat = u by rw [absI_pos h] at hu; omega]
theorem numTextN (v : Int) (hv : inR v) (w : World) (ht : Pows w) :
    Calls Tryd.prog 20 #[.int .i64 v, .int .i64 0] w fun e w' => e = .returned (.tuple #[.string (bs (Lib.itoa v)), .int .i64 0]) ∧ Below w.heap.size w w' := by
  obtain ⟨u, hu⟩ : ∃ u : Nat, absI v = u := ⟨(absI v).toNat, by have := absI_bd v hv; omega⟩
  have := text_in v hv u hu 0 (by omega) w ht
  rw [word_eqN v u hu] at this
  exact this
theorem dec_le (n : Nat) (h : n < 18446744073709551616) : (Lib.decDigits n).length ≤ 20 := by
  have := dec_len 19 n (by omega)
  omega
theorem unit_cut (u : Nat) (hu : u ≤ 3) : ∃ x : UInt8, unN x.toNat = (u : Int) + 1 ∧ ∀ W, (Instr.slice 9 (.string ⟨#[100, 119, 109, 121]⟩) (some (.int .i64 (u : Int))) (some (.int .i64 ((u : Int) + 1))) none).run Tryd.prog W = .ok (.string ⟨#[x]⟩) W := by
  have key : ∀ (k : Nat) (x : UInt8), k ≤ 3 → ((⟨#[100, 119, 109, 121]⟩ : ByteArray).extract k (k + 1)) = ⟨#[x]⟩ → ∀ W, (Instr.slice 9 (.string ⟨#[100, 119, 109, 121]⟩) (some (.int .i64 (k : Int))) (some (.int .i64 ((k : Int) + 1))) none).run Tryd.prog W = .ok (.string ⟨#[x]⟩) W := fun k x hk he W => by
    rw [run_slice_string W 9 _ .i64 .i64 (k : Int) ((k : Int) + 1) (by kernel_rfl) (by omega) (by omega) (by show (k : Int) + 1 ≤ 4; omega)]
    rw [Int.toNat_natCast, show ((k : Int) + 1).toNat = k + 1 by omega, he]
  rcases (show u = 0 ∨ u = 1 ∨ u = 2 ∨ u = 3 by omega) with rfl | rfl | rfl | rfl
  · exact ⟨100, rfl, key 0 100 (by omega) (by decide)⟩
  · exact ⟨119, rfl, key 1 119 (by omega) (by decide)⟩
  · exact ⟨109, rfl, key 2 109 (by omega) (by decide)⟩
  · exact ⟨121, rfl, key 3 121 (by omega) (by decide)⟩
set_option maxRecDepth 100000 in
set_option maxHeartbeats 2000000 in
theorem lexNumbers_m1 (v unit : Int) (hv : inR v) (w : World) (hM : Mon w) (hE : Ev w) (hP : Pows w) (h : v = -9223372036854775808) :
    Calls Tryd.prog 8 #[.int .i64 v, .int .i64 unit] w fun e w' => e = .returned (.bool true) ∧ Below w.heap.size w w' := by
  have KT := Lib.hid (numTextN v hv w hP)
  have HM := Lib.hid (p := ∀ W, Below w.heap.size w W → Mon W) (fun W b => mon_below (Nat.le_refl _) b hM)
  have HE := Lib.hid (p := ∀ W, Below w.heap.size w W → Ev W) (fun W b => ev_below hE b)
  have eI : Lib.itoa v = 45 :: Lib.decDigits 9223372036854775808 := by subst h; rfl
  rw [eI] at KT
  have K1 := Lib.hid (fun W hM hE => scan_is (bs (45 :: Lib.decDigits 9223372036854775808)) (by rw [bs_size]; have := dec_le 9223372036854775808 (by omega); simp only [List.length_cons]; omega) _ 1 62 (.inr ⟨by rw [lst_bs]; have := dec_le 9223372036854775808 (by omega); simp only [List.length_cons]; omega, by rw [lst_bs]; exact sc_minus (sc_big 9223372036854775808 (by omega) (by omega) 1)⟩) W hM hE)
  rw [show ([⟨6, [45], 0, 0, 0, 0, 0, 0, 0⟩] : List Tok).length = 1 from rfl] at K1
  generalize bs (45 :: Lib.decDigits 9223372036854775808) = s at *
  have v0 : v < 0 := by omega
  clear eI hM hE hP
  subst h
  clear v0
  go_enter Tryd.func8, Tryd.ntmps8
  go_wp2_with (first
    | (go_at_call 20; refine KT.out.mono ?_; rintro e w1 ⟨rfl, b1⟩; have B1 := Lib.hid b1; clear b1; have P1 := Lib.hid (p := (1 : Nat) = 1) rfl)
    | (go_at_call 12; have qq := P1; refine (K1.out _ (HM.out _ B1.out) (HE.out _ B1.out)).mono ?_; rintro e w2 ⟨a, cap, rfl, hL⟩; have B2 := Lib.hid (B1.out.trans (hL.bel.mono B1.out.size)); have T2 := Lib.hid hL.tl; clear hL P1; have P2 := Lib.hid (p := (1 : Nat) = 1) rfl))
  go_ret
  exact ⟨rfl, B2.out⟩
set_option maxRecDepth 100000 in
set_option maxHeartbeats 2000000 in
theorem lexNumbers_m2 (v unit : Int) (hv : inR v) (w : World) (hM : Mon w) (hE : Ev w) (hP : Pows w) (h : v < 0) (h' : -9223372036854775808 < v) :
    Calls Tryd.prog 8 #[.int .i64 v, .int .i64 unit] w fun e w' => e = .returned (.bool true) ∧ Below w.heap.size w w' := by
  have KT := Lib.hid (numTextN v hv w hP)
  have HM := Lib.hid (p := ∀ W, Below w.heap.size w W → Mon W) (fun W b => mon_below (Nat.le_refl _) b hM)
  have HE := Lib.hid (p := ∀ W, Below w.heap.size w W → Ev W) (fun W b => ev_below hE b)
  obtain ⟨n, hn⟩ : ∃ n : Nat, v = -(n : Int) := ⟨v.natAbs, by omega⟩
  have n63 : n < 9223372036854775808 := by omega
  have eI : Lib.itoa v = 45 :: Lib.decDigits n := by unfold Lib.itoa; rw [if_pos h, show v.natAbs = n by omega]
  rw [eI] at KT
  have ld := dec_le n (by omega)
  have K1 := Lib.hid (fun W hM hE => scan_is (bs (45 :: Lib.decDigits n)) (by rw [bs_size]; simp only [List.length_cons]; omega) _ 0 0 (.inr ⟨by rw [lst_bs]; simp only [List.length_cons]; omega, by rw [lst_bs]; exact sc_minus (sc_num n n63 1)⟩) W hM hE)
  have LC := Lib.hid (p := ∀ W a, TL W a 2 [⟨6, [45], 0, 0, 0, 0, 0, 0, 0⟩, ⟨3, Lib.decDigits n, (1 : Nat), n, 0, 0, 0, 0, 0⟩] → ∃ x o, a = some ⟨x, o, none⟩ ∧ W.cell? ⟨x, o + 1, none⟩ = some (.string ⟨#[45]⟩) ∧ TK W x (o + 9) ⟨3, Lib.decDigits n, 1, n, 0, 0, 0, 0, 0⟩) (fun W a h => by
    obtain ⟨x, o, ha, _, hc⟩ := TL.nth h (by decide)
    have k0 := hc 0 (by decide)
    have k1 := hc 1 (by decide)
    exact ⟨x, o, ha, by have := k0.c1; rw [Nat.zero_mul, Nat.add_zero] at this; exact this, by rw [Nat.one_mul] at k1; exact k1⟩)
  have s1 := cutFrom (bs (45 :: Lib.decDigits n)) 1 (by omega) (by rw [bs_size]; simp only [List.length_cons]; omega)
  rw [lst_bs, show (List.drop (1 : Int).toNat (45 :: Lib.decDigits n)) = Lib.decDigits n from rfl] at s1
  obtain ⟨s, hs⟩ : ∃ s, bs (45 :: Lib.decDigits n) = s := ⟨_, rfl⟩
  have zs : (1 : Int) ≤ s.size := by rw [← hs, bs_size]; simp only [List.length_cons]; omega
  rw [hs] at K1 KT s1
  rw [show ([⟨6, [45], 0, 0, 0, 0, 0, 0, 0⟩, ⟨3, Lib.decDigits n, (1 : Nat), n, 0, 0, 0, 0, 0⟩] : List Tok).length = 2 from rfl] at K1
  obtain ⟨sd, hsd⟩ : ∃ sd, bs (Lib.decDigits n) = sd := ⟨_, rfl⟩
  have ng : IntKind.i64.wrap (-v) = (n : Int) := by rw [hn]; simp [IntKind.wrap, IntKind.bits, IntKind.signed]; omega
  have vm : ¬ v = -9223372036854775808 := by omega
  have HSD := Lib.hid hsd
  rw [hsd] at s1
  clear eI hM hE hP hn n63 ld hs h' hsd
  go_enter Tryd.func8, Tryd.ntmps8
  go_wp2_with (first
    | (go_at_call 20; refine KT.out.mono ?_; rintro e w1 ⟨rfl, b1⟩; have B1 := Lib.hid b1; clear b1; have P1 := Lib.hid (p := (1 : Nat) = 1) rfl)
    | (go_at_call 12; have qq := P1; refine (K1.out _ (HM.out _ B1.out) (HE.out _ B1.out)).mono ?_; rintro e w2 ⟨a, cap, rfl, hL⟩; have B2 := Lib.hid (B1.out.trans (hL.bel.mono B1.out.size)); have T2 := Lib.hid hL.tl; obtain ⟨x, o, rfl, y1, hk⟩ := LC.out _ _ T2.out; obtain ⟨c0, c1, c2, c3, c4, c5, c6, c7, c8⟩ := hk; rw [HSD.out] at c1; clear hL P1; have P2 := Lib.hid (p := (1 : Nat) = 1) rfl))
  go_quiet (fail)
  go_wp2
  go_ret
  exact ⟨by simp, below_nq1 B2.out⟩
set_option maxRecDepth 100000 in
set_option maxHeartbeats 2000000 in
theorem lexNumbers_pb (v unit : Int) (hv : inR v) (w : World) (hM : Mon w) (hE : Ev w) (hP : Pows w) (n : Nat) (hn : v = (n : Int)) (u : Nat) (hu : u ≤ 3) (hand : bits .and .i64 unit 3 = (u : Int)) (hc : 999 < n) :
    Calls Tryd.prog 8 #[.int .i64 v, .int .i64 unit] w fun e w' => e = .returned (.bool true) ∧ Below w.heap.size w w' := by
  have KT := Lib.hid (numTextN v hv w hP)
  have HM := Lib.hid (p := ∀ W, Below w.heap.size w W → Mon W) (fun W b => mon_below (Nat.le_refl _) b hM)
  have HE := Lib.hid (p := ∀ W, Below w.heap.size w W → Ev W) (fun W b => ev_below hE b)
  subst hn
  have n63 : n < 9223372036854775808 := by have := hv.2; omega
  have eI : Lib.itoa (n : Int) = Lib.decDigits n := by unfold Lib.itoa; rw [if_neg (by omega), Int.toNat_natCast]
  rw [eI] at KT
  have ld := dec_le n (by omega)
  have K1 := Lib.hid (fun W hM hE => scan_is (bs (Lib.decDigits n)) (by rw [bs_size]; omega) _ 0 0 (.inr ⟨by rw [lst_bs]; omega, by rw [lst_bs]; exact sc_num n n63 0⟩) W hM hE)
  rw [show ([⟨3, Lib.decDigits n, (0 : Nat), n, 0, 0, 0, 0, 0⟩] : List Tok).length = 1 from rfl] at K1
  have s0 := add_strM ⟨#[48]⟩ (bs (Lib.decDigits n)) (by rw [bs_size]; show 1 + _ ≤ _; omega)
  rw [lst_bs, show lst ⟨#[48]⟩ = [48] from rfl, List.singleton_append] at s0
  have K2 := Lib.hid (fun W hM hE => scan_is (bs (48 :: Lib.decDigits n)) (by rw [bs_size]; simp only [List.length_cons]; omega) [] 0 62 (.inr ⟨by rw [lst_bs]; simp only [List.length_cons]; omega, by rw [lst_bs]; exact sc_zero n⟩) W hM hE)
  obtain ⟨x, hx, su⟩ : ∃ x : UInt8, unN x.toNat = (u : Int) + 1 ∧ ∀ W, (Instr.slice 9 (.string ⟨#[100, 119, 109, 121]⟩) (some (.int .i64 (u : Int))) (some (.int .i64 ((u : Int) + 1))) none).run Tryd.prog W = .ok (.string ⟨#[x]⟩) W := unit_cut u hu
  have s3 := add_strM (bs (Lib.decDigits n)) ⟨#[x]⟩ (by rw [bs_size]; show _ + 1 ≤ _; omega)
  rw [lst_bs, show lst ⟨#[x]⟩ = [x] from rfl] at s3
  obtain ⟨t5, t6⟩ := sc_ten n n63 x (by rw [hx]; omega)
  have K3 := Lib.hid (fun W hM hE => scan_is (bs (Lib.decDigits n ++ [x])) (by rw [bs_size]; simp only [List.length_append, List.length_cons, List.length_nil]; omega) [] 0 62 (.inr ⟨by rw [lst_bs]; simp only [List.length_append, List.length_cons, List.length_nil]; omega, by rw [lst_bs]; exact t5 (by omega)⟩) W hM hE)
  obtain ⟨s, hs⟩ : ∃ s, bs (Lib.decDigits n) = s := ⟨_, rfl⟩
  obtain ⟨st, hst⟩ : ∃ st, bs (Lib.decDigits n ++ [x]) = st := ⟨_, rfl⟩
  rw [hs] at KT K1 s0 s3
  rw [hst] at s3 K3
  generalize bs (48 :: Lib.decDigits n) = sz at *
  have HS := Lib.hid hs
  have HT := Lib.hid hst
  have kw : IntKind.i64.wrap ((u : Int) + 1) = (u : Int) + 1 := by simp [IntKind.wrap, IntKind.bits, IntKind.signed]; omega
  have v0 : ¬ (n : Int) < 0 := by omega
  have q1 : decide ((n : Int) < 1) = false := decide_eq_false (by omega)
  have q1' : decide (n < 1) = false := decide_eq_false (by omega)
  have q2 : (999 : Int) < (n : Int) := by omega
  clear eI hM hE hP n63 ld hs hst hc t5 t6 hv hx
  go_enter Tryd.func8, Tryd.ntmps8
  go_wp2_with (first
    | (go_at_call 20; refine KT.out.mono ?_; rintro e w1 ⟨rfl, b1⟩; have B1 := Lib.hid b1; clear b1; have P1 := Lib.hid (p := (1 : Nat) = 1) rfl)
    | (go_at_call 12; have qq := P1; refine (K1.out _ (HM.out _ B1.out) (HE.out _ B1.out)).mono ?_; rintro e w2 ⟨a, cap, rfl, hL⟩; have B2 := Lib.hid (B1.out.trans (hL.bel.mono B1.out.size)); have T2 := Lib.hid hL.tl; obtain ⟨x, o, rfl, hK⟩ := TL.one T2.out; obtain ⟨c0, c1, c2, c3, c4, c5, c6, c7, c8⟩ := hK; rw [HS.out] at c1; clear hL P1; have P2 := Lib.hid (p := (1 : Nat) = 1) rfl)
    | (go_at_call 12; have qq := P2; refine (K2.out _ (HM.out _ B2.out) (HE.out _ B2.out)).mono ?_; rintro e w3 ⟨a3, cap3, rfl, hL⟩; have B3 := Lib.hid (B2.out.trans (hL.bel.mono B2.out.size)); clear hL P2)
    | (go_at_call 12; refine (K3.out _ (HM.out _ B3.out) (HE.out _ B3.out)).mono ?_; rintro e w4 ⟨a4, cap4, rfl, hL⟩; have B4 := Lib.hid (B3.out.trans (hL.bel.mono B3.out.size)); have T4 := Lib.hid hL.tl; clear hL))
  go_ret
  exact ⟨by simp, B4.out⟩
set_option maxRecDepth 100000 in
set_option maxHeartbeats 2000000 in
theorem lexNumbers_pc (v unit : Int) (hv : inR v) (w : World) (hM : Mon w) (hE : Ev w) (hP : Pows w) (n : Nat) (hn : v = (n : Int)) (u : Nat) (hu : u ≤ 3) (hand : bits .and .i64 unit 3 = (u : Int)) (hc : 1 ≤ n ∧ n ≤ 999) :
    Calls Tryd.prog 8 #[.int .i64 v, .int .i64 unit] w fun e w' => e = .returned (.bool true) ∧ Below w.heap.size w w' := by
  have KT := Lib.hid (numTextN v hv w hP)
  have HM := Lib.hid (p := ∀ W, Below w.heap.size w W → Mon W) (fun W b => mon_below (Nat.le_refl _) b hM)
  have HE := Lib.hid (p := ∀ W, Below w.heap.size w W → Ev W) (fun W b => ev_below hE b)
  subst hn
  have n63 : n < 9223372036854775808 := by have := hv.2; omega
  have eI : Lib.itoa (n : Int) = Lib.decDigits n := by unfold Lib.itoa; rw [if_neg (by omega), Int.toNat_natCast]
  rw [eI] at KT
  have ld := dec_le n (by omega)
  have K1 := Lib.hid (fun W hM hE => scan_is (bs (Lib.decDigits n)) (by rw [bs_size]; omega) _ 0 0 (.inr ⟨by rw [lst_bs]; omega, by rw [lst_bs]; exact sc_num n n63 0⟩) W hM hE)
  rw [show ([⟨3, Lib.decDigits n, (0 : Nat), n, 0, 0, 0, 0, 0⟩] : List Tok).length = 1 from rfl] at K1
  have s0 := add_strM ⟨#[48]⟩ (bs (Lib.decDigits n)) (by rw [bs_size]; show 1 + _ ≤ _; omega)
  rw [lst_bs, show lst ⟨#[48]⟩ = [48] from rfl, List.singleton_append] at s0
  have K2 := Lib.hid (fun W hM hE => scan_is (bs (48 :: Lib.decDigits n)) (by rw [bs_size]; simp only [List.length_cons]; omega) [] 0 62 (.inr ⟨by rw [lst_bs]; simp only [List.length_cons]; omega, by rw [lst_bs]; exact sc_zero n⟩) W hM hE)
  obtain ⟨x, hx, su⟩ : ∃ x : UInt8, unN x.toNat = (u : Int) + 1 ∧ ∀ W, (Instr.slice 9 (.string ⟨#[100, 119, 109, 121]⟩) (some (.int .i64 (u : Int))) (some (.int .i64 ((u : Int) + 1))) none).run Tryd.prog W = .ok (.string ⟨#[x]⟩) W := unit_cut u hu
  have s3 := add_strM (bs (Lib.decDigits n)) ⟨#[x]⟩ (by rw [bs_size]; show _ + 1 ≤ _; omega)
  rw [lst_bs, show lst ⟨#[x]⟩ = [x] from rfl] at s3
  obtain ⟨t5, t6⟩ := sc_ten n n63 x (by rw [hx]; omega)
  have K3 := Lib.hid (fun W hM hE => scan_is (bs (Lib.decDigits n ++ [x])) (by rw [bs_size]; simp only [List.length_append, List.length_cons, List.length_nil]; omega) _ 0 0 (.inr ⟨by rw [lst_bs]; simp only [List.length_append, List.length_cons, List.length_nil]; omega, by rw [lst_bs]; exact t6 (by omega)⟩) W hM hE)
  rw [show ([⟨5, Lib.decDigits n ++ [x], 0, 0, 0, 0, 0, n, unN x.toNat⟩] : List Tok).length = 1 from rfl, hx] at K3
  obtain ⟨s, hs⟩ : ∃ s, bs (Lib.decDigits n) = s := ⟨_, rfl⟩
  obtain ⟨st, hst⟩ : ∃ st, bs (Lib.decDigits n ++ [x]) = st := ⟨_, rfl⟩
  rw [hs] at KT K1 s0 s3
  rw [hst] at s3 K3
  generalize bs (48 :: Lib.decDigits n) = sz at *
  have HS := Lib.hid hs
  have HT := Lib.hid hst
  have kw : IntKind.i64.wrap ((u : Int) + 1) = (u : Int) + 1 := by simp [IntKind.wrap, IntKind.bits, IntKind.signed]; omega
  have v0 : ¬ (n : Int) < 0 := by omega
  have q1 : decide ((n : Int) < 1) = false := decide_eq_false (by omega)
  have q1' : decide (n < 1) = false := decide_eq_false (by omega)
  have q2 : ¬ (999 : Int) < (n : Int) := by omega
  clear eI hM hE hP n63 ld hs hst hc t5 t6 hv hx
  go_enter Tryd.func8, Tryd.ntmps8
  go_wp2_with (first
    | (go_at_call 20; refine KT.out.mono ?_; rintro e w1 ⟨rfl, b1⟩; have B1 := Lib.hid b1; clear b1; have P1 := Lib.hid (p := (1 : Nat) = 1) rfl)
    | (go_at_call 12; have qq := P1; refine (K1.out _ (HM.out _ B1.out) (HE.out _ B1.out)).mono ?_; rintro e w2 ⟨a, cap, rfl, hL⟩; have B2 := Lib.hid (B1.out.trans (hL.bel.mono B1.out.size)); have T2 := Lib.hid hL.tl; obtain ⟨x, o, rfl, hK⟩ := TL.one T2.out; obtain ⟨c0, c1, c2, c3, c4, c5, c6, c7, c8⟩ := hK; rw [HS.out] at c1; clear hL P1; have P2 := Lib.hid (p := (1 : Nat) = 1) rfl)
    | (go_at_call 12; have qq := P2; refine (K2.out _ (HM.out _ B2.out) (HE.out _ B2.out)).mono ?_; rintro e w3 ⟨a3, cap3, rfl, hL⟩; have B3 := Lib.hid (B2.out.trans (hL.bel.mono B2.out.size)); clear hL P2)
    | (go_at_call 12; refine (K3.out _ (HM.out _ B3.out) (HE.out _ B3.out)).mono ?_; rintro e w4 ⟨a4, cap4, rfl, hL⟩; have B4 := Lib.hid (B3.out.trans (hL.bel.mono B3.out.size)); have T4 := Lib.hid hL.tl; obtain ⟨x4, o4, rfl, hK⟩ := TL.one T4.out; obtain ⟨d0, d1, d2, d3, d4, d5, d6, d7, d8⟩ := hK; rw [HT.out] at d1; clear hL))
  go_ret
  exact ⟨by simp, B4.out⟩
set_option maxRecDepth 100000 in
set_option maxHeartbeats 2000000 in
theorem lexNumbers_z (v unit : Int) (hv : inR v) (w : World) (hM : Mon w) (hE : Ev w) (hP : Pows w) (h : v = 0) (u : Nat) (hu : u ≤ 3) (hand : bits .and .i64 unit 3 = (u : Int)) :
    Calls Tryd.prog 8 #[.int .i64 v, .int .i64 unit] w fun e w' => e = .returned (.bool true) ∧ Below w.heap.size w w' := by
  have KT := Lib.hid (numTextN v hv w hP)
  have HM := Lib.hid (p := ∀ W, Below w.heap.size w W → Mon W) (fun W b => mon_below (Nat.le_refl _) b hM)
  have HE := Lib.hid (p := ∀ W, Below w.heap.size w W → Ev W) (fun W b => ev_below hE b)
  subst h
  have eI : Lib.itoa 0 = Lib.decDigits 0 := rfl
  rw [eI] at KT
  have ld := dec_le 0 (by omega)
  have K1 := Lib.hid (fun W hM hE => scan_is (bs (Lib.decDigits 0)) (by rw [bs_size]; omega) [⟨3, Lib.decDigits 0, 0, 0, 0, 0, 0, 0, 0⟩] 0 0 (.inr ⟨by rw [lst_bs]; omega, by rw [lst_bs]; exact sc_num 0 (by omega) 0⟩) W hM hE)
  rw [show ([⟨3, Lib.decDigits 0, 0, 0, 0, 0, 0, 0, 0⟩] : List Tok).length = 1 from rfl] at K1
  have s0 := add_strM ⟨#[48]⟩ (bs (Lib.decDigits 0)) (by rw [bs_size]; show 1 + _ ≤ _; omega)
  rw [lst_bs, show lst ⟨#[48]⟩ = [48] from rfl, List.singleton_append] at s0
  have K2 := Lib.hid (fun W hM hE => scan_is (bs (48 :: Lib.decDigits 0)) (by rw [bs_size]; simp only [List.length_cons]; omega) [] 0 62 (.inr ⟨by rw [lst_bs]; simp only [List.length_cons]; omega, by rw [lst_bs]; exact sc_zero 0⟩) W hM hE)
  obtain ⟨x, hx, su⟩ : ∃ x : UInt8, unN x.toNat = (u : Int) + 1 ∧ ∀ W, (Instr.slice 9 (.string ⟨#[100, 119, 109, 121]⟩) (some (.int .i64 (u : Int))) (some (.int .i64 ((u : Int) + 1))) none).run Tryd.prog W = .ok (.string ⟨#[x]⟩) W := unit_cut u hu
  have s3 := add_strM (bs (Lib.decDigits 0)) ⟨#[x]⟩ (by rw [bs_size]; show _ + 1 ≤ _; omega)
  rw [lst_bs, show lst ⟨#[x]⟩ = [x] from rfl] at s3
  obtain ⟨t5, t6⟩ := sc_ten 0 (by omega) x (by rw [hx]; omega)
  have K3 := Lib.hid (fun W hM hE => scan_is (bs (Lib.decDigits 0 ++ [x])) (by rw [bs_size]; simp only [List.length_append, List.length_cons, List.length_nil]; omega) [] 0 62 (.inr ⟨by rw [lst_bs]; simp only [List.length_append, List.length_cons, List.length_nil]; omega, by rw [lst_bs]; exact t5 (by omega)⟩) W hM hE)
  obtain ⟨s, hs⟩ : ∃ s, bs (Lib.decDigits 0) = s := ⟨_, rfl⟩
  obtain ⟨st, hst⟩ : ∃ st, bs (Lib.decDigits 0 ++ [x]) = st := ⟨_, rfl⟩
  rw [hs] at KT K1 s0 s3
  rw [hst] at s3 K3
  generalize bs (48 :: Lib.decDigits 0) = sz at *
  have HS := Lib.hid hs
  have HT := Lib.hid hst
  have kw : IntKind.i64.wrap ((u : Int) + 1) = (u : Int) + 1 := by simp [IntKind.wrap, IntKind.bits, IntKind.signed]; omega
  clear eI hM hE hP ld hs hst t5 t6 hv hx
  go_enter Tryd.func8, Tryd.ntmps8
  go_wp2_with (first
    | (go_at_call 20; refine KT.out.mono ?_; rintro e w1 ⟨rfl, b1⟩; have B1 := Lib.hid b1; clear b1; have P1 := Lib.hid (p := (1 : Nat) = 1) rfl)
    | (go_at_call 12; have qq := P1; refine (K1.out _ (HM.out _ B1.out) (HE.out _ B1.out)).mono ?_; rintro e w2 ⟨a, cap, rfl, hL⟩; have B2 := Lib.hid (B1.out.trans (hL.bel.mono B1.out.size)); have T2 := Lib.hid hL.tl; obtain ⟨x, o, rfl, hK⟩ := TL.one T2.out; obtain ⟨c0, c1, c2, c3, c4, c5, c6, c7, c8⟩ := hK; rw [HS.out] at c1; clear hL P1; have P2 := Lib.hid (p := (1 : Nat) = 1) rfl)
    | (go_at_call 12; have qq := P2; refine (K2.out _ (HM.out _ B2.out) (HE.out _ B2.out)).mono ?_; rintro e w3 ⟨a3, cap3, rfl, hL⟩; have B3 := Lib.hid (B2.out.trans (hL.bel.mono B2.out.size)); clear hL P2)
    | (go_at_call 12; refine (K3.out _ (HM.out _ B3.out) (HE.out _ B3.out)).mono ?_; rintro e w4 ⟨a4, cap4, rfl, hL⟩; have B4 := Lib.hid (B3.out.trans (hL.bel.mono B3.out.size)); have T4 := Lib.hid hL.tl; clear hL))
  go_ret
  exact ⟨by simp, B4.out⟩
theorem and3 (unit : Int) : ∃ u : Nat, u ≤ 3 ∧ bits .and .i64 unit 3 = (u : Int) := by
  have hx : (BitVec.ofInt 64 unit &&& BitVec.ofInt 64 3).toNat ≤ 3 := by rw [BitVec.toNat_and]; exact Nat.and_le_right
  refine ⟨_, hx, ?_⟩
  show IntKind.i64.wrap (((BitVec.ofInt 64 unit &&& BitVec.ofInt 64 3).toNat : Nat) : Int) = _
  generalize (BitVec.ofInt 64 unit &&& BitVec.ofInt 64 3).toNat = x at hx
  simp [IntKind.wrap, IntKind.bits, IntKind.signed]; omega
theorem lexNumbers_go (v unit : Int) (w0 : (Lit.int .i64 v).wf = true) (w : World) (hM : Mon w) (hE : Ev w) (hP : Pows w) :
    Calls Tryd.prog 8 #[.int .i64 v, .int .i64 unit] w fun e w' => e = .returned (.bool true) ∧ Below w.heap.size w w' := by
  have hv : inR v := by unfold inR; simp [Lit.wf, IntKind.min, IntKind.max, IntKind.bits, IntKind.signed] at w0; omega
  by_cases h : v < 0
  · by_cases h' : v = -9223372036854775808
    · exact lexNumbers_m1 v unit hv w hM hE hP h'
    · exact lexNumbers_m2 v unit hv w hM hE hP h (by have := hv.1; omega)
  · obtain ⟨u, hu, hand⟩ := and3 unit
    by_cases h0 : v = 0
    · exact lexNumbers_z v unit hv w hM hE hP h0 u hu hand
    · obtain ⟨n, hn⟩ : ∃ n : Nat, v = (n : Int) := ⟨v.toNat, by omega⟩
      by_cases h9 : 999 < n
      · exact lexNumbers_pb v unit hv w hM hE hP n hn u hu hand h9
      · exact lexNumbers_pc v unit hv w hM hE hP n hn u hu hand (by omega)
end Go.Proofs.YtadcgkfeeakpeaaDoor
