/-
  WALK: the law CalThereAndBack.
-/
import Derived.Test.YtceomklkicpmoaaDoorWCalTexts
import Derived.Test.YtceomklkicpmoaaDoorWCalOne
namespace Go.Proofs.YtceomklkicpmoaaDoor
open Go.RowKit
open Cal
set_option linter.unusedVariables false
set_option linter.unusedSimpArgs false

theorem dg_v {k : Int} (h0 : 0 ≤ k) (h1 : k ≤ 9) : ((dg k).toNat : Int) - 48 = k := by rw [dg_nat h0 h1]; omega
theorem dg_ok {k : Int} (h0 : 0 ≤ k) (h1 : k ≤ 9) : 48 ≤ ((dg k).toNat : Int) ∧ ((dg k).toNat : Int) ≤ 57 := by rw [dg_nat h0 h1]; omega
theorem last4 (y : Int) : lastD 4 y = [dg (y / 10 / 10 / 10 % 10), dg (y / 10 / 10 % 10), dg (y / 10 % 10), dg (y % 10)] := rfl
theorem last2 (y : Int) : lastD 2 y = [dg (y / 10 % 10), dg (y % 10)] := rfl
/-- A date's text is read back. -/
theorem read_back {y m d : Int} (h : exB y m d = true) : (⟨(textL y m d).toArray⟩ : ByteArray).size = 10 ∧ prEnd ⟨(textL y m d).toArray⟩ = .returned (.tuple #[.agg #[.int .i64 y, .int .i64 m, .int .i64 d], .int .i64 0]) := by
  obtain ⟨h1, h2, h3, h4, h5, h6⟩ := ex_out h
  have l := (len_bd y m).2
  have e : textL y m d = [dg (y / 10 / 10 / 10 % 10), dg (y / 10 / 10 % 10), dg (y / 10 % 10), dg (y % 10), 45, dg (m / 10 % 10), dg (m % 10), 45, dg (d / 10 % 10), dg (d % 10)] := by
    unfold textL; rw [last4, last2, last2]; rfl
  rw [e]
  refine ⟨rfl, ?_⟩
  obtain ⟨e1, e2, e3⟩ := fields (a := dg (y / 10 / 10 / 10 % 10)) (b := dg (y / 10 / 10 % 10)) (c := dg (y / 10 % 10)) (d := dg (y % 10)) (e := 45) (f := dg (m / 10 % 10)) (g := dg (m % 10)) (i := 45) (j := dg (d / 10 % 10)) (k := dg (d % 10))
  have vA : dv [dg (y / 10 / 10 / 10 % 10), dg (y / 10 / 10 % 10), dg (y / 10 % 10), dg (y % 10)] = y := by
    simp only [dv, List.foldl_cons, List.foldl_nil]
    rw [dg_v (by omega) (by omega), dg_v (by omega) (by omega), dg_v (by omega) (by omega), dg_v (by omega) (by omega)]
    omega
  have vB : dv [dg (m / 10 % 10), dg (m % 10)] = m := by
    simp only [dv, List.foldl_cons, List.foldl_nil]
    rw [dg_v (by omega) (by omega), dg_v (by omega) (by omega)]
    omega
  have vC : dv [dg (d / 10 % 10), dg (d % 10)] = d := by
    simp only [dv, List.foldl_cons, List.foldl_nil]
    rw [dg_v (by omega) (by omega), dg_v (by omega) (by omega)]
    omega
  have sh : shB (⟨#[dg (y / 10 / 10 / 10 % 10), dg (y / 10 / 10 % 10), dg (y / 10 % 10), dg (y % 10), 45, dg (m / 10 % 10), dg (m % 10), 45, dg (d / 10 % 10), dg (d % 10)]⟩ : ByteArray) = true := by
    refine digs_sh rfl rfl rfl ?_ ?_ ?_
    · rw [e1]; intro x hx; simp at hx; rcases hx with rfl | rfl | rfl | rfl <;> exact dg_ok (by omega) (by omega)
    · rw [e2]; intro x hx; simp at hx; rcases hx with rfl | rfl <;> exact dg_ok (by omega) (by omega)
    · rw [e3]; intro x hx; simp at hx; rcases hx with rfl | rfl <;> exact dg_ok (by omega) (by omega)
  have pb : prB (⟨#[dg (y / 10 / 10 / 10 % 10), dg (y / 10 / 10 % 10), dg (y / 10 % 10), dg (y % 10), 45, dg (m / 10 % 10), dg (m % 10), 45, dg (d / 10 % 10), dg (d % 10)]⟩ : ByteArray) = true := by
    unfold prB; rw [sh, e1, e2, e3, vA, vB, vC, h]; rfl
  have := prEnd_yes pb
  rw [e1, e2, e3, vA, vB, vC] at this
  exact this

/-- The next day. -/
theorem next_day {y m d : Int} (h : exB y m d = true) (hn : num y m d + 1 ≤ 109572) :
    (exB y m (d + 1) = true ∧ num y m (d + 1) = num y m d + 1) ∨ (28 ≤ d ∧ m < 12 ∧ exB y (m + 1) 1 = true ∧ num y (m + 1) 1 = num y m d + 1) ∨ (m = 12 ∧ d = 31 ∧ exB (y + 1) 1 1 = true ∧ num (y + 1) 1 1 = num y m d + 1) := by
  obtain ⟨h1, h2, h3, h4, h5, h6⟩ := ex_out h
  have lb := len_bd y m
  by_cases a : d < len y m
  · exact .inl ⟨ex_mk ⟨h1, h2, h3, h4, by omega, by omega⟩, by unfold num; omega⟩
  have hd : d = len y m := by omega
  by_cases b : m < 12
  · have l2 := len_bd y (m + 1)
    refine .inr (.inl ⟨by omega, b, ex_mk ⟨h1, h2, by omega, by omega, by omega, by omega⟩, ?_⟩)
    unfold num; rw [cum_succ y m h3 h4]; omega
  · obtain rfl : m = 12 := by omega
    have e31 : len y 12 = 31 := by simp [len]
    have c12 : cum y 12 = 334 + lp y := rfl
    have s := ys_succ y
    have nn : num (y + 1) 1 1 = num y 12 d + 1 := by unfold num; rw [cum_1, c12]; omega
    have yb : y + 1 ≤ 2199 := by
      by_cases q : y + 1 ≤ 2199
      · exact q
      · exfalso
        have : ys 2200 ≤ ys (y + 1) := ys_mono (by omega)
        rw [ys_2200] at this
        unfold num at nn hn; rw [cum_1] at nn; omega
    refine .inr (.inr ⟨rfl, by omega, ex_mk ⟨by omega, yb, by omega, by omega, by omega, ?_⟩, nn⟩)
    have := (len_bd (y + 1) 1).1; omega
theorem date_ex : ∀ n : Nat, n ≤ 109572 → ∃ y m d : Int, exB y m d = true ∧ num y m d = n
  | 0, _ => ⟨1900, 1, 1, by decide, by decide⟩
  | n + 1, h => by
    obtain ⟨y, m, d, a, b⟩ := date_ex n (by omega)
    rcases next_day a (by omega) with ⟨c, e⟩ | ⟨_, _, c, e⟩ | ⟨_, _, c, e⟩
    · exact ⟨_, _, _, c, by omega⟩
    · exact ⟨_, _, _, c, by omega⟩
    · exact ⟨_, _, _, c, by omega⟩

abbrev backCall (n : Int) (w : World) : Prop := Calls Tryd.prog 7 #[.int .i64 n] w fun e w' => e = .returned (.bool true) ∧ Below w.heap.size w w'

set_option maxHeartbeats 1000000 in
set_option maxRecDepth 100000 in
theorem back_out (n : Int) (w : World) (h : n < 0 ∨ 109573 ≤ n) : backCall n w := by
  have HH := Lib.hid h
  rcases h with g | g
  · go_enter Tryd.func7, Tryd.ntmps7
    go_wp2_with (first
      | (go_at_call 12; refine (numE_any _ _).mono ?_; rintro e w' ⟨rfl, rfl⟩)
      | (go_at_call 15; refine (date_no _ _ HH.out).mono ?_; rintro e w1 ⟨rfl, b1⟩))
    go_ret
    exact ⟨rfl, b1.alloc b1.size _⟩
  · have g2 : ¬ n < 0 := by omega
    go_enter Tryd.func7, Tryd.ntmps7
    go_wp2_with (first
      | (go_at_call 12; refine (numE_any _ _).mono ?_; rintro e w' ⟨rfl, rfl⟩)
      | (go_at_call 15; refine (date_no _ _ HH.out).mono ?_; rintro e w1 ⟨rfl, b1⟩))
    go_ret
    exact ⟨rfl, b1.alloc b1.size _⟩

set_option maxHeartbeats 2000000 in
set_option maxRecDepth 100000 in
theorem back_zero (n : Int) (w : World) (hM : Mon w) (hp : Pw w) (n0 : 0 ≤ n) (h : exB 1900 1 1 = true) (hn : num 1900 1 1 = n) : backCall n w := by
  have n1 : n < 109573 := by have := (num_bd h).2.1; omega
  have FD := Lib.hid (p := dayV 1900 1 1 = n ∧ dayE 1900 1 1 = 0) ⟨(day_t h).1.trans hn, (day_t h).2⟩
  have F1 := Lib.hid (p := ∀ Y M D, exB Y M D = true → num Y M D = n → 1900 = Y ∧ 1 = M ∧ 1 = D) (fun Y M D a b => num_inj h a (hn.trans b.symm))
  obtain ⟨sz, rb⟩ := read_back h
  have TX := Lib.hid (fun w hM hp => text_yes 1900 1 1 w hM hp h)
  have PX := Lib.hid (fun w hM => parse_any ⟨(textL 1900 1 1).toArray⟩ w hM (by rw [sz]; omega))
  rw [rb] at PX
  generalize (⟨(textL 1900 1 1).toArray⟩ : ByteArray) = T at *
  have sz' : (T.size : Int) = 10 := by omega
  have HS := Lib.hid sz
  clear sz rb
  have nz : n = 0 := by rw [← hn]; decide
  clear hn h
  subst nz
  go_enter Tryd.func7, Tryd.ntmps7
  go_wp2_with (first
    | (go_at_call 12; refine (numE_any _ _).mono ?_; rintro e w' ⟨rfl, rfl⟩)
    | (go_at_call 15; (refine (date_yes _ _ hM n0 n1).mono ?_; rintro e w1 ⟨Y, M, D, rfl, he, hn, b1⟩; obtain ⟨rfl, rfl, rfl⟩ := F1.out _ _ _ he hn; clear he hn; have m1 := mon_below (Nat.le_refl _) b1 hM; have P1 := Lib.hid (pw_below hp b1)))
    | (go_at_call 14; refine (day_any _ _ _ _ (mon_alloc m1)).mono ?_; rintro e w2 ⟨rfl, b2⟩; rw [FD.out.1, FD.out.2]; obtain ⟨k0, k1, k2⟩ := boxOne b2; have m2 := mon_below (Nat.le_refl _) b2 (mon_alloc m1); have P2 := Lib.hid (pw_below (pw_below P1.out ((Below.refl _ _).alloc (Nat.le_refl _) _)) b2))
    | (go_at_call 17; refine (TX.out _ m2 P2.out).mono ?_; rintro e w3 ⟨rfl, h3⟩; have b3 := b2.trans (h3.mono b2.size); have m3 := mon_below (Nat.le_refl _) h3 m2)
    | (go_at_call 18; refine (PX.out _ m3).mono ?_; rintro e w4 ⟨rfl, h4⟩; have b4 := b3.trans (h4.mono b3.size); have m4 := mon_below (Nat.le_refl _) h4 m3; clear k0 k1 k2; obtain ⟨k0, k1, k2⟩ := boxOne b4; have z4 : w1.heap.size < w4.heap.size := (by have := b4.size; simp at this; omega)))
  go_ret
  refine ⟨rfl, ?_⟩
  have q1 := b1.size
  have q4 := b4.size
  simp at q4
  exact (((b1.alloc b1.size _).trans (b4.mono (by simp; omega))).alloc (by omega) _)

set_option maxHeartbeats 2000000 in
set_option maxRecDepth 100000 in
theorem back_same (y m d n : Int) (w : World) (hM : Mon w) (hp : Pw w) (n0 : 0 ≤ n) (h : exB y m (d + 1) = true) (hn : num y m (d + 1) = n) (hpx : exB y m d = true) (hpn : num y m d = n - 1) : backCall n w := by
  have n1 : n < 109573 := by have := (num_bd h).2.1; omega
  have FD := Lib.hid (p := dayV y m (d + 1) = n ∧ dayE y m (d + 1) = 0) ⟨(day_t h).1.trans hn, (day_t h).2⟩
  have F1 := Lib.hid (p := ∀ Y M D, exB Y M D = true → num Y M D = n → y = Y ∧ m = M ∧ (d + 1) = D) (fun Y M D a b => num_inj h a (hn.trans b.symm))
  obtain ⟨sz, rb⟩ := read_back h
  have TX := Lib.hid (fun w hM hp => text_yes y m (d + 1) w hM hp h)
  have PX := Lib.hid (fun w hM => parse_any ⟨(textL y m (d + 1)).toArray⟩ w hM (by rw [sz]; omega))
  rw [rb] at PX
  generalize (⟨(textL y m (d + 1)).toArray⟩ : ByteArray) = T at *
  have sz' : (T.size : Int) = 10 := by omega
  have HS := Lib.hid sz
  clear sz rb
  have F2 := Lib.hid (p := ∀ Y M D, exB Y M D = true → num Y M D = n - 1 → y = Y ∧ m = M ∧ d = D) (fun Y M D a b => num_inj hpx a (hpn.trans b.symm))
  have np : ¬ n = 0 := by have := (num_bd hpx).1; omega
  have n9 : 0 ≤ n - 1 := by have := (num_bd hpx).1; omega
  obtain ⟨x1, x2, x3, x4, x5, x6⟩ := ex_out hpx
  have xl := (len_bd y m).2
  have x7 : d ≤ 31 := by omega
  clear x6 xl
  have a1 : ¬ m = m + 1 := by omega
  have a2 : ¬ y = y + 1 := by omega
  clear hn h hpx hpn
  go_enter Tryd.func7, Tryd.ntmps7
  go_wp2_with (first
    | (go_at_call 12; refine (numE_any _ _).mono ?_; rintro e w' ⟨rfl, rfl⟩)
    | (go_at_call 15; (first
      | (have qq := b4; refine (date_yes _ _ (mon_alloc m4) (by omega) (by omega)).mono ?_; rintro e w5 ⟨Y5, M5, D5, rfl, he5, hn5, h5⟩; obtain ⟨rfl, rfl, rfl⟩ := F2.out _ _ _ he5 hn5; clear he5 hn5 qq; have b5 := (b4.alloc b4.size _).trans (h5.mono (by have := b4.size; simp at this ⊢; omega)); clear k0 k1 k2 z4; obtain ⟨k0, k1, k2⟩ := boxOne b5; have z5 : w1.heap.size < w5.heap.size := (by have := b5.size; simp at this; omega))
      | (refine (date_yes _ _ hM n0 n1).mono ?_; rintro e w1 ⟨Y, M, D, rfl, he, hn, b1⟩; obtain ⟨rfl, rfl, rfl⟩ := F1.out _ _ _ he hn; clear he hn; have m1 := mon_below (Nat.le_refl _) b1 hM; have P1 := Lib.hid (pw_below hp b1))))
    | (go_at_call 14; refine (day_any _ _ _ _ (mon_alloc m1)).mono ?_; rintro e w2 ⟨rfl, b2⟩; rw [FD.out.1, FD.out.2]; obtain ⟨k0, k1, k2⟩ := boxOne b2; have m2 := mon_below (Nat.le_refl _) b2 (mon_alloc m1); have P2 := Lib.hid (pw_below (pw_below P1.out ((Below.refl _ _).alloc (Nat.le_refl _) _)) b2))
    | (go_at_call 17; refine (TX.out _ m2 P2.out).mono ?_; rintro e w3 ⟨rfl, h3⟩; have b3 := b2.trans (h3.mono b2.size); have m3 := mon_below (Nat.le_refl _) h3 m2)
    | (go_at_call 18; refine (PX.out _ m3).mono ?_; rintro e w4 ⟨rfl, h4⟩; have b4 := b3.trans (h4.mono b3.size); have m4 := mon_below (Nat.le_refl _) h4 m3; clear k0 k1 k2; obtain ⟨k0, k1, k2⟩ := boxOne b4; have z4 : w1.heap.size < w4.heap.size := (by have := b4.size; simp at this; omega)))
  go_ret
  refine ⟨rfl, ?_⟩
  have q1 := b1.size
  have q5 := b5.size
  simp at q5
  exact (((b1.alloc b1.size _).trans (b5.mono (by simp; omega))).alloc (by omega) _)

set_option maxHeartbeats 2000000 in
set_option maxRecDepth 100000 in
theorem back_month (y m d n : Int) (w : World) (hM : Mon w) (hp : Pw w) (n0 : 0 ≤ n) (h : exB y (m + 1) 1 = true) (hn : num y (m + 1) 1 = n) (hpx : exB y m d = true) (hpn : num y m d = n - 1) (h28 : 28 ≤ d) : backCall n w := by
  have n1 : n < 109573 := by have := (num_bd h).2.1; omega
  have FD := Lib.hid (p := dayV y (m + 1) 1 = n ∧ dayE y (m + 1) 1 = 0) ⟨(day_t h).1.trans hn, (day_t h).2⟩
  have F1 := Lib.hid (p := ∀ Y M D, exB Y M D = true → num Y M D = n → y = Y ∧ (m + 1) = M ∧ 1 = D) (fun Y M D a b => num_inj h a (hn.trans b.symm))
  obtain ⟨sz, rb⟩ := read_back h
  have TX := Lib.hid (fun w hM hp => text_yes y (m + 1) 1 w hM hp h)
  have PX := Lib.hid (fun w hM => parse_any ⟨(textL y (m + 1) 1).toArray⟩ w hM (by rw [sz]; omega))
  rw [rb] at PX
  generalize (⟨(textL y (m + 1) 1).toArray⟩ : ByteArray) = T at *
  have sz' : (T.size : Int) = 10 := by omega
  have HS := Lib.hid sz
  clear sz rb
  have F2 := Lib.hid (p := ∀ Y M D, exB Y M D = true → num Y M D = n - 1 → y = Y ∧ m = M ∧ d = D) (fun Y M D a b => num_inj hpx a (hpn.trans b.symm))
  have np : ¬ n = 0 := by have := (num_bd hpx).1; omega
  have n9 : 0 ≤ n - 1 := by have := (num_bd hpx).1; omega
  obtain ⟨x1, x2, x3, x4, x5, x6⟩ := ex_out hpx
  have xl := (len_bd y m).2
  have x7 : d ≤ 31 := by omega
  clear x6 xl
  have a1 : ¬ m + 1 = m := by omega
  have a2 : ¬ y = y + 1 := by omega
  clear hn h hpx hpn
  go_enter Tryd.func7, Tryd.ntmps7
  go_wp2_with (first
    | (go_at_call 12; refine (numE_any _ _).mono ?_; rintro e w' ⟨rfl, rfl⟩)
    | (go_at_call 15; (first
      | (have qq := b4; refine (date_yes _ _ (mon_alloc m4) (by omega) (by omega)).mono ?_; rintro e w5 ⟨Y5, M5, D5, rfl, he5, hn5, h5⟩; obtain ⟨rfl, rfl, rfl⟩ := F2.out _ _ _ he5 hn5; clear he5 hn5 qq; have b5 := (b4.alloc b4.size _).trans (h5.mono (by have := b4.size; simp at this ⊢; omega)); clear k0 k1 k2 z4; obtain ⟨k0, k1, k2⟩ := boxOne b5; have z5 : w1.heap.size < w5.heap.size := (by have := b5.size; simp at this; omega))
      | (refine (date_yes _ _ hM n0 n1).mono ?_; rintro e w1 ⟨Y, M, D, rfl, he, hn, b1⟩; obtain ⟨rfl, rfl, rfl⟩ := F1.out _ _ _ he hn; clear he hn; have m1 := mon_below (Nat.le_refl _) b1 hM; have P1 := Lib.hid (pw_below hp b1))))
    | (go_at_call 14; refine (day_any _ _ _ _ (mon_alloc m1)).mono ?_; rintro e w2 ⟨rfl, b2⟩; rw [FD.out.1, FD.out.2]; obtain ⟨k0, k1, k2⟩ := boxOne b2; have m2 := mon_below (Nat.le_refl _) b2 (mon_alloc m1); have P2 := Lib.hid (pw_below (pw_below P1.out ((Below.refl _ _).alloc (Nat.le_refl _) _)) b2))
    | (go_at_call 17; refine (TX.out _ m2 P2.out).mono ?_; rintro e w3 ⟨rfl, h3⟩; have b3 := b2.trans (h3.mono b2.size); have m3 := mon_below (Nat.le_refl _) h3 m2)
    | (go_at_call 18; refine (PX.out _ m3).mono ?_; rintro e w4 ⟨rfl, h4⟩; have b4 := b3.trans (h4.mono b3.size); have m4 := mon_below (Nat.le_refl _) h4 m3; clear k0 k1 k2; obtain ⟨k0, k1, k2⟩ := boxOne b4; have z4 : w1.heap.size < w4.heap.size := (by have := b4.size; simp at this; omega)))
  go_ret
  refine ⟨rfl, ?_⟩
  have q1 := b1.size
  have q5 := b5.size
  simp at q5
  exact (((b1.alloc b1.size _).trans (b5.mono (by simp; omega))).alloc (by omega) _)

set_option maxHeartbeats 2000000 in
set_option maxRecDepth 100000 in
theorem back_year (y n : Int) (w : World) (hM : Mon w) (hp : Pw w) (n0 : 0 ≤ n) (h : exB (y + 1) 1 1 = true) (hn : num (y + 1) 1 1 = n) (hpx : exB y 12 31 = true) (hpn : num y 12 31 = n - 1) : backCall n w := by
  have n1 : n < 109573 := by have := (num_bd h).2.1; omega
  have FD := Lib.hid (p := dayV (y + 1) 1 1 = n ∧ dayE (y + 1) 1 1 = 0) ⟨(day_t h).1.trans hn, (day_t h).2⟩
  have F1 := Lib.hid (p := ∀ Y M D, exB Y M D = true → num Y M D = n → (y + 1) = Y ∧ 1 = M ∧ 1 = D) (fun Y M D a b => num_inj h a (hn.trans b.symm))
  obtain ⟨sz, rb⟩ := read_back h
  have TX := Lib.hid (fun w hM hp => text_yes (y + 1) 1 1 w hM hp h)
  have PX := Lib.hid (fun w hM => parse_any ⟨(textL (y + 1) 1 1).toArray⟩ w hM (by rw [sz]; omega))
  rw [rb] at PX
  generalize (⟨(textL (y + 1) 1 1).toArray⟩ : ByteArray) = T at *
  have sz' : (T.size : Int) = 10 := by omega
  have HS := Lib.hid sz
  clear sz rb
  have F2 := Lib.hid (p := ∀ Y M D, exB Y M D = true → num Y M D = n - 1 → y = Y ∧ 12 = M ∧ 31 = D) (fun Y M D a b => num_inj hpx a (hpn.trans b.symm))
  have np : ¬ n = 0 := by have := (num_bd hpx).1; omega
  have n9 : 0 ≤ n - 1 := by have := (num_bd hpx).1; omega
  obtain ⟨x1, x2, x3, x4, x5, x6⟩ := ex_out hpx
  have xl := (len_bd y 12).2
  have x7 : 31 ≤ 31 := by omega
  clear x6 xl
  have a1 : ¬ y + 1 = y := by omega
  clear hn h hpx hpn
  go_enter Tryd.func7, Tryd.ntmps7
  go_wp2_with (first
    | (go_at_call 12; refine (numE_any _ _).mono ?_; rintro e w' ⟨rfl, rfl⟩)
    | (go_at_call 15; (first
      | (have qq := b4; refine (date_yes _ _ (mon_alloc m4) (by omega) (by omega)).mono ?_; rintro e w5 ⟨Y5, M5, D5, rfl, he5, hn5, h5⟩; obtain ⟨rfl, rfl, rfl⟩ := F2.out _ _ _ he5 hn5; clear he5 hn5 qq; have b5 := (b4.alloc b4.size _).trans (h5.mono (by have := b4.size; simp at this ⊢; omega)); clear k0 k1 k2 z4; obtain ⟨k0, k1, k2⟩ := boxOne b5; have z5 : w1.heap.size < w5.heap.size := (by have := b5.size; simp at this; omega))
      | (refine (date_yes _ _ hM n0 n1).mono ?_; rintro e w1 ⟨Y, M, D, rfl, he, hn, b1⟩; obtain ⟨rfl, rfl, rfl⟩ := F1.out _ _ _ he hn; clear he hn; have m1 := mon_below (Nat.le_refl _) b1 hM; have P1 := Lib.hid (pw_below hp b1))))
    | (go_at_call 14; refine (day_any _ _ _ _ (mon_alloc m1)).mono ?_; rintro e w2 ⟨rfl, b2⟩; rw [FD.out.1, FD.out.2]; obtain ⟨k0, k1, k2⟩ := boxOne b2; have m2 := mon_below (Nat.le_refl _) b2 (mon_alloc m1); have P2 := Lib.hid (pw_below (pw_below P1.out ((Below.refl _ _).alloc (Nat.le_refl _) _)) b2))
    | (go_at_call 17; refine (TX.out _ m2 P2.out).mono ?_; rintro e w3 ⟨rfl, h3⟩; have b3 := b2.trans (h3.mono b2.size); have m3 := mon_below (Nat.le_refl _) h3 m2)
    | (go_at_call 18; refine (PX.out _ m3).mono ?_; rintro e w4 ⟨rfl, h4⟩; have b4 := b3.trans (h4.mono b3.size); have m4 := mon_below (Nat.le_refl _) h4 m3; clear k0 k1 k2; obtain ⟨k0, k1, k2⟩ := boxOne b4; have z4 : w1.heap.size < w4.heap.size := (by have := b4.size; simp at this; omega)))
  go_ret
  refine ⟨rfl, ?_⟩
  have q1 := b1.size
  have q5 := b5.size
  simp at q5
  exact (((b1.alloc b1.size _).trans (b5.mono (by simp; omega))).alloc (by omega) _)

theorem calThereAndBack_walk (n : Int) (w : World) (hM : Mon w) (hp : Pw w) : backCall n w := by
  by_cases h : n < 0 ∨ 109573 ≤ n
  · exact back_out n w h
  · by_cases z : n = 0
    · subst z; exact back_zero 0 w hM hp (by omega) (by decide) (by decide)
    · obtain ⟨y, m, d, a, b⟩ := date_ex (n - 1).toNat (by omega)
      have b' : num y m d = n - 1 := by omega
      rcases next_day a (by omega) with ⟨c, e⟩ | ⟨g, _, c, e⟩ | ⟨rfl, rfl, c, e⟩
      · exact back_same y m d n w hM hp (by omega) c (by omega) a b'
      · exact back_month y m d n w hM hp (by omega) c (by omega) a b' g
      · exact back_year y n w hM hp (by omega) c (by omega) a b'
end Go.Proofs.YtceomklkicpmoaaDoor
