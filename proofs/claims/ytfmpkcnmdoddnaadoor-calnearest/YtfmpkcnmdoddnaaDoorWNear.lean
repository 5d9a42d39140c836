/-
  WALKS: CalNearest, case by case (made by wip/gen/gen_nearest.py).
-/
import Derived.Test.YtfmpkcnmdoddnaaDoorWCalMoves
namespace Go.Proofs.YtfmpkcnmdoddnaaDoor
open Go.RowKit
open Cal
set_option linter.unusedVariables false
set_option linter.unusedSimpArgs false

theorem num_any (x : Int) (w : World) : Calls Tryd.prog 17 #[.int .i64 x] w fun e w' => e = .returned (.int .i64 x) ∧ w' = w := by
  go_enter Tryd.func17, Tryd.ntmps17
  go_wp2
  go_ret
  exact ⟨rfl, rfl⟩

/-- own in a world that came of w. -/
theorem own_st (w : World) (a : Option Addr) (c cap : Nat) (zs : List Int) (hH : Hol w a c cap zs) (W : World) (hB : Below w.heap.size w W) :
    Calls Tryd.prog 10 #[.slice a c cap] W fun e W' => ∃ (A : Option Addr) (C : Nat), e = .returned (.slice A c C) ∧ Below w.heap.size w W' ∧ Ls W' A c zs ∧ Below W.heap.size W W' := by
  refine (own_any a c cap zs W (hH.later hB)).mono ?_
  rintro e w' ⟨A, C, rfl, h1, h2, _⟩
  exact ⟨A, C, rfl, hB.trans (h1.mono hB.size), h2, h1⟩
theorem adj_st (w : World) (hT : Tz w) (hM : Mon w) (c : Nat) (zs : List Int) (day conv : Int) (A : Option Addr) (C : Nat) (W : World) (hB : Below w.heap.size w W) (hL : Ls W A c zs) :
    Calls Tryd.prog 16 #[.int .i64 day, .int .i64 conv, .slice A c C] W fun e W' => AAE day conv zs e ∧ Below w.heap.size w W' ∧ Below W.heap.size W W' := by
  refine (Adjust_all A c C zs day conv W hL (tz_below (Nat.le_refl _) hB hT) (mon_below (Nat.le_refl _) hB hM)).mono ?_
  rintro e w' ⟨h1, h2⟩
  exact ⟨h1, hB.trans (h2.mono hB.size), h2⟩
theorem date_st (w : World) (hM : Mon w) (n : Int) (W : World) (hB : Below w.heap.size w W) (h0 : 0 ≤ n) (h1 : n < 109573) :
    Calls Tryd.prog 18 #[.int .i64 n] W fun e W' => ∃ y m d : Int, e = .returned (.tuple #[.agg #[.int .i64 y, .int .i64 m, .int .i64 d], .int .i64 0]) ∧ exB y m d = true ∧ num y m d = n ∧ Below w.heap.size w W' ∧ Below W.heap.size W W' := by
  refine (date_yes n W (mon_below (Nat.le_refl _) hB hM) h0 h1).mono ?_
  rintro e w' ⟨y, m, d, rfl, h1, h2, h3⟩
  exact ⟨y, m, d, rfl, h1, h2, hB.trans (h3.mono hB.size), h3⟩

set_option maxRecDepth 100000 in
set_option maxHeartbeats 1000000 in
theorem near_out (day conv : Int) (a : Option Addr) (c cap : Nat) (w : World) (h : day < 0 ∨ 109572 < day ∨ conv < 1 ∨ 3 < conv) :
    Calls Tryd.prog 5 #[.int .i64 day, .int .i64 conv, .slice a c cap] w fun e w' => e = .returned (.bool true) ∧ Below w.heap.size w w' := by
  have K1 := fun n W => business_any none 0 0 [] n W ⟨rfl, by omega, .inl rfl⟩
  have b5 : busB 5 [] = false := by decide
  have b7 : busB 7 [] = true := by decide
  by_cases h0 : day < 0
  · clear h
    go_enter Tryd.func5, Tryd.ntmps5
    go_wp2_with (go_at_call 11; refine (K1 _ _).mono ?_; rintro e w2 ⟨rfl, rfl⟩; first | rw [b5] | rw [b7])
    go_ret
    exact ⟨rfl, Below.refl _ _⟩
  by_cases h1 : 109572 < day
  · clear h
    go_enter Tryd.func5, Tryd.ntmps5
    go_wp2_with (go_at_call 11; refine (K1 _ _).mono ?_; rintro e w2 ⟨rfl, rfl⟩; first | rw [b5] | rw [b7])
    go_ret
    exact ⟨rfl, Below.refl _ _⟩
  by_cases h2 : conv < 1
  · clear h
    go_enter Tryd.func5, Tryd.ntmps5
    go_wp2_with (go_at_call 11; refine (K1 _ _).mono ?_; rintro e w2 ⟨rfl, rfl⟩; first | rw [b5] | rw [b7])
    go_ret
    exact ⟨rfl, Below.refl _ _⟩
  have h3 : 3 < conv := by omega
  clear h
  go_enter Tryd.func5, Tryd.ntmps5
  go_wp2_with (go_at_call 11; refine (K1 _ _).mono ?_; rintro e w2 ⟨rfl, rfl⟩; first | rw [b5] | rw [b7])
  go_ret
  exact ⟨rfl, Below.refl _ _⟩

theorem aa_two {day conv : Int} {zs : List Int} {r x r' x' : Int} (h : AA day conv zs r x) (h' : AA day conv zs r' x') : r = r' ∧ x = x' := ⟨(aa_one h h').1.symm, (aa_one h h').2.symm⟩

set_option maxRecDepth 100000 in
set_option maxHeartbeats 2000000 in
theorem near_err (day conv : Int) (a : Option Addr) (c cap : Nat) (zs : List Int) (w : World) (hH : Hol w a c cap zs) (hT : Tz w) (hM : Mon w) (d0 : ¬ day < 0) (d1 : ¬ 109572 < day) (c0 : ¬ conv < 1) (c1 : ¬ 3 < conv) (hA : AA day conv zs 0 2) (hb : busB day zs = false) :
    Calls Tryd.prog 5 #[.int .i64 day, .int .i64 conv, .slice a c cap] w fun e w' => e = .returned (.bool true) ∧ Below w.heap.size w w' := by
  have KO := Lib.hid (own_st w a c cap zs hH)
  have KA := Lib.hid (adj_st w hT hM c zs)
  have KB := Lib.hid (fun A C W (h : Ls W A c zs) => business_any A c C zs day W h)
  rw [hb] at KB
  have K7 := Lib.hid (fun W => business_any none 0 0 [] 7 W ⟨rfl, by omega, .inl rfl⟩)
  rw [show busB 7 [] = true by decide] at K7
  have HA := Lib.hid hA
  have S := Lib.hid (Below.refl w.heap.size w)
  clear hA hb hH hT hM
  go_enter Tryd.func5, Tryd.ntmps5
  go_wp2_with (first
    | (go_at_call 10; refine (KO.out _ S.out).mono ?_; rintro e wx ⟨A, C, rfl, h1, h2, _⟩; have S := Lib.hid h1; have L := Lib.hid h2; clear h1 h2)
    | (go_at_call 16; refine (KA.out _ _ _ _ _ S.out L.out).mono ?_; rintro e wx ⟨⟨r, x, rfl, h1⟩, h2, _⟩; obtain ⟨rfl, rfl⟩ := aa_two HA.out h1; have S := Lib.hid h2; clear h1 h2)
    | (go_at_call 17; refine (num_any _ _).mono ?_; rintro e wy ⟨rfl, rfl⟩)
    | (go_at_call 11; have qq := S7; refine (K7.out _).mono ?_; rintro e wy ⟨rfl, rfl⟩)
    | (go_at_call 11; refine (KB.out _ _ _ L.out).mono ?_; rintro e wy ⟨rfl, rfl⟩; have S7 := True.intro))
  go_ret
  exact ⟨rfl, S.out⟩

theorem same_out {u day y m d y' m' d' : Int} (h : SameMon u day) (x : exB y m d = true) (n : num y m d = u) (x' : exB y' m' d' = true) (n' : num y' m' d' = day) : y = y' ∧ m = m' := by
  obtain ⟨p1, p2, p3, p4, p5, p6⟩ := ex_out x
  obtain ⟨q1, q2, q3, q4, q5, q6⟩ := ex_out x'
  have := h.2 (12 * y + m) (12 * y' + m') ⟨y, m, d, x, n, rfl⟩ ⟨y', m', d', x', n', rfl⟩
  omega
theorem same_not {u day y m d y' m' d' : Int} (u0 : 0 ≤ u) (h : ¬ SameMon u day) (x : exB y m d = true) (n : num y m d = u) (x' : exB y' m' d' = true) (n' : num y' m' d' = day) : ¬ (y = y' ∧ m = m') := by
  intro e
  rcases same_ends u0 x n x' n' true (decide_eq_true e).symm with ⟨_, k⟩ | ⟨k, _⟩
  · exact h k
  · cases k
end Go.Proofs.YtfmpkcnmdoddnaaDoor
