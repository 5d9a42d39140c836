/-
  WALK: CalMoves.
-/
import Derived.Test.YtfmpkcnmdoddnaaDoorWAdjust3
import Derived.Test.YtfmpkcnmdoddnaaDoorWOwnAny
import Derived.Test.YtfmpkcnmdoddnaaDoorWTzLaid
import Derived.Test.YtfmpkcnmdoddnaaDoorWCalLaid
namespace Go.Proofs.YtfmpkcnmdoddnaaDoor
open Go.RowKit
set_option linter.unusedVariables false
set_option linter.unusedSimpArgs false

/-- What Adjust answers, at any numbers. -/
def AA (day conv : Int) (zs : List Int) (r x : Int) : Prop :=
  ((conv < 0 ∨ 3 < conv) ∧ r = 0 ∧ x = 1) ∨ ((0 ≤ conv ∧ conv ≤ 3) ∧ (day < 0 ∨ 109573 ≤ day) ∧ r = 0 ∧ x = 2) ∨ ((0 ≤ conv ∧ conv ≤ 3) ∧ (0 ≤ day ∧ day < 109573) ∧ AdjIs day conv zs r x)
theorem aa_one {day conv : Int} {zs : List Int} {r x r' x' : Int} (h : AA day conv zs r x) (h' : AA day conv zs r' x') : r' = r ∧ x' = x := by
  rcases h with ⟨a, b, c⟩ | ⟨a, d, b, c⟩ | ⟨a, d, b⟩ <;> rcases h' with ⟨a', b', c'⟩ | ⟨a', d', b', c'⟩ | ⟨a', d', b'⟩ <;> first
    | (exfalso; omega)
    | omega
    | (obtain ⟨e1, e2⟩ := adj_one b b'; exact ⟨e1.symm, e2.symm⟩)
def AAE (day conv : Int) (zs : List Int) (e : Ending) : Prop := ∃ r x : Int, e = .returned (.tuple #[.int .i64 r, .int .i64 x]) ∧ AA day conv zs r x

theorem Adjust_all (a : Option Addr) (c cap : Nat) (zs : List Int) (day conv : Int) (w : World) (hL : Ls w a c zs) (hT : Tz w) (hM : Mon w) :
    Calls Tryd.prog 16 #[.int .i64 day, .int .i64 conv, .slice a c cap] w fun e w' => AAE day conv zs e ∧ Below w.heap.size w w' := by
  by_cases h1 : conv < 0 ∨ 3 < conv
  · refine (Adjust_arg a c cap day conv w h1).mono ?_
    rintro e w' ⟨rfl, rfl⟩
    exact ⟨⟨0, 1, rfl, .inl ⟨h1, rfl, rfl⟩⟩, Below.refl _ _⟩
  · by_cases h2 : day < 0 ∨ 109573 ≤ day
    · refine (Adjust_range a c cap day conv w (by omega) (by omega) h2).mono ?_
      rintro e w' ⟨rfl, rfl⟩
      exact ⟨⟨0, 2, rfl, .inr (.inl ⟨by omega, h2, rfl, rfl⟩)⟩, Below.refl _ _⟩
    · obtain ⟨d, rfl⟩ : ∃ d : Nat, day = d := ⟨day.toNat, by omega⟩
      refine (Adjust_in a c cap zs d conv w hL hT hM (by omega) (by omega)).mono ?_
      rintro e w' ⟨⟨r, x, rfl, h⟩, hb⟩
      exact ⟨⟨r, x, rfl, .inr (.inr ⟨by omega, by omega, h⟩)⟩, hb⟩
theorem rAdjust_all (a : Option Addr) (c cap : Nat) (zs : List Int) (day conv : Int) (w : World) (hL : Ls w a c zs) :
    Calls Tryd.prog 24 #[.int .i64 day, .int .i64 conv, .slice a c cap] w fun e w' => AAE day conv zs e ∧ Below w.heap.size w w' := by
  by_cases h1 : conv < 0 ∨ 3 < conv
  · refine (rAdjust_arg a c cap day conv w h1).mono ?_
    rintro e w' ⟨rfl, rfl⟩
    exact ⟨⟨0, 1, rfl, .inl ⟨h1, rfl, rfl⟩⟩, Below.refl _ _⟩
  · by_cases h2 : day < 0 ∨ 109573 ≤ day
    · refine (rAdjust_range a c cap day conv w (by omega) (by omega) h2).mono ?_
      rintro e w' ⟨rfl, rfl⟩
      exact ⟨⟨0, 2, rfl, .inr (.inl ⟨by omega, h2, rfl, rfl⟩)⟩, Below.refl _ _⟩
    · have k : Calls Tryd.prog 24 #[.int .i64 day, .int .i64 conv, .slice a c cap] w fun e w' => AdjE day conv zs e ∧ Below w.heap.size w w' := by
        by_cases h3 : conv = 2
        · subst h3; exact rAdjust_2 a c cap zs day w hL (by omega) (by omega)
        · exact rAdjust_013 a c cap zs day conv w hL (by omega) (by omega) (by omega)
      refine k.mono ?_
      rintro e w' ⟨⟨r, x, rfl, h⟩, hb⟩
      exact ⟨⟨r, x, rfl, .inr (.inr ⟨by omega, by omega, h⟩)⟩, hb⟩

set_option maxHeartbeats 2000000 in
theorem calMoves_walk (day conv : Int) (a : Option Addr) (c cap : Nat) (zs : List Int) (w : World) (hH : Hol w a c cap zs) (hT : Tz w) (hM : Mon w) :
    Calls Tryd.prog 7 #[.int .i64 day, .int .i64 conv, .slice a c cap] w fun e w' => e = .returned (.bool true) ∧ Below w.heap.size w w' := by
  have K0 := Lib.hid (own_any a c cap zs w hH)
  have HH := Lib.hid hH
  have HT := Lib.hid hT
  have HM := Lib.hid hM
  have K1 := Lib.hid (fun A C W (h : Ls W A c zs) => business_any A c C zs day W h)
  have K2 := Lib.hid (fun A C W (h : Ls W A c zs) (t : Tz W) (m : Mon W) => Adjust_all A c C zs day conv W h t m)
  have K3 := Lib.hid (fun W (h : Ls W a c zs) => rAdjust_all a c cap zs day conv W h)
  have K4 := Lib.hid (fun W (h : Ls W a c zs) => rBusiness_any a c cap zs day W h)
  generalize busB day zs = bb at K1 K4
  clear hH hT hM
  go_enter Tryd.func7, Tryd.ntmps7
  go_wp2_with (first
    | (go_at_call 10; refine K0.out.mono ?_; rintro e w1 ⟨A, C, rfl, h1, h2, h3⟩; have B1 := Lib.hid h1; have L1 := Lib.hid h2; clear h1 h2)
    | (go_at_call 11; refine (K1.out _ _ _ L1.out).mono ?_; rintro e w2 ⟨rfl, rfl⟩)
    | (go_at_call 16; refine (K2.out _ _ _ L1.out (tz_below (Nat.le_refl _) B1.out HT.out) (mon_below (Nat.le_refl _) B1.out HM.out)).mono ?_; rintro e w3 ⟨⟨r, x, rfl, h4⟩, h5⟩; have A4 := Lib.hid h4; have B5 := Lib.hid h5; have B6 := Lib.hid (B1.out.trans (h5.mono B1.out.size)); clear h4 h5)
    | (go_at_call 24; refine (K3.out _ (HH.out.later B6.out).ls).mono ?_; rintro e w4 ⟨⟨r', x', rfl, h4⟩, h5⟩; obtain ⟨rfl, rfl⟩ := aa_one A4.out h4; have B7 := Lib.hid (B5.out.trans (h5.mono B5.out.size)); clear h4 h5)
    | (go_at_call 25; refine (K4.out _ (HH.out.later (B1.out.trans (B7.out.mono B1.out.size))).ls).mono ?_; rintro e w5 ⟨rfl, rfl⟩)
    | (go_at_call 14; refine (h3.out _ B7.out).mono ?_; rintro e w6 ⟨rfl, h6⟩; have B8 := Lib.hid h6; clear h6))
  all_goals go_ret
  all_goals exact ⟨by first | rfl | simp, (B1.out.trans (B7.out.mono B1.out.size)).trans (B8.out.mono (B1.out.trans (B7.out.mono B1.out.size)).size)⟩
end Go.Proofs.YtfmpkcnmdoddnaaDoor
