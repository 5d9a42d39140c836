/-
  WALK: Adjust.
-/
import Derived.Test.YtpeglcnenagkbaaDoorWAdjust2
namespace Go.Proofs.YtpeglcnenagkbaaDoor
open Go.RowKit
set_option linter.unusedVariables false
set_option linter.unusedSimpArgs false

theorem isConvention_any (conv : Int) (w : World) : Calls Tryd.prog 33 #[.int .i64 conv] w fun e w' => e = .returned (.bool (decide (0 ≤ conv ∧ conv ≤ 3))) ∧ w' = w := by
  by_cases h0 : conv = 0
  · subst h0; go_enter Tryd.func33, Tryd.ntmps33; go_wp2; go_ret; exact ⟨rfl, rfl⟩
  by_cases h1 : conv = 1
  · subst h1; go_enter Tryd.func33, Tryd.ntmps33; go_wp2; go_ret; exact ⟨rfl, rfl⟩
  by_cases h2 : conv = 2
  · subst h2; go_enter Tryd.func33, Tryd.ntmps33; go_wp2; go_ret; exact ⟨rfl, rfl⟩
  by_cases h3 : conv = 3
  · subst h3; go_enter Tryd.func33, Tryd.ntmps33; go_wp2; go_ret; exact ⟨rfl, rfl⟩
  rw [decide_eq_false (by omega)]
  go_enter Tryd.func33, Tryd.ntmps33
  go_wp2
  go_ret
  exact ⟨rfl, rfl⟩

theorem adjust_one (day : Nat) (conv : Int) (g cap : Nat) (ws : List Nat) (zs : List Int) (w : World) (hw : Wd w g ws) (hT : Tz w) (hM : Mon w) (hW : Whole ws zs) (d1 : day < 109573) (h : conv = 0 ∨ conv = 1 ∨ conv = 2 ∨ conv = 3) :
    Calls Tryd.prog 41 #[.agg #[.int .i64 0, .slice (some ⟨g, 0, none⟩) 1713 cap], .int .i64 day, .int .i64 conv] w fun e w' => AdjE day conv zs e ∧ Below w.heap.size w w' := by
  rcases h with rfl | rfl | rfl | rfl
  · exact adjust_0 day g cap zs w
  · exact adjust_1 day g cap ws zs w hw hT hW d1
  · exact adjust_2 day g cap ws zs w hw hT hM hW d1
  · exact adjust_3 day g cap ws zs w hw hW d1

/-- openDays of the whole calendar. -/
theorem open_whole (a : Option Addr) (c cap : Nat) (w : World) (hs : List Int) (hL : Ls w a c hs) :
    Calls Tryd.prog 26 #[.int .i64 0, .int .i64 109573, .slice a c cap] w fun e w' => ∃ ws : List Nat, e = .returned (.agg #[.int .i64 0, .slice (some ⟨w.heap.size + 1, 0, none⟩) 1713 1713]) ∧ Wd w' (w.heap.size + 1) ws ∧ Whole ws hs ∧ Below w.heap.size w w' := by
  refine (open_yes 0 109573 a c cap w 0 109573 rfl rfl (by omega) (by omega) (by omega) 1713 (by omega) hs hL).mono ?_
  rintro e w' ⟨ws, rfl, h1, h2, h3, h4, h5⟩
  refine ⟨ws, rfl, h1, ⟨h2, h3, fun m hm => ?_⟩, h5⟩
  rw [h4 m (by omega)]
  unfold busB
  simp only [Int.zero_add]
  apply decide_eq_decide.2
  constructor
  · rintro ⟨p1, p2, p3⟩; exact ⟨by omega, p2, p1, p3⟩
  · rintro ⟨_, p2, p1, p3⟩; exact ⟨p1, p2, p3⟩

set_option maxHeartbeats 1000000 in
theorem Adjust_arg (a : Option Addr) (c cap : Nat) (day conv : Int) (w : World) (h : conv < 0 ∨ 3 < conv) :
    Calls Tryd.prog 20 #[.int .i64 day, .int .i64 conv, .slice a c cap] w fun e w' => e = .returned (.tuple #[.int .i64 0, .int .i64 1]) ∧ w' = w := by
  have K := fun W => isConvention_any conv W
  rw [decide_eq_false (by omega)] at K
  clear h
  go_enter Tryd.func20, Tryd.ntmps20
  go_wp2_with (go_at_call 33; refine (K _).mono ?_; rintro e w' ⟨rfl, rfl⟩)
  go_ret2
  exact ⟨rfl, rfl⟩
set_option maxHeartbeats 1000000 in
theorem Adjust_range (a : Option Addr) (c cap : Nat) (day conv : Int) (w : World) (c0 : 0 ≤ conv) (c3 : conv ≤ 3) (h : day < 0 ∨ 109573 ≤ day) :
    Calls Tryd.prog 20 #[.int .i64 day, .int .i64 conv, .slice a c cap] w fun e w' => e = .returned (.tuple #[.int .i64 0, .int .i64 2]) ∧ w' = w := by
  have K := fun W => isConvention_any conv W
  rw [decide_eq_true (by omega)] at K
  have K2 := fun W => inCalendar_any day W
  rw [show inC day = false by unfold inC; exact decide_eq_false (by omega)] at K2
  clear h c0 c3
  go_enter Tryd.func20, Tryd.ntmps20
  go_wp2_with (first | (go_at_call 33; refine (K _).mono ?_; rintro e w' ⟨rfl, rfl⟩) | (go_at_call 28; refine (K2 _).mono ?_; rintro e w' ⟨rfl, rfl⟩))
  go_ret2
  exact ⟨rfl, rfl⟩
set_option maxHeartbeats 2000000 in
theorem Adjust_in (a : Option Addr) (c cap : Nat) (zs : List Int) (day : Nat) (conv : Int) (w : World) (hL : Ls w a c zs) (hT : Tz w) (hM : Mon w) (d1 : day < 109573) (h : conv = 0 ∨ conv = 1 ∨ conv = 2 ∨ conv = 3) :
    Calls Tryd.prog 20 #[.int .i64 day, .int .i64 conv, .slice a c cap] w fun e w' => AdjE day conv zs e ∧ Below w.heap.size w w' := by
  have K := fun W => isConvention_any conv W
  rw [decide_eq_true (by omega)] at K
  have K2 := fun W => inCalendar_any day W
  rw [show inC day = true by unfold inC; exact decide_eq_true (by omega)] at K2
  by_cases h0 : conv = 0
  · subst h0
    clear h
    go_enter Tryd.func20, Tryd.ntmps20
    go_wp2_with (first | (go_at_call 33; refine (K _).mono ?_; rintro e w' ⟨rfl, rfl⟩) | (go_at_call 28; refine (K2 _).mono ?_; rintro e w' ⟨rfl, rfl⟩))
    go_ret2
    exact ⟨⟨day, 0, rfl, .inl ⟨rfl, rfl, rfl⟩⟩, Below.refl _ _⟩
  · have K3 := Lib.hid (open_whole a c cap w zs hL)
    have K4 := Lib.hid (fun g cp ws W (p1 : Wd W g ws) (p2 : Tz W) (p3 : Mon W) (p4 : Whole ws zs) => adjust_one day conv g cp ws zs W p1 p2 p3 p4 d1 h)
    have HT := Lib.hid hT
    have HM := Lib.hid hM
    clear h hT hM hL
    go_enter Tryd.func20, Tryd.ntmps20
    go_wp2_with (first
      | (go_at_call 33; refine (K _).mono ?_; rintro e w' ⟨rfl, rfl⟩)
      | (go_at_call 28; refine (K2 _).mono ?_; rintro e w' ⟨rfl, rfl⟩)
      | (go_at_call 26; refine K3.out.mono ?_; rintro e w1 ⟨ws, rfl, h1, h2, h3⟩; have H1 := Lib.hid h1; have H2 := Lib.hid h2; have H3 := Lib.hid h3; clear h1 h2 h3)
      | (go_at_call 41; refine (K4.out _ _ _ _ H1.out (tz_below (Nat.le_refl _) H3.out HT.out) (mon_below (Nat.le_refl _) H3.out HM.out) H2.out).mono ?_; rintro e w2 ⟨⟨r, x, rfl, H4⟩, h5⟩; have H5 := Lib.hid h5; have H6 := Lib.hid H4; clear h5 H4))
    go_ret2
    exact ⟨⟨r, x, rfl, H6.out⟩, H3.out.trans (H5.out.mono H3.out.size)⟩
end Go.Proofs.YtpeglcnenagkbaaDoor
