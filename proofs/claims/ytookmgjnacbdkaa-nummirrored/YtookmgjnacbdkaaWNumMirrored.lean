/-
  WALK: NumMirrored.
-/
import Derived.Test.YtookmgjnacbdkaaWRatio
import Derived.Test.YtookmgjnacbdkaaWForms
import Derived.RowKit3

namespace Go.Proofs.Ytookmgjnacbdkaa
open Go.RowKit

theorem grown_drewN {W w : World} (h : Grown W w) (n : Nat) : Grown W (w.drewN n) := h

def turnOf (k : Nat) : Int := if k = 1 then 2 else if k = 2 then 1 else (k : Int)

theorem absI_turn (a : Int) : absI (-a) = absI a := by unfold absI; split <;> split <;> omega
theorem sgn_turn (n : Bool) (v : Int) : sgn (!n) v = - sgn n v := by cases n <;> simp [sgn]
theorem rneg_turn (a b c : Int) (h : ¬ a = 0) : rneg (-a) b c = !rneg a b c := by
  unfold rneg dif
  have e : decide (-a < 0) = !decide (a < 0) := by
    by_cases h1 : a < 0 <;> simp [h1] <;> omega
  rw [e]
  cases decide (a < 0) <;> cases decide (b < 0) <;> cases decide (c < 0) <;> rfl
theorem away_turn (k : Nat) (hk : k < 5) (n : Bool) (q r d : Int) : away (turnOf k) (!n) q r d = away (k : Int) n q r d := by
  match k, hk with
  | 0, _ => simp [away, turnOf]
  | 1, _ => simp [away, turnOf]
  | 2, _ => simp [away, turnOf]
  | 3, _ => simp [away, turnOf]
  | 4, _ => simp [away, turnOf]
theorem ratN_turn (a b c : Int) (k : Nat) (hk : k < 5) : ratN (-a) b c (turnOf k) = - ratN a b c (k : Int) := by
  by_cases h : a = 0
  · subst h
    have e1 : ∀ m, ratN 0 b c m = 0 := by
      intro m
      have r1 : rq 0 b c = 0 := by simp [rq, absI]
      have r2 : rr 0 b c = 0 := by simp [rr, absI]
      unfold ratN; rw [r1, r2]; simp [away, sgn]
    rw [Int.neg_zero, e1, e1]; rfl
  · have r1 : rq (-a) b c = rq a b c := by unfold rq; rw [absI_turn]
    have r2 : rr (-a) b c = rr a b c := by unfold rr; rw [absI_turn]
    unfold ratN
    rw [r1, r2, rneg_turn a b c h, away_turn k hk, sgn_turn]

/-- What two calls tell. -/
def Tells (a b c m x f : Int) : Prop := ∀ w, Calls Try.prog 17 #[.int .i64 a, .int .i64 b, .int .i64 c, .int .i64 m] w fun e w' => e = .returned (.tuple #[.int .i64 x, .int .i64 f]) ∧ ∃ n, w' = w.drewN n

theorem mirror_pair (a b c : Int) (k : Nat) (hk : k < 5) (ha : inR a) (hb : inR b) (hc : inR c) (hl : ¬ a = -9223372036854775808) :
    ∃ x f y g : Int, Hid (Tells a b c (k : Int) x f) ∧ Hid (Tells (-a) b c (turnOf k) y g) ∧
      ((f = 0 ∧ g = 0 ∧ x = -y ∧ -9223372036854775807 ≤ y ∧ y ≤ 9223372036854775807) ∨ ((f == 0) = false ∧ (g == 0) = false) ∨ (f = 0 ∧ (g == 0) = false ∧ x = -9223372036854775808) ∨ ((f == 0) = false ∧ g = 0 ∧ y = -9223372036854775808 ∧ x = 0)) := by
  have hna : inR (-a) := by unfold inR at *; omega
  by_cases h0 : c = 0
  · subst h0
    refine ⟨0, 2, 0, 2, ?_, ?_, Or.inr (Or.inl ⟨rfl, rfl⟩)⟩
    · intro w; refine (ratio_zero a b k w).mono ?_; rintro e w' ⟨rfl, rfl⟩; exact ⟨rfl, 0, rfl⟩
    · intro w; refine (ratio_zero (-a) b (turnOf k) w).mono ?_; rintro e w' ⟨rfl, rfl⟩; exact ⟨rfl, 0, rfl⟩
  · refine ⟨_, _, _, _, fun w => ratio_any a b c k ha hb hc h0 w, fun w => ratio_any (-a) b c (turnOf k) hna hb hc h0 w, ?_⟩
    rw [ratN_turn a b c k hk]
    generalize ratN a b c (k : Int) = v
    by_cases h1 : inR v
    · rw [fitV_in h1, fitF_in h1]
      by_cases h2 : inR (-v)
      · rw [fitV_in h2, fitF_in h2]; unfold inR at *; left; omega
      · rw [fitV_out h2, fitF_out h2]; unfold inR at *; right; right; left
        exact ⟨rfl, rfl, by omega⟩
    · rw [fitV_out h1, fitF_out h1]
      by_cases h2 : inR (-v)
      · rw [fitV_in h2, fitF_in h2]; unfold inR at *; right; right; right
        exact ⟨rfl, rfl, by omega, rfl⟩
      · rw [fitV_out h2, fitF_out h2]; right; left; exact ⟨rfl, rfl⟩

theorem tells_seven : Tells 7 1 2 1 3 0 := by
  intro w
  exact ratio_any 7 1 2 1 (by unfold inR; omega) (by unfold inR; omega) (by unfold inR; omega) (by omega) w
theorem tells_minus : Tells (-7) 1 2 1 (-4) 0 := by
  intro w
  exact ratio_any (-7) 1 2 1 (by unfold inR; omega) (by unfold inR; omega) (by unfold inR; omega) (by omega) w

theorem numMirrored_least (b c : Int) (w : World) :
    Calls Try.prog 7 #[.int .i64 (-9223372036854775808), .int .i64 b, .int .i64 c] w fun e w' => e = .returned (.bool true) ∧ Grown w w' := by
  go_enter Try.func7, Try.ntmps7
  go_wp2_with fail
  refine (tells_seven _).mono ?_; rintro e w' ⟨rfl, n, rfl⟩
  go_wp2_with fail
  refine (tells_minus _).mono ?_; rintro e w' ⟨rfl, n', rfl⟩
  go_wp2_with (go_at_call 9; refine (has_any _ _ _).mono ?_; rintro e w' ⟨rfl, rfl⟩)
  go_ret
  exact ⟨rfl, Grown.refl _⟩

set_option maxHeartbeats 1000000 in
theorem numMirrored_main (a b c : Int) (ha : inR a) (hb : inR b) (hc : inR c) (hl : ¬ a = -9223372036854775808) (w : World) :
    Calls Try.prog 7 #[.int .i64 a, .int .i64 b, .int .i64 c] w fun e w' => e = .returned (.bool true) ∧ Grown w w' := by
  have el : (a == -9223372036854775808) = false := by simp [hl]
  have al : -9223372036854775807 ≤ a := by unfold inR at ha; omega
  have au : a ≤ 9223372036854775807 := by unfold inR at ha; omega
  have MP := veil (fun k hk => mirror_pair a b c k hk ha hb hc hl)
  go_enter Try.func7, Try.ntmps7
  go_wp2_with fail
  refine (tells_seven _).mono ?_; rintro e w1 ⟨rfl, n1, hw1⟩
  have g1 : Grown w w1 := by rw [hw1]; exact Grown.refl _
  clear hw1
  go_wp2_with fail
  refine (tells_minus _).mono ?_; rintro e w2 ⟨rfl, n2, hw2⟩
  have g2 : Grown w w2 := by rw [hw2]; exact grown_drewN g1 _
  clear hw2 g1
  go_wp2_with (go_at_call 9; refine (has_keep _ _ _).mono ?_; rintro e w' ⟨rfl, rfl⟩)
  go_loopw [12] (fun i wr => ∃ k : Nat, k ≤ 5 ∧ i = .int .i64 k ∧ (∀ j, j < 5 → wr.cell? ⟨w2.heap.size, j, none⟩ = some (.int .i64 (turnOf j))) ∧ Grown w wr) (fun i _ => 5 - (intOf i).toNat)
  case atStart =>
    refine ⟨0, by omega, rfl, ?_, Grown.alloc g2 _ _⟩
    intro j hj
    match j, hj with
    | 0, _ => simp [turnOf]
    | 1, _ => simp [turnOf]
    | 2, _ => simp [turnOf]
    | 3, _ => simp [turnOf]
    | 4, _ => simp [turnOf]
  case round =>
    obtain ⟨k, hk, rfl, hcs0, gr⟩ := hrel
    have hcs := veil hcs0
    clear hcs0
    by_cases hlt : k < 5
    · obtain ⟨x, f, y, g, T1, T2, hP⟩ := unveil MP k hlt
      rcases hP with ⟨rfl, rfl, hx, y1, y2⟩ | ⟨hf, hg⟩ | ⟨rfl, hg, rfl⟩ | ⟨hf, rfl, rfl, rfl⟩
      · have ex : (x != -y) = false := by simp [hx]
        clear hx
        go_wp2_with fail
        refine (unveil T1 _).mono ?_; rintro e w3 ⟨rfl, n3, hw3⟩
        have g3 : Grown w w3 := by rw [hw3]; exact grown_drewN gr _
        have c3 : ∀ j, j < 5 → w3.cell? ⟨w2.heap.size, j, none⟩ = some (.int .i64 (turnOf j)) := by rw [hw3]; exact unveil hcs
        have ck := c3 k hlt
        have C3 := veil c3
        clear hw3 c3
        go_wp2_with (go_at_call 9; refine (has_keep _ _ _).mono ?_; rintro e w' ⟨rfl, rfl⟩)
        refine (unveil T2 _).mono ?_; rintro e w4 ⟨rfl, n4, hw4⟩
        have g4 : Grown w w4 := by rw [hw4]; exact grown_drewN g3 _
        have c4 := veil (show ∀ j, j < 5 → w4.cell? ⟨w2.heap.size, j, none⟩ = some (.int .i64 (turnOf j)) by rw [hw4]; exact unveil C3)
        clear hw4 ck
        go_wp2_with (go_at_call 9; refine (has_keep _ _ _).mono ?_; rintro e w' ⟨rfl, rfl⟩)
        go_roundw
        case rel => exact ⟨k + 1, by omega, by go_num, unveil c4, g4⟩
        case measure => simp [intOf]; omega
      · skip
        go_wp2_with fail
        refine (unveil T1 _).mono ?_; rintro e w3 ⟨rfl, n3, hw3⟩
        have g3 : Grown w w3 := by rw [hw3]; exact grown_drewN gr _
        have c3 : ∀ j, j < 5 → w3.cell? ⟨w2.heap.size, j, none⟩ = some (.int .i64 (turnOf j)) := by rw [hw3]; exact unveil hcs
        have ck := c3 k hlt
        have C3 := veil c3
        clear hw3 c3
        go_wp2_with (go_at_call 9; refine (has_keep _ _ _).mono ?_; rintro e w' ⟨rfl, rfl⟩)
        refine (unveil T2 _).mono ?_; rintro e w4 ⟨rfl, n4, hw4⟩
        have g4 : Grown w w4 := by rw [hw4]; exact grown_drewN g3 _
        have c4 := veil (show ∀ j, j < 5 → w4.cell? ⟨w2.heap.size, j, none⟩ = some (.int .i64 (turnOf j)) by rw [hw4]; exact unveil C3)
        clear hw4 ck
        go_wp2_with (go_at_call 9; refine (has_keep _ _ _).mono ?_; rintro e w' ⟨rfl, rfl⟩)
        go_roundw
        case rel => exact ⟨k + 1, by omega, by go_num, unveil c4, g4⟩
        case measure => simp [intOf]; omega
      · skip
        go_wp2_with fail
        refine (unveil T1 _).mono ?_; rintro e w3 ⟨rfl, n3, hw3⟩
        have g3 : Grown w w3 := by rw [hw3]; exact grown_drewN gr _
        have c3 : ∀ j, j < 5 → w3.cell? ⟨w2.heap.size, j, none⟩ = some (.int .i64 (turnOf j)) := by rw [hw3]; exact unveil hcs
        have ck := c3 k hlt
        have C3 := veil c3
        clear hw3 c3
        go_wp2_with (go_at_call 9; refine (has_keep _ _ _).mono ?_; rintro e w' ⟨rfl, rfl⟩)
        refine (unveil T2 _).mono ?_; rintro e w4 ⟨rfl, n4, hw4⟩
        have g4 : Grown w w4 := by rw [hw4]; exact grown_drewN g3 _
        have c4 := veil (show ∀ j, j < 5 → w4.cell? ⟨w2.heap.size, j, none⟩ = some (.int .i64 (turnOf j)) by rw [hw4]; exact unveil C3)
        clear hw4 ck
        go_wp2_with (go_at_call 9; refine (has_keep _ _ _).mono ?_; rintro e w' ⟨rfl, rfl⟩)
        go_roundw
        case rel => exact ⟨k + 1, by omega, by go_num, unveil c4, g4⟩
        case measure => simp [intOf]; omega
      · skip
        go_wp2_with fail
        refine (unveil T1 _).mono ?_; rintro e w3 ⟨rfl, n3, hw3⟩
        have g3 : Grown w w3 := by rw [hw3]; exact grown_drewN gr _
        have c3 : ∀ j, j < 5 → w3.cell? ⟨w2.heap.size, j, none⟩ = some (.int .i64 (turnOf j)) := by rw [hw3]; exact unveil hcs
        have ck := c3 k hlt
        have C3 := veil c3
        clear hw3 c3
        go_wp2_with (go_at_call 9; refine (has_keep _ _ _).mono ?_; rintro e w' ⟨rfl, rfl⟩)
        refine (unveil T2 _).mono ?_; rintro e w4 ⟨rfl, n4, hw4⟩
        have g4 : Grown w w4 := by rw [hw4]; exact grown_drewN g3 _
        have c4 := veil (show ∀ j, j < 5 → w4.cell? ⟨w2.heap.size, j, none⟩ = some (.int .i64 (turnOf j)) by rw [hw4]; exact unveil C3)
        clear hw4 ck
        go_wp2_with (go_at_call 9; refine (has_keep _ _ _).mono ?_; rintro e w' ⟨rfl, rfl⟩)
        go_roundw
        case rel => exact ⟨k + 1, by omega, by go_num, unveil c4, g4⟩
        case measure => simp [intOf]; omega
    · have hk5 : k = 5 := by omega
      subst hk5
      go_wp2_with fail
      go_ret
      exact ⟨rfl, gr⟩

theorem numMirrored_walk (a b c : Int) (ha : inR a) (hb : inR b) (hc : inR c) (w : World) :
    Calls Try.prog 7 #[.int .i64 a, .int .i64 b, .int .i64 c] w fun e w' => e = .returned (.bool true) ∧ Grown w w' := by
  by_cases hl : a = -9223372036854775808
  · subst hl; exact numMirrored_least b c w
  · exact numMirrored_main a b c ha hb hc hl w

end Go.Proofs.Ytookmgjnacbdkaa
