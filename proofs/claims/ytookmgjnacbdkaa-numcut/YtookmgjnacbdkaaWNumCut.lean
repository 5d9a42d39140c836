/-
  WALK: NumCut.
-/
import Derived.Test.YtookmgjnacbdkaaWSum
import Derived.Below
namespace Go.Proofs.Ytookmgjnacbdkaa
open Go.RowKit

theorem sum_two (w : World) (cap : Nat) :
    Calls Try.prog 12 #[.slice (some ⟨w.heap.size, 0, none⟩) 2 cap] (w.alloc (.cells #[.int .i64 5, .int .i64 6] 3)) fun e w' => e = .returned (.tuple #[.int .i64 11, .int .i64 0]) ∧ w' = w.alloc (.cells #[.int .i64 5, .int .i64 6] 3) := by
  refine sum_any w.heap.size 0 2 cap [5, 6] _ (by decide) ?_ ?_
  · intro i hi
    match i, hi with
    | 0, _ => simp
    | 1, _ => simp
  · intro i
    match i with
    | 0 => simp [inR]
    | 1 => simp [inR]
    | i + 2 => simp [inR]

theorem numCut_out (a : Option Addr) (len cap : Nat) (n : Int) (w : World) (h : n < 0 ∨ (len : Int) < n) :
    Calls Try.prog 4 #[.slice a len cap, .int .i64 n] w fun e w' => e = .returned (.bool true) ∧ Below w.heap.size w w' := by
  by_cases h1 : n < 0
  · clear h
    go_enter Try.func4, Try.ntmps4
    go_wp2_with fail
    refine (sum_two w _).mono ?_; rintro e w' ⟨rfl, rfl⟩
    go_wp2_with (go_at_call 9; refine (has_any _ _ _).mono ?_; rintro e w' ⟨rfl, rfl⟩)
    go_ret
    exact ⟨rfl, (Below.refl _ _).alloc (Nat.le_refl _) _⟩
  · have h2 : decide (n < 0) = false := by simpa using h1
    have h3 : (len : Int) < n := by omega
    clear h h1
    go_enter Try.func4, Try.ntmps4
    go_wp2_with fail
    refine (sum_two w _).mono ?_; rintro e w' ⟨rfl, rfl⟩
    go_wp2_with (go_at_call 9; refine (has_any _ _ _).mono ?_; rintro e w' ⟨rfl, rfl⟩)
    go_ret
    exact ⟨rfl, (Below.refl _ _).alloc (Nat.le_refl _) _⟩

theorem numCut_empty (a : Option Addr) (cap : Nat) (w : World) :
    Calls Try.prog 4 #[.slice a 0 cap, .int .i64 0] w fun e w' => e = .returned (.bool true) ∧ Below w.heap.size w w' := by
  go_enter Try.func4, Try.ntmps4
  go_wp2_with fail
  refine (sum_two w _).mono ?_; rintro e w' ⟨rfl, rfl⟩
  go_wp2_with (go_at_call 9; refine (has_any _ _ _).mono ?_; rintro e w' ⟨rfl, rfl⟩)
  refine (sum_zero _ _ _).mono ?_; rintro e w' ⟨rfl, rfl⟩
  go_wp2_with (go_at_call 9; refine (has_any _ _ _).mono ?_; rintro e w' ⟨rfl, rfl⟩)
  refine (sum_zero _ _ _).mono ?_; rintro e w' ⟨rfl, rfl⟩
  go_wp2_with (go_at_call 9; refine (has_any _ _ _).mono ?_; rintro e w' ⟨rfl, rfl⟩)
  go_loop [9, 10, 11] (fun s g i => s = .int .i64 0 ∧ g = .int .i64 0 ∧ i = .int .i64 0) (fun _ _ _ => 0)
  case atStart => exact ⟨rfl, rfl, rfl⟩
  case round =>
    obtain ⟨rfl, rfl, rfl⟩ := hrel
    go_wp2_with (go_at_call 9; refine (has_any _ _ _).mono ?_; rintro e w' ⟨rfl, rfl⟩)
    refine (sum_zero _ _ _).mono ?_; rintro e w' ⟨rfl, rfl⟩
    go_wp2_with (go_at_call 9; refine (has_any _ _ _).mono ?_; rintro e w' ⟨rfl, rfl⟩)
    go_ret
    exact ⟨rfl, (Below.refl _ _).alloc (Nat.le_refl _) _⟩

set_option maxHeartbeats 400000 in
theorem numCut_main (b off len cap m : Nat) (zs : List Int) (w : World) (hl : len ≤ maxLen) (hcap : len ≤ cap) (hm : m ≤ len)
    (hc : ∀ i, i < len → w.cell? ⟨b, off + i, none⟩ = some (.int .i64 (zs.getD i 0))) (hb : b < w.heap.size) (hz : ∀ i, inR (zs.getD i 0)) :
    Calls Try.prog 4 #[.slice (some ⟨b, off, none⟩) len cap, .int .i64 (m : Int)] w fun e w' => e = .returned (.bool true) ∧ Below w.heap.size w w' := by
  have hl' := hl
  unfold maxLen at hl'
  have h1 : decide ((m : Int) < 0) = false := by simp
  have h2 : decide ((len : Int) < (m : Int)) = false := by simp; omega
  have hc' : ∀ i, i < len → (w.alloc (.cells #[.int .i64 5, .int .i64 6] 3)).cell? ⟨b, off + i, none⟩ = some (.int .i64 (zs.getD i 0)) := by
    intro i hi
    rw [World.cell?_alloc_past _ _ _ (by simpa using hb)]
    exact hc i hi
  have S1 := veil (sum_any b off len cap zs _ hl hc' hz)
  have S2 := veil (sum_any b off m cap zs _ (Nat.le_trans hm hl) (fun i hi => hc' i (by omega)) hz)
  have HC0 := veil hc
  have HZ := veil hz
  clear hc hc' hz
  go_enter Try.func4, Try.ntmps4
  go_wp2_with fail
  refine (sum_two w _).mono ?_; rintro e w' ⟨rfl, rfl⟩
  go_wp2_with (go_at_call 9; refine (has_any _ _ _).mono ?_; rintro e w' ⟨rfl, rfl⟩)
  refine (unveil S1).mono ?_; rintro e w' ⟨rfl, rfl⟩
  go_wp2_with (go_at_call 9; refine (has_any _ _ _).mono ?_; rintro e w' ⟨rfl, rfl⟩)
  refine (unveil S2).mono ?_; rintro e w' ⟨rfl, rfl⟩
  go_wp2_with (go_at_call 9; refine (has_any _ _ _).mono ?_; rintro e w' ⟨rfl, rfl⟩)
  go_loop [9, 10, 11] (fun s g i => ∃ k : Nat, k ≤ len ∧ i = .int .i64 k ∧ ((sumF zs k = 0 ∧ s = .int .i64 (sumV zs k) ∧ g = .int .i64 0) ∨ (¬ sumF zs k = 0 ∧ s = .int .i64 0 ∧ g = .int .i64 1))) (fun _ _ i => len - (intOf i).toNat)
  case atStart =>
    refine ⟨m, hm, rfl, ?_⟩
    rcases sums_one zs m with h | ⟨h, h'⟩
    · exact Or.inl ⟨h, rfl, by rw [h]⟩
    · exact Or.inr ⟨by omega, by rw [h'], by rw [h]⟩
  case round =>
    obtain ⟨k, hk, rfl, hd⟩ := hrel
    rcases hd with ⟨hf, rfl, rfl⟩ | ⟨hf, rfl, rfl⟩
    · by_cases hlt : k < len
      · have hcell : w.cell? ⟨b, off + k, none⟩ = some (.int .i64 (zs.getD k 0)) := unveil HC0 k hlt
        have A := veil (fun w => add_any (sumV zs k) (zs.getD k 0) (sumV_in zs k) (unveil HZ k) w)
        rw [sumV_succ hf, sumF_succ hf] at A
        clear hf
        generalize zs.getD k 0 = z at *
        rcases sums_one zs (k + 1) with h | ⟨h, h'⟩
        · rw [h] at A
          have H := veil h
          clear h
          go_wp2_with (go_at_call 9; refine (has_any _ _ _).mono ?_; rintro e w' ⟨rfl, rfl⟩)
          refine (unveil A _).mono ?_; rintro e w' ⟨rfl, rfl⟩
          go_wp2_with (go_at_call 9; refine (has_any _ _ _).mono ?_; rintro e w' ⟨rfl, rfl⟩)
          go_round
          case rel => exact ⟨k + 1, by omega, by go_num, Or.inl ⟨unveil H, rfl, rfl⟩⟩
          case measure => simp [intOf]; omega
        · rw [h, h'] at A
          have H := veil (show ¬ sumF zs (k + 1) = 0 by omega)
          clear h h'
          go_wp2_with (go_at_call 9; refine (has_any _ _ _).mono ?_; rintro e w' ⟨rfl, rfl⟩)
          refine (unveil A _).mono ?_; rintro e w' ⟨rfl, rfl⟩
          go_wp2_with (go_at_call 9; refine (has_any _ _ _).mono ?_; rintro e w' ⟨rfl, rfl⟩)
          go_round
          case rel => exact ⟨k + 1, by omega, by go_num, Or.inr ⟨unveil H, rfl, rfl⟩⟩
          case measure => simp [intOf]; omega
      · have hkl : k = len := by omega
        subst hkl
        have e1 : (sumF zs k == 0) = true := by simp [hf]
        have hg : decide ((k : Int) < (k : Int)) = false := by simp
        clear hf
        go_wp2_with (go_at_call 9; refine (has_any _ _ _).mono ?_; rintro e w' ⟨rfl, rfl⟩)
        refine (sum_zero _ _ _).mono ?_; rintro e w' ⟨rfl, rfl⟩
        go_wp2_with (go_at_call 9; refine (has_any _ _ _).mono ?_; rintro e w' ⟨rfl, rfl⟩)
        go_ret
        exact ⟨rfl, (Below.refl _ _).alloc (Nat.le_refl _) _⟩
    · have hst := sums_stay hf hk
      have e1 : (sumF zs len == 1) = true := by simp [hst.1]
      have e2 : (sumV zs len == 0) = true := by simp [hst.2]
      clear hst hf
      by_cases hlt : k < len
      · go_wp2_with (go_at_call 9; refine (has_any _ _ _).mono ?_; rintro e w' ⟨rfl, rfl⟩)
        refine (sum_zero _ _ _).mono ?_; rintro e w' ⟨rfl, rfl⟩
        go_wp2_with (go_at_call 9; refine (has_any _ _ _).mono ?_; rintro e w' ⟨rfl, rfl⟩)
        go_ret
        exact ⟨rfl, (Below.refl _ _).alloc (Nat.le_refl _) _⟩
      · have hg : decide ((k : Int) < (len : Int)) = false := by simp; omega
        go_wp2_with (go_at_call 9; refine (has_any _ _ _).mono ?_; rintro e w' ⟨rfl, rfl⟩)
        refine (sum_zero _ _ _).mono ?_; rintro e w' ⟨rfl, rfl⟩
        go_wp2_with (go_at_call 9; refine (has_any _ _ _).mono ?_; rintro e w' ⟨rfl, rfl⟩)
        go_ret
        exact ⟨rfl, (Below.refl _ _).alloc (Nat.le_refl _) _⟩

theorem numCut_walk (a : Option Addr) (len cap : Nat) (zs : List Int) (n : Int) (w : World) (h : RowIn w a len cap zs) :
    Calls Try.prog 4 #[.slice a len cap, .int .i64 n] w fun e w' => e = .returned (.bool true) ∧ Below w.heap.size w w' := by
  obtain ⟨hl, hcap, hz, hd⟩ := isRow_cells h
  by_cases ho : n < 0 ∨ (len : Int) < n
  · exact numCut_out a len cap n w ho
  · obtain ⟨m, rfl⟩ := Int.eq_ofNat_of_zero_le (show 0 ≤ n by omega)
    rcases hd with rfl | ⟨b, off, rfl, hb, hc⟩
    · obtain rfl : m = 0 := by omega
      exact numCut_empty a cap w
    · exact numCut_main b off len cap m zs w hl hcap (by omega) hc hb hz

end Go.Proofs.Ytookmgjnacbdkaa
