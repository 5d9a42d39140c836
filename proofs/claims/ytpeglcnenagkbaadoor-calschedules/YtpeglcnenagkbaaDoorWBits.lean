/-
  BITS OF WORDS (plain), AND THE WALK OF weekdaysOf64.
-/
import Derived.Test.YtpeglcnenagkbaaDoorRows
import Derived.WalkKit
import Derived.WalkSpells
import Derived.Below
import Derived.BigCall
import Derived.BigGuard
import Derived.Lib.Hide
import Derived.Laws.BitsAllLaws
import Derived.Deep.RegionHeld3
namespace Go.Proofs.YtpeglcnenagkbaaDoor
open Go.RowKit
set_option linter.unusedVariables false
set_option linter.unusedSimpArgs false

theorem pow_lt64 {k : Nat} (h : k < 64) : 2 ^ k < 18446744073709551616 := by
  have : 2 ^ k < 2 ^ 64 := Nat.pow_lt_pow_right (by omega) h
  simpa using this
theorem wrap_pow {k : Nat} (h : k < 64) : IntKind.u64.wrap (2 ^ k) = ((2 ^ k : Nat) : Int) := by
  have := pow_lt64 h
  rw [show (2 : Int) ^ k = ((2 ^ k : Nat) : Int) by simp]
  generalize 2 ^ k = m at *
  simp [IntKind.wrap, IntKind.bits, IntKind.signed]
  omega
/-- Setting a bit. -/
theorem or_pow (v k : Nat) (hv : v < 18446744073709551616) (hk : k < 64) : ∃ u : Nat, bits .or .u64 (v : Int) (IntKind.u64.wrap (2 ^ k)) = (u : Int) ∧ u < 18446744073709551616 ∧ ∀ i, u.testBit i = (v.testBit i || decide (i = k)) := by
  rw [wrap_pow hk, u64_or_nat v (2 ^ k) hv (pow_lt64 hk)]
  refine ⟨_, rfl, ?_, fun i => ?_⟩
  · have := Nat.or_lt_two_pow (n := 64) (x := v) (y := 2 ^ k) (by simpa using hv) (by simpa using pow_lt64 hk)
    simpa using this
  · rw [Nat.testBit_or, Nat.testBit_two_pow]; congr 1; simp [eq_comm]
/-- Clearing a bit. -/
theorem andNot_pow (v k : Nat) (hv : v < 18446744073709551616) (hk : k < 64) : ∃ u : Nat, bits .andNot .u64 (v : Int) (IntKind.u64.wrap (2 ^ k)) = (u : Int) ∧ u < 18446744073709551616 ∧ ∀ i, i < 64 → u.testBit i = (v.testBit i && !decide (i = k)) := by
  rw [wrap_pow hk, u64_andNot_nat v (2 ^ k) hv (pow_lt64 hk)]
  refine ⟨_, rfl, Nat.lt_of_le_of_lt Nat.and_le_left hv, fun i hi => ?_⟩
  rw [Nat.testBit_and]
  congr 1
  have := Nat.testBit_two_pow_sub_succ (n := 64) (x := 2 ^ k) (by simpa using pow_lt64 hk) i
  rw [show (18446744073709551615 : Nat) - 2 ^ k = 2 ^ 64 - (2 ^ k + 1) by omega, this, decide_eq_true hi, Nat.testBit_two_pow]
  simp [eq_comm]

set_option maxHeartbeats 1000000 in
theorem wk64 (f : Int) (w : World) (h0 : 0 ≤ f) (h1 : f ≤ 6) :
    Calls Tryd.prog 46 #[.int .i64 f] w fun e w' => ∃ v : Nat, e = .returned (.int .u64 v) ∧ v < 18446744073709551616 ∧ (∀ i, i < 64 → v.testBit i = decide ((f + i) % 7 < 5)) ∧ w' = w := by
  go_enter Tryd.func46, Tryd.ntmps46
  go_wp2
  go_loop [3, 5] (fun s i => ∃ (k v : Nat), k ≤ 64 ∧ i = .int .i64 k ∧ s = .int .u64 v ∧ v < 18446744073709551616 ∧ RowKit.Hid (∀ i : Nat, v.testBit i = decide (i < k ∧ (f + i) % 7 < 5))) (fun _ i => 64 - (intOf i).toNat)
  case atStart => exact ⟨0, 0, by omega, rfl, rfl, by omega, fun i => by simp⟩
  case round =>
    obtain ⟨k, v, hk, rfl, rfl, v1, hv⟩ := hrel
    by_cases hlt : k < 64
    · by_cases c : (f + k) % 7 < 5
      · obtain ⟨u, u1, u2, u3⟩ := or_pow v k v1 hlt
        have U3 := Lib.hid u3
        clear u3
        go_wp2
        go_round
        case rel => exact ⟨k + 1, u, by omega, by go_num, rfl, u2, fun i => by
          rw [U3.out i, hv.out i, Bool.eq_iff_iff]
          simp only [Bool.or_eq_true, decide_eq_true_eq]
          constructor
          · rintro (⟨a, b⟩ | rfl)
            · exact ⟨by omega, b⟩
            · exact ⟨by omega, c⟩
          · rintro ⟨a, b⟩
            rcases (show i < k ∨ i = k by omega) with q | q
            · exact .inl ⟨q, b⟩
            · exact .inr q⟩
        case measure => simp [intOf]; omega
      · have c' : decide ((f + k) % 7 < 5) = false := by simpa using c
        go_wp2
        go_round
        case rel => exact ⟨k + 1, v, by omega, by go_num, rfl, v1, fun i => by
          rw [hv.out i, Bool.eq_iff_iff]
          simp only [decide_eq_true_eq]
          constructor
          · rintro ⟨a, b⟩; exact ⟨by omega, b⟩
          · rintro ⟨a, b⟩
            rcases (show i < k ∨ i = k by omega) with q | q
            · exact ⟨q, b⟩
            · subst q; exact absurd b c⟩
        case measure => simp [intOf]; omega
    · obtain rfl : k = 64 := by omega
      go_wp2
      go_ret
      exact ⟨v, rfl, v1, fun i hi => by rw [hv.out i, Bool.eq_iff_iff]; simp [hi], rfl⟩

/-- A row of words, where the world holds it. -/
def Wd (w : World) (g : Nat) (ws : List Nat) : Prop := g < w.heap.size ∧ ∀ i, i < ws.length → w.cell? ⟨g, i, none⟩ = some (.int .u64 (ws.getD i 0 : Nat)) ∧ w.frozen? ⟨g, i, none⟩ = false
theorem Wd.set {w : World} {g : Nat} {ws : List Nat} (h : Wd w g ws) (j u : Nat) (hj : j < ws.length) : Wd (w.setCell ⟨g, j, none⟩ (.int .u64 (u : Nat))) g (ws.set j u) := by
  refine ⟨by simpa using h.1, fun i hi => ?_⟩
  rw [List.length_set] at hi
  refine ⟨?_, by simpa using (h.2 i hi).2⟩
  by_cases e : i = j
  · subst e
    rw [World.cell?_setCell_same _ _ _ (h.2 i hi).1]
    simp [List.getD, hj]
  · rw [World.cell?_setCell_other _ _ _ _ (by first | (simp; done) | (simp; omega)), (h.2 i hi).1]
    simp only [List.getD, List.getElem?_set]
    rw [if_neg (by omega)]
theorem Wd.grow {w : World} {g : Nat} {ws : List Nat} (h : Wd w g ws) (o : Obj) : Wd (w.alloc o) g ws := by
  have b := (Below.refl w.heap.size w).alloc (Nat.le_refl _) o
  refine ⟨Nat.lt_of_lt_of_le h.1 b.size, fun i hi => ?_⟩
  rw [b.cell (p := ⟨g, i, none⟩) h.1, b.frozen (p := ⟨g, i, none⟩) h.1]
  exact h.2 i hi
theorem Wd.draw {w : World} {g : Nat} {ws : List Nat} (h : Wd w g ws) : Wd w.drew g ws := h

set_option maxHeartbeats 1000000 in
theorem markClosed_any (g n cap : Nat) (first d : Int) (ws : List Nat) (w : World) (hn : ws.length = n) (hw : Wd w g ws) (hlt : ∀ i, ws.getD i 0 < 18446744073709551616) (h0 : 0 ≤ first) (h1 : first ≤ d) (h2 : d ≤ 1000000) (hj : ((d - first) / 64).toNat < n) (hn2 : n ≤ 100000) :
    Calls Tryd.prog 47 #[.agg #[.int .i64 first, .slice (some ⟨g, 0, none⟩) n cap], .int .i64 d] w fun e w' => ∃ u : Nat, e = .returned (.tuple #[]) ∧ u < 18446744073709551616 ∧
      (∀ i, i < 64 → u.testBit i = ((ws.getD ((d - first) / 64).toNat 0).testBit i && !decide (i = ((d - first) % 64).toNat))) ∧
      w' = ((w.alloc (.cells #[.int .i64 first, .slice (some ⟨g, 0, none⟩) n cap] 58)).setCell ⟨g, ((d - first) / 64).toNat, none⟩ (.int .u64 (u : Nat))).drew := by
  obtain ⟨j, ej⟩ : ∃ j : Nat, (d - first) / 64 = j := ⟨((d - first) / 64).toNat, by omega⟩
  obtain ⟨t, et⟩ : ∃ t : Nat, (d - first) % 64 = t := ⟨((d - first) % 64).toNat, by omega⟩
  have ht : t < 64 := by omega
  rw [ej] at hj
  have hj' : j < n := by simpa using hj
  obtain ⟨hg, hc⟩ := (hw.grow (.cells #[.int .i64 first, .slice (some ⟨g, 0, none⟩) n cap] 58))
  have hcell := (hc j (by omega)).1
  have hfro := (hc j (by omega)).2
  obtain ⟨u, u1, u2, u3⟩ := andNot_pow (ws.getD j 0) t (hlt j) ht
  rw [ej, et]
  simp only [Int.toNat_natCast]
  have U3 := Lib.hid u3
  generalize ws.getD j 0 = v at *
  clear u3 hc hlt hw hj
  have hdf : 0 ≤ d - first := by omega
  have jn : (j : Int) < n := by omega
  go_enter Tryd.func47, Tryd.ntmps47
  go_wp2
  go_region
  all_goals
    go_end0
    exact ⟨u, rfl, u2, U3.out, rfl⟩
end Go.Proofs.YtpeglcnenagkbaaDoor
