/-
  WALK: right; lines are short.
-/
import Derived.Test.YtmdgfcldohmjdaaDoorPlainFlowBack
namespace Go.Proofs.YtmdgfcldohmjdaaDoor
open Go.RowKit
set_option linter.unusedVariables false
set_option linter.unusedSimpArgs false

theorem valI_not {f : Fl} (h : curB f.c = false ∨ f.d < 0 ∨ 1073741824 < f.d) : decide (valI f = 0) = false := by
  refine decide_eq_false (fun e => ?_)
  obtain ⟨h1, h2, h3⟩ := valI_zero e
  rcases h with h | h | h
  · rw [h1] at h; cases h
  · omega
  · omega
theorem valI_yes {f : Fl} (h : curB f.c = true) (h0 : ¬ f.d < 0) (h1 : ¬ 1073741824 < f.d) : decide (valI f = 0) = true := by
  refine decide_eq_true ?_
  unfold valI
  rw [if_neg (by rw [h]; simp), if_neg (by omega)]
set_option maxHeartbeats 1000000 in
theorem right_any (d a : Int) (c : ByteArray) (w : World) (hs : c.size ≤ maxLen) :
    Calls Tryd.prog 11 #[.agg #[.int .i64 d, .string c, .int .i64 a]] w fun e w' => e = .returned (.bool (decide (valI ⟨d, c, a⟩ = 0))) ∧ Below w.heap.size w w' := by
  obtain ⟨w1, hw1⟩ : ∃ w1, w.alloc (.cells #[.int .i64 d, .string c, .int .i64 a] 32) = w1 := ⟨_, rfl⟩
  have x0 : w1.cell? ⟨w.heap.size, 0, none⟩ = some (.int .i64 d) := by rw [← hw1, World.cell?_alloc_at _ _ _ _ rfl]; rfl
  have x1 : w1.cell? ⟨w.heap.size, 1, none⟩ = some (.string c) := by rw [← hw1, World.cell?_alloc_at _ _ _ _ rfl]; rfl
  have B1 := Lib.hid (p := Below w.heap.size w w1) (by rw [← hw1]; exact (Below.refl _ _).alloc (Nat.le_refl _) _)
  by_cases h0 : d < 0
  · rw [valI_not (.inr (.inl h0))]
    go_enter Tryd.func11, Tryd.ntmps11
    go_wp2
    go_ret
    exact ⟨rfl, B1.out⟩
  · by_cases h1 : 1073741824 < d
    · rw [valI_not (.inr (.inr h1))]
      have q0 : decide (d < 0) = false := decide_eq_false h0
      go_enter Tryd.func11, Tryd.ntmps11
      go_wp2
      go_ret
      exact ⟨rfl, B1.out⟩
    · have q0 : decide (d < 0) = false := decide_eq_false h0
      have q1 : decide (1073741824 < d) = false := decide_eq_false h1
      by_cases h3 : c.size = 3
      · have h2 : (c.size : Int) = 3 := by omega
        obtain ⟨B, hB⟩ : ∃ B, decide (valI ⟨d, c, a⟩ = 0) = B := ⟨_, rfl⟩
        have NOB := Lib.hid (p := curB c = false → false = B) (fun g => by rw [← hB, valI_not (.inl g)])
        have YB := Lib.hid (p := curB c = true → true = B) (fun g => by rw [← hB, valI_yes g h0 h1])
        rw [hB]; clear hB
        go_enter Tryd.func11, Tryd.ntmps11
        go_wp2
        go_loopw [3] (fun t wr => ∃ k : Nat, k ≤ 3 ∧ t = .int .i64 k ∧ RowKit.Hid (∀ i, i < k → capB (at8 c i) = true) ∧ wr = w1) (fun t _ => 3 - (intOf t).toNat)
        case atStart => exact ⟨0, by omega, rfl, fun i hi => absurd hi (by omega), rfl⟩
        case round =>
          obtain ⟨k, hk, rfl, hN, hwr⟩ := hrel
          have hwr' := hwr.symm
          subst hwr'
          by_cases hlt : k < 3
          · have hks : k < c.size := by omega
            have E := Lib.hid (at8_lt hks)
            have kc : (k : Int) < 3 := by omega
            have NX := Lib.hid (p := capB (at8 c k) = true → ∀ i, i < k + 1 → capB (at8 c i) = true) (fun g i hi => by
              rcases (show i < k ∨ i = k by omega) with q | q
              · exact hN.out i q
              · rw [q]; exact g)
            have NO := Lib.hid (p := capB (at8 c k) = false → false = B) (fun g => NOB.out (cur_false hlt g))
            by_cases c1 : (c[k].toNat : Int) < 65
            · have OK := Lib.hid (p := capB (at8 c k) = false) (by rw [E.out]; exact decide_eq_false (by omega))
              go_wp2
              go_ret
              exact ⟨ret_b (NO.out OK.out), B1.out⟩
            · have c1' : decide ((c[k].toNat : Int) < 65) = false := decide_eq_false c1
              by_cases c2 : (90 : Int) < (c[k].toNat : Int)
              · have OK := Lib.hid (p := capB (at8 c k) = false) (by rw [E.out]; exact decide_eq_false (by omega))
                go_wp2
                go_ret
                exact ⟨ret_b (NO.out OK.out), B1.out⟩
              · have OK := Lib.hid (p := capB (at8 c k) = true) (by rw [E.out]; exact decide_eq_true (by omega))
                go_wp2
                go_roundw
                case rel => exact ⟨k + 1, by omega, by simp, NX.out OK.out, trivial⟩
                case measure => simp [intOf]; omega
          · obtain rfl : k = 3 := by omega
            have Y := Lib.hid (YB.out (cur_true h3 hN.out))
            go_wp2
            go_ret
            exact ⟨ret_b Y.out, B1.out⟩
      · rw [valI_not (.inl (cur_size h3))]
        have h2 : ((c.size : Int) != 3) = true := by rw [bne_iff_ne]; omega
        have h2' : ¬ (c.size : Int) = 3 := by omega
        go_enter Tryd.func11, Tryd.ntmps11
        go_wp2
        go_ret
        exact ⟨rfl, B1.out⟩
theorem dec_size (k : Nat) : ∀ u, u < 10 ^ (k + 1) → (Lib.decDigits u).length ≤ k + 1 := by
  induction k with
  | zero => intro u h; rw [Lib.decDigits, dif_pos (by simpa using h)]; simp
  | succ k ih =>
    intro u h
    rw [Lib.decDigits]
    split
    · simp
    · have h2 : u < 10 ^ (k + 1) * 10 := by rw [← Nat.pow_succ]; exact h
      have := ih (u / 10) (by omega)
      rw [List.length_append, List.length_singleton]; omega
theorem line_short {f : Fl} (hv : valI f = 0) (ha : -9223372036854775808 ≤ f.a ∧ f.a ≤ 9223372036854775807) : (lineL f).length ≤ 36 := by
  obtain ⟨hc, d0, d1⟩ := valI_zero hv
  have c3 := (cur_out hc).1
  have e1 : (Lib.itoa f.d).length ≤ 10 := by
    unfold Lib.itoa
    rw [if_neg (by omega)]
    exact dec_size 9 _ (by have : (10 : Nat) ^ (9 + 1) = 10000000000 := rfl; omega)
  have e2 : (Lib.itoa f.a).length ≤ 20 := by
    rw [itoa_parts, List.length_append]
    have := dec_size 18 f.a.natAbs (by have : (10 : Nat) ^ (18 + 1) = 10000000000000000000 := rfl; omega)
    split <;> simp <;> omega
  unfold lineL
  have e3 : f.c.data.toList.length = 3 := by rw [← size_list]; exact c3
  simp only [List.length_append, List.length_singleton, e3]
  omega
theorem text_short : ∀ {gs : List Fl}, (∀ f ∈ gs, valI f = 0 ∧ -9223372036854775808 ≤ f.a ∧ f.a ≤ 9223372036854775807) → (textL gs).length ≤ 36 * gs.length
  | [], _ => by simp [textL]
  | f :: gs, h => by
    have e : textL (f :: gs) = lineL f ++ textL gs := rfl
    have h1 := line_short (h f List.mem_cons_self).1 (h f List.mem_cons_self).2
    have h2 := text_short (gs := gs) (fun g hg => h g (List.mem_cons_of_mem _ hg))
    rw [e, List.length_append, List.length_cons]
    omega
end Go.Proofs.YtmdgfcldohmjdaaDoor
