/-
  The document's token, whole.
-/
import Derived.Test.YtlihkmhhfnkkoaaDoorWRefLex12A
import Derived.Test.YtlihkmhhfnkkoaaDoorWRefLex12C
import Derived.Test.YtlihkmhhfnkkoaaDoorWRefLex6
namespace Go.Proofs.YtlihkmhhfnkkoaaDoor
open Go.RowKit Lx
set_option linter.unusedVariables false
set_option linter.unusedSimpArgs false

theorem rtoken_date (s : ByteArray) (at_ : Nat) (w : World) (hs : s.size ≤ 65536) (hf : fits form ((lst s).drop at_) = true) :
    Calls Tryd.prog 20 #[.string s, .int .i64 (at_ : Int)] w fun e w' => e = trEnd (atV at_ (datT (((lst s).drop at_).take 10))) ∧ Below w.heap.size w w' := by
  have hl := fits_len hf
  rw [List.length_drop, lst_len] at hl
  simp only [form, List.length_cons, List.length_nil] at hl
  have ha : at_ + 10 ≤ s.size := by omega
  obtain ⟨a0, a1, a2, a3, a4, a5, a6, a7, a8, a9, r, hr⟩ := ten_of (r := (lst s).drop at_) (by rw [List.length_drop, lst_len]; omega)
  have hp := hf
  rw [hr, fits_parts] at hp
  simp only [Bool.and_eq_true, decide_eq_true_eq] at hp
  have g4 : allD [a0, a1, a2, a3] = true := hp.2.2.2.1
  have g2 : allD [a5, a6] = true := hp.2.2.2.2.1
  have g8 : allD [a8, a9] = true := hp.2.2.2.2.2
  have G4 := allD_iff.1 g4
  have G2 := allD_iff.1 g2
  have G8 := allD_iff.1 g8
  obtain ⟨v4, y0, y1⟩ := nv4 (G4 a0 (by simp)) (G4 a1 (by simp)) (G4 a2 (by simp)) (G4 a3 (by simp))
  obtain ⟨v2, m0, m1⟩ := nv2 (G2 a5 (by simp)) (G2 a6 (by simp))
  obtain ⟨v8, d0, d1⟩ := nv2 (G8 a8 (by simp)) (G8 a9 (by simp))
  have n4 := num_bs [a0, a1, a2, a3] _ (by simp) g4 v4
  have n2 := num_bs [a5, a6] _ (by simp) g2 v2
  have n8 := num_bs [a8, a9] _ (by simp) g8 v8
  have m04 := mid_drop s at_ 0 4 (by omega) (by omega)
  have m57 := mid_drop s at_ 5 7 (by omega) (by omega)
  have m80 := mid_drop s at_ 8 10 (by omega) (by omega)
  have m00 := mid_drop s at_ 0 10 (by omega) (by omega)
  rw [Nat.add_zero, hr] at m04 m00
  rw [hr] at m57 m80
  have e4 : ((lst s).take (at_ + 4)).drop at_ = [a0, a1, a2, a3] := m04
  have e2 : ((lst s).take (at_ + 7)).drop (at_ + 5) = [a5, a6] := m57
  have e8 : ((lst s).take (at_ + 10)).drop (at_ + 8) = [a8, a9] := m80
  have e10 : ((lst s).take (at_ + 10)).drop at_ = [a0, a1, a2, a3, a4, a5, a6, a7, a8, a9] := m00
  have key : datT (((lst s).drop at_).take 10) = if Cal.exB (dvL [a0, a1, a2, a3]) (dvL [a5, a6]) (dvL [a8, a9]) = true then .tok ⟨4, [a0, a1, a2, a3, a4, a5, a6, a7, a8, a9], 0, 0, dvL [a0, a1, a2, a3], dvL [a5, a6], dvL [a8, a9], 0, 0⟩ else .err 0 62 := by rw [hr]; rfl
  rw [key]
  generalize dvL [a0, a1, a2, a3] = Y at *
  generalize dvL [a5, a6] = M at *
  generalize dvL [a8, a9] = D at *
  have no : Cal.exB Y M D = false → atV at_ (if Cal.exB Y M D = true then .tok ⟨4, [a0, a1, a2, a3, a4, a5, a6, a7, a8, a9], 0, 0, Y, M, D, 0, 0⟩ else .err 0 62) = (tokR0, (at_ : Int), 62) := fun h => by rw [if_neg (by rw [h]; simp), atV_err]
  by_cases c0 : Y < 1900
  · rw [no (by unfold Cal.exB; exact decide_eq_false (by omega))]
    exact rdate_y0 s at_ w hs ha hf _ _ _ _ Y M D e4 e2 e8 e10 n4 n2 n8 ⟨y0, y1⟩ c0
  by_cases c1 : 2199 < Y
  · rw [no (by unfold Cal.exB; exact decide_eq_false (by omega))]
    exact rdate_y1 s at_ w hs ha hf _ _ _ _ Y M D e4 e2 e8 e10 n4 n2 n8 ⟨y0, y1⟩ c0 c1
  by_cases c2 : M < 1
  · rw [no (by unfold Cal.exB; exact decide_eq_false (by omega))]
    exact rdate_m0 s at_ w hs ha hf _ _ _ _ Y M D e4 e2 e8 e10 n4 n2 n8 ⟨y0, y1⟩ c0 c1 c2
  by_cases c3 : 12 < M
  · rw [no (by unfold Cal.exB; exact decide_eq_false (by omega))]
    exact rdate_m1 s at_ w hs ha hf _ _ _ _ Y M D e4 e2 e8 e10 n4 n2 n8 ⟨y0, y1⟩ c0 c1 c2 c3
  by_cases c4 : D < 1
  · rw [no (by unfold Cal.exB; exact decide_eq_false (by omega))]
    exact rdate_d0 s at_ w hs ha hf _ _ _ _ Y M D e4 e2 e8 e10 n4 n2 n8 ⟨y0, y1⟩ c0 c1 c2 c3 c4
  by_cases c5 : Cal.len Y M < D
  · rw [no (by unfold Cal.exB; exact decide_eq_false (by omega))]
    exact rdate_d1 s at_ w hs ha hf _ _ _ _ Y M D e4 e2 e8 e10 n4 n2 n8 ⟨y0, y1⟩ c0 c1 c2 c3 c4 c5
  · rw [if_pos (by unfold Cal.exB; exact decide_eq_true (by omega))]
    exact rdate_ok s at_ w hs ha hf _ _ _ _ Y M D e4 e2 e8 e10 n4 n2 n8 ⟨y0, y1⟩ c0 c1 c2 c3 c4 c5
theorem rtoken_any (s : ByteArray) (at_ : Nat) (w : World) (hs : s.size ≤ 65536) (ha : at_ < s.size) (hb : blN (s[at_].toNat) = false) (h35 : s[at_].toNat ≠ 35) :
    Calls Tryd.prog 20 #[.string s, .int .i64 (at_ : Int)] w fun e w' => e = trEnd (atV at_ (Lx.step ((lst s).drop at_))) ∧ Below w.heap.size w w' := by
  have hd := head_drop ha
  have hr : (lst s).drop at_ ≠ [] := by intro e; have := congrArg List.length e; rw [List.length_drop, lst_len] at this; simp at this; omega
  rw [step_plain (by rw [hd]; exact hb) (by rw [hd]; exact h35)]
  cases hf : fits form ((lst s).drop at_) with
  | true => rw [if_pos rfl]; exact rtoken_date s at_ w hs hf
  | false =>
    rw [if_neg (by simp)]
    cases g1 : dgN (((lst s).drop at_).headD 0).toNat with
    | true =>
      rw [if_pos rfl]
      obtain ⟨q, hq⟩ := run_head hr (rn_dg g1)
      rw [digR_eq (d := run ((lst s).drop at_)) (by rw [hq]; simp) (by rw [hq, List.headD_cons]; exact g1)]
      exact rtoken_num s at_ w hs ha hf g1
    | false =>
      rw [if_neg (by simp)]
      cases g2 : smN (((lst s).drop at_).headD 0).toNat with
      | true => rw [if_pos rfl]; exact rtoken_small s at_ w hs ha hf g2
      | false =>
        rw [if_neg (by simp)]
        cases g3 : cpN (((lst s).drop at_).headD 0).toNat with
        | true => rw [if_pos rfl]; exact rtoken_cap s at_ w hs ha hf g3
        | false =>
          rw [if_neg (by simp)]
          refine rtoken_mark s at_ w hs ha hf ?_
          cases g4 : rnN (((lst s).drop at_).headD 0).toNat with
          | false => exact .inl rfl
          | true =>
            right
            rcases rn_parts g4 with h | h | h | h
            · rw [g1] at h; cases h
            · rw [g2] at h; cases h
            · rw [g3] at h; cases h
            · exact h
end Go.Proofs.YtlihkmhhfnkkoaaDoor
