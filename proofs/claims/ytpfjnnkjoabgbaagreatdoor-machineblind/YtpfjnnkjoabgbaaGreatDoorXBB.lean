import Derived.Test.YtpfjnnkjoabgbaaGreatDoorXBA
import Derived.Test.YtpfjnnkjoabgbaaGreatDoorXAH
import Derived.Test.YtpfjnnkjoabgbaaGreatDoorXAF
namespace Go.Proofs.YtpfjnnkjoabgbaaGreatDoor
open Go.RowKit
set_option linter.unusedVariables false
set_option linter.unusedSimpArgs false
/-- Every box that is no run stays. -/
def Sty (w w' : World) : Prop := ∀ b cs t, BkP w b cs t → t ≠ 83 → BkP w' b cs t
theorem ro_cut {K : Kx} {w : World} {stv slv flv : Value} {steps : Int} {r : Rn} (h : RO K w stv slv flv steps r) {x : Int} {l : List Int} (e : r.st = x :: l) {g cap : Nat} (hs : stv = .slice (some ⟨g, 0, none⟩) (l.length + 1) cap) (ho : OwZ w K.B (.slice (some ⟨g, 0, none⟩) l.length cap) l.reverse) : RO K (w.setCell ⟨K.rb, 5, none⟩ (.slice (some ⟨g, 0, none⟩) l.length cap)) (.slice (some ⟨g, 0, none⟩) l.length cap) slv flv steps { r with st := l } :=
  h.stack (x := none) ⟨rfl, rfl, rfl, Nat.le_refl _, fun _ _ _ => rfl⟩ (.inl rfl) ho (.inr (.inl (by rw [hs]; rfl))) (fun y hy => h.r1 y (by rw [e]; exact List.mem_cons_of_mem _ hy))
set_option maxRecDepth 100000 in
set_option maxHeartbeats 1600000 in
theorem take_ro {K : Kx} {w : World} {stv slv flv : Value} {steps : Int} {r : Rn} (h : RO K w stv slv flv steps r) {x : Int} {l : List Int} (e : r.st = x :: l) : Calls Tryz.prog 109 #[.pointer (some ⟨K.rb, 0, none⟩)] w fun e w' => e = .returned (.int .i64 x) ∧ (∃ sv, RO K w' sv slv flv steps { r with st := l }) ∧ Sty w w' := by
  have KT := Lib.hid (top_any ⟨_, _, _, h⟩ e)
  obtain ⟨g, cap, hs, hcap, _, _⟩ := st_form h e
  have hn : l.length < 9223372036854775807 := by
    have := h.st.2
    rw [hs] at this
    rcases this with ⟨q, _⟩ | ⟨g', cap', cur, q, _, _, _, q5, _⟩
    · cases q
    · injection q with _ _ q
      subst q
      unfold maxLen at q5
      omega
  have E := Lib.hid (p := ∀ V, Below w.heap.size w V → V.cell? ⟨K.rb, 5, none⟩ = some (.slice (some ⟨g, 0, none⟩) (l.length + 1) cap) ∧ V.frozen? ⟨K.rb, 5, none⟩ = false ∧ (∃ sv, RO K (V.setCell ⟨K.rb, 5, none⟩ (.slice (some ⟨g, 0, none⟩) l.length cap)) sv slv flv steps { r with st := l }) ∧ Sty w (V.setCell ⟨K.rb, 5, none⟩ (.slice (some ⟨g, 0, none⟩) l.length cap))) (fun V b => by
    have h' := h.lat b
    obtain ⟨g', cap', hs', _, _, ho⟩ := st_form h' e
    have hs2 := hs'
    rw [hs] at hs'
    injection hs' with q1 q2 q3
    injection q1 with q1
    injection q1 with q1
    subst q1 q3
    refine ⟨by rw [← hs]; exact (run_cells h').2.2.2.2.2.1, h'.rb.frozen 5, ⟨_, ro_cut h' e hs2 ho⟩, fun y cs t q ht => (q.lat b).other _ _ _ (bk_ne h'.rb (q.lat b) (Ne.symm ht))⟩)
  obtain ⟨n, hl⟩ : ∃ n, l.length = n := ⟨_, rfl⟩
  obtain ⟨m, hm⟩ : ∃ m, l.length + 1 = m := ⟨_, rfl⟩
  have ew : IntKind.i64.wrap ((m : Int) - 1) = (n : Int) := by simp [IntKind.wrap, IntKind.bits, IntKind.signed]; omega
  have l1 : ¬ (n : Int) < 0 := by omega
  have l2 : (n : Int) < (m : Int) := by omega
  have l3 : ¬ (cap : Int) < (n : Int) := by omega
  have l4 : n ≤ cap := by omega
  rw [hm, hl] at E
  clear hl hm h e hcap hn hs
  go_enter Tryz.func109, Tryz.ntmps109
  go_wp2_with (go_at_call 110; refine KT.out.mono ?_; rintro e w1 ⟨rfl, q, rfl⟩; obtain ⟨z1, z2, z3⟩ := E.out _ (drewB w q))
  obtain ⟨W, hW⟩ : ∃ W, w.drewN q = W := ⟨_, rfl⟩
  have EE := Lib.hid (p := ∀ V, Below W.heap.size W V → V.cell? ⟨K.rb, 5, none⟩ = some (.slice (some ⟨g, 0, none⟩) m cap) ∧ V.frozen? ⟨K.rb, 5, none⟩ = false ∧ (∃ sv, RO K (V.setCell ⟨K.rb, 5, none⟩ (.slice (some ⟨g, 0, none⟩) n cap)) sv slv flv steps { r with st := l }) ∧ Sty w (V.setCell ⟨K.rb, 5, none⟩ (.slice (some ⟨g, 0, none⟩) n cap))) (fun V b => E.out V (by rw [← hW] at b; exact (drewB w q).trans b))
  rw [hW] at z1 z2 z3 ⊢
  clear hW E z3
  obtain ⟨z4, z5, z6⟩ := EE.out W.drew (drew1 W)
  go_region
  all_goals go_wp2
  all_goals go_ret
  all_goals exact ⟨rfl, z6⟩
theorem mtake_any {K : Kx} {w : World} {steps : Int} {r : Rn} (h : RoE K w steps r) {x : Int} {l : List Int} (e : r.st = x :: l) : Calls Tryz.prog 109 #[.pointer (some ⟨K.rb, 0, none⟩)] w fun e w' => e = .returned (.int .i64 x) ∧ RoE K w' steps { r with st := l } ∧ Sty w w' := by
  obtain ⟨stv, slv, flv, h⟩ := h
  refine (take_ro h e).mono ?_
  rintro e w' ⟨rfl, ⟨sv, q⟩, s⟩
  exact ⟨rfl, ⟨_, _, _, q⟩, s⟩
theorem pair_any {K : Kx} {w : World} {steps : Int} {r : Rn} (h : RoE K w steps r) {x y : Int} {l : List Int} (e : r.st = y :: x :: l) : Calls Tryz.prog 113 #[.pointer (some ⟨K.rb, 0, none⟩)] w fun e w' => e = .returned (.tuple #[.int .i64 x, .int .i64 y]) ∧ RoE K w' steps { r with st := l } ∧ Sty w w' := by
  have K1 := Lib.hid (mtake_any h e)
  have K2 := Lib.hid (p := ∀ V, RoE K V steps { r with st := x :: l } → Calls Tryz.prog 109 #[.pointer (some ⟨K.rb, 0, none⟩)] V fun e w' => e = .returned (.int .i64 x) ∧ RoE K w' steps { r with st := l } ∧ Sty V w') (fun V h => mtake_any (r := { r with st := x :: l }) h rfl)
  clear h e
  have M1 : True := trivial
  go_enter Tryz.func113, Tryz.ntmps113
  go_wp2_with (first | (go_at_call 109; have qq := M1; refine K1.out.mono ?_; clear qq M1; rintro e w1 ⟨rfl, h1, s1⟩; have H1 := Lib.hid h1; have S1 := Lib.hid s1; clear h1 s1; have M2 : True := trivial) | (go_at_call 109; have qq := M2; refine (K2.out w1 H1.out).mono ?_; clear qq M2; rintro e w2 ⟨rfl, h1, s2⟩; have H2 := Lib.hid h1; have S2 := Lib.hid s2; clear h1 s2))
  go_ret2
  exact ⟨rfl, H2.out, fun y cs t q ht => S2.out y cs t (S1.out y cs t q ht) ht⟩
/-- What was worked out is put, unless it went wrong. -/
theorem result_ok {K : Kx} {w : World} {steps : Int} {r : Rn} (h : RoE K w steps r) (v : Int) (hv : inR v) (hl : r.st.length ≤ 4398046511000) : Calls Tryz.prog 111 #[.pointer (some ⟨K.rb, 0, none⟩), .int .i64 v, .int .i64 0] w fun e w' => e = .returned (.int .i64 0) ∧ RoE K w' steps (r.put v) := by
  have K1 := Lib.hid (mput_any h v hv hl)
  clear h hv hl
  go_enter Tryz.func111, Tryz.ntmps111
  go_wp2_with (go_at_call 107; refine K1.out.mono ?_; rintro e w1 ⟨rfl, h1⟩; have H1 := Lib.hid h1; clear h1)
  go_ret
  exact ⟨rfl, H1.out⟩
theorem result_bad {K : Kx} {w : World} {steps : Int} {r : Rn} (h : RoE K w steps r) (v f : Int) (hf : f ≠ 0) : Calls Tryz.prog 111 #[.pointer (some ⟨K.rb, 0, none⟩), .int .i64 v, .int .i64 f] w fun e w' => e = .returned (.int .i64 f) ∧ RoE K w' steps r := by
  have H := Lib.hid h
  have f1 : (f != 0) = true := by simpa using hf
  clear h hf
  go_enter Tryz.func111, Tryz.ntmps111
  go_wp2
  go_ret
  exact ⟨rfl, H.out⟩
/-- The result of an operator. -/
def resR (r : Rn) (v f : Int) : Rn := if f = 0 then r.put v else r
theorem result_any {K : Kx} {w : World} {steps : Int} {r : Rn} (h : RoE K w steps r) (v f : Int) (hv : inR v) (hl : r.st.length ≤ 4398046511000) : Calls Tryz.prog 111 #[.pointer (some ⟨K.rb, 0, none⟩), .int .i64 v, .int .i64 f] w fun e w' => e = .returned (.int .i64 f) ∧ RoE K w' steps (resR r v f) := by
  unfold resR
  by_cases e : f = 0
  · subst e
    rw [if_pos rfl]
    exact result_ok h v hv hl
  · rw [if_neg e]
    exact result_bad h v f e
theorem answer_any {K : Kx} {w : World} {steps : Int} {r : Rn} (h : RoE K w steps r) (b : Bool) (hl : r.st.length ≤ 4398046511000) : Calls Tryz.prog 121 #[.pointer (some ⟨K.rb, 0, none⟩), .bool b] w fun e w' => e = .returned (.int .i64 0) ∧ RoE K w' steps (r.put (trI b)) := by
  have K1 := Lib.hid (mput_any h (trI b) (by unfold trI inR; split <;> omega) hl)
  clear h hl
  cases b
  · simp only [trI, Bool.false_eq_true, if_false] at K1 ⊢
    go_enter Tryz.func121, Tryz.ntmps121
    go_wp2_with (go_at_call 107; refine K1.out.mono ?_; rintro e w1 ⟨rfl, h1⟩; have H1 := Lib.hid h1; clear h1)
    go_ret
    exact ⟨rfl, H1.out⟩
  · simp only [trI, if_true] at K1 ⊢
    go_enter Tryz.func121, Tryz.ntmps121
    go_wp2_with (go_at_call 107; refine K1.out.mono ?_; rintro e w1 ⟨rfl, h1⟩; have H1 := Lib.hid h1; clear h1)
    go_ret
    exact ⟨rfl, H1.out⟩
end Go.Proofs.YtpfjnnkjoabgbaaGreatDoor

namespace Go.Proofs.YtpfjnnkjoabgbaaGreatDoor
open Go.RowKit
theorem absM_any (a : Int) (ha : inR a) (w : World) :
    Calls Tryz.prog 119 #[.int .i64 a] w fun e w' => e = .returned (.tuple #[.int .i64 (fitV (absI a)), .int .i64 (fitF (absI a))]) ∧ w' = w := by
  by_cases h : a < 0
  · rw [absI_neg h]
    have hn := veil (neg_any a ha w)
    go_enter Tryz.func119, Tryz.ntmps119
    go_wp2_with fail
    refine (unveil hn).mono ?_; rintro e w' ⟨rfl, rfl⟩
    go_wp2_with fail
    go_ret2
    exact ⟨rfl, rfl⟩
  · rw [absI_pos h, fitV_in ha, fitF_in ha]
    have h' : decide (a < 0) = false := by simpa using h
    go_enter Tryz.func119, Tryz.ntmps119
    go_wp2_with fail
    go_ret2
    exact ⟨rfl, rfl⟩
theorem modV_inM (a b : Int) (ha : inR a) : inR (modV a b) := by
  unfold modV
  split
  · exact ⟨by omega, by omega⟩
  · exact tmod_in a b ha
end Go.Proofs.YtpfjnnkjoabgbaaGreatDoor

namespace Go.Proofs.YtpfjnnkjoabgbaaGreatDoor
open Go.RowKit
set_option linter.unusedVariables false
set_option linter.unusedSimpArgs false
def iAgg (i : In) : Value := .agg #[.int .i64 i.o, .int .i64 i.a, .int .i64 i.b]
set_option maxRecDepth 100000 in
theorem add_deed {K : Kx} {w : World} {steps : Int} {r : Rn} (h : RoE K w steps r) (i : In) {x y : Int} {l : List Int} (e : r.st = y :: x :: l) (hl : l.length ≤ 300000) : Calls Tryz.prog 70 #[.pointer (some ⟨K.rb, 0, none⟩), iAgg i] w fun e w' => e = .returned (.int .i64 (fitF (x + y))) ∧ RoE K w' steps (resR { r with st := l } (fitV (x + y)) (fitF (x + y))) := by
  have rx : inR x ∧ inR y := by obtain ⟨_, _, _, q⟩ := h; exact ⟨q.r1 x (by rw [e]; simp), q.r1 y (by rw [e]; simp)⟩
  have K1 := Lib.hid (pair_any (h.lat (allocBP w (.cells #[.int .i64 i.o, .int .i64 i.a, .int .i64 i.b] 68))) e)
  have KN := Lib.hid (fun V => add_any x y rx.1 rx.2 V)
  have KR := Lib.hid (fun V (hV : RoE K V steps { r with st := l }) => result_any hV (fitV (x + y)) (fitF (x + y)) (fitV_bd _) (by simp only; omega))
  generalize fitV (x + y) = vv at *
  generalize fitF (x + y) = ff at *
  clear h e hl rx
  unfold iAgg
  obtain ⟨io, ia, ib⟩ := i
  simp only at *
  go_enter Tryz.func70, Tryz.ntmps70
  go_wp2_with (first | (go_at_call 113; refine K1.out.mono ?_; rintro e w1 ⟨rfl, h1, _⟩; have H1 := Lib.hid h1; clear h1) | (go_at_call 112; refine (KN.out _).mono ?_; rintro e w' ⟨rfl, hw⟩; have hw' := hw.symm; subst hw'; clear hw) | (go_at_call 111; refine (KR.out w1 H1.out).mono ?_; rintro e w2 ⟨rfl, h1⟩; have H2 := Lib.hid h1; clear h1))
  go_ret
  exact ⟨rfl, H2.out⟩
set_option maxRecDepth 100000 in
theorem sub_deed {K : Kx} {w : World} {steps : Int} {r : Rn} (h : RoE K w steps r) (i : In) {x y : Int} {l : List Int} (e : r.st = y :: x :: l) (hl : l.length ≤ 300000) : Calls Tryz.prog 71 #[.pointer (some ⟨K.rb, 0, none⟩), iAgg i] w fun e w' => e = .returned (.int .i64 (fitF (x - y))) ∧ RoE K w' steps (resR { r with st := l } (fitV (x - y)) (fitF (x - y))) := by
  have rx : inR x ∧ inR y := by obtain ⟨_, _, _, q⟩ := h; exact ⟨q.r1 x (by rw [e]; simp), q.r1 y (by rw [e]; simp)⟩
  have K1 := Lib.hid (pair_any (h.lat (allocBP w (.cells #[.int .i64 i.o, .int .i64 i.a, .int .i64 i.b] 68))) e)
  have KN := Lib.hid (fun V => sub_any x y rx.1 rx.2 V)
  have KR := Lib.hid (fun V (hV : RoE K V steps { r with st := l }) => result_any hV (fitV (x - y)) (fitF (x - y)) (fitV_bd _) (by simp only; omega))
  generalize fitV (x - y) = vv at *
  generalize fitF (x - y) = ff at *
  clear h e hl rx
  unfold iAgg
  obtain ⟨io, ia, ib⟩ := i
  simp only at *
  go_enter Tryz.func71, Tryz.ntmps71
  go_wp2_with (first | (go_at_call 113; refine K1.out.mono ?_; rintro e w1 ⟨rfl, h1, _⟩; have H1 := Lib.hid h1; clear h1) | (go_at_call 114; refine (KN.out _).mono ?_; rintro e w' ⟨rfl, hw⟩; have hw' := hw.symm; subst hw'; clear hw) | (go_at_call 111; refine (KR.out w1 H1.out).mono ?_; rintro e w2 ⟨rfl, h1⟩; have H2 := Lib.hid h1; clear h1))
  go_ret
  exact ⟨rfl, H2.out⟩
set_option maxRecDepth 100000 in
theorem mul_deed {K : Kx} {w : World} {steps : Int} {r : Rn} (h : RoE K w steps r) (i : In) {x y : Int} {l : List Int} (e : r.st = y :: x :: l) (hl : l.length ≤ 300000) : Calls Tryz.prog 72 #[.pointer (some ⟨K.rb, 0, none⟩), iAgg i] w fun e w' => e = .returned (.int .i64 (fitF (x * y))) ∧ RoE K w' steps (resR { r with st := l } (fitV (x * y)) (fitF (x * y))) := by
  have rx : inR x ∧ inR y := by obtain ⟨_, _, _, q⟩ := h; exact ⟨q.r1 x (by rw [e]; simp), q.r1 y (by rw [e]; simp)⟩
  have K1 := Lib.hid (pair_any (h.lat (allocBP w (.cells #[.int .i64 i.o, .int .i64 i.a, .int .i64 i.b] 68))) e)
  have KN := Lib.hid (fun V => mul_any x y rx.1 rx.2 V)
  have KR := Lib.hid (fun V (hV : RoE K V steps { r with st := l }) => result_any hV (fitV (x * y)) (fitF (x * y)) (fitV_bd _) (by simp only; omega))
  generalize fitV (x * y) = vv at *
  generalize fitF (x * y) = ff at *
  clear h e hl rx
  unfold iAgg
  obtain ⟨io, ia, ib⟩ := i
  simp only at *
  go_enter Tryz.func72, Tryz.ntmps72
  go_wp2_with (first | (go_at_call 113; refine K1.out.mono ?_; rintro e w1 ⟨rfl, h1, _⟩; have H1 := Lib.hid h1; clear h1) | (go_at_call 115; refine (KN.out _).mono ?_; rintro e w' ⟨rfl, hw⟩; have hw' := hw.symm; subst hw'; clear hw) | (go_at_call 111; refine (KR.out w1 H1.out).mono ?_; rintro e w2 ⟨rfl, h1⟩; have H2 := Lib.hid h1; clear h1))
  go_ret
  exact ⟨rfl, H2.out⟩
set_option maxRecDepth 100000 in
theorem div_deed {K : Kx} {w : World} {steps : Int} {r : Rn} (h : RoE K w steps r) (i : In) {x y : Int} {l : List Int} (e : r.st = y :: x :: l) (hl : l.length ≤ 300000) : Calls Tryz.prog 74 #[.pointer (some ⟨K.rb, 0, none⟩), iAgg i] w fun e w' => e = .returned (.int .i64 (divF x y)) ∧ RoE K w' steps (resR { r with st := l } (divV x y) (divF x y)) := by
  have rx : inR x ∧ inR y := by obtain ⟨_, _, _, q⟩ := h; exact ⟨q.r1 x (by rw [e]; simp), q.r1 y (by rw [e]; simp)⟩
  have K1 := Lib.hid (pair_any (h.lat (allocBP w (.cells #[.int .i64 i.o, .int .i64 i.a, .int .i64 i.b] 68))) e)
  have KN := Lib.hid (fun V => div_any x y rx.1 V)
  have KR := Lib.hid (fun V (hV : RoE K V steps { r with st := l }) => result_any hV (divV x y) (divF x y) (by unfold divV; split; exact ⟨by omega, by omega⟩; exact fitV_bd _) (by simp only; omega))
  generalize divV x y = vv at *
  generalize divF x y = ff at *
  clear h e hl rx
  unfold iAgg
  obtain ⟨io, ia, ib⟩ := i
  simp only at *
  go_enter Tryz.func74, Tryz.ntmps74
  go_wp2_with (first | (go_at_call 113; refine K1.out.mono ?_; rintro e w1 ⟨rfl, h1, _⟩; have H1 := Lib.hid h1; clear h1) | (go_at_call 117; refine (KN.out _).mono ?_; rintro e w' ⟨rfl, hw⟩; have hw' := hw.symm; subst hw'; clear hw) | (go_at_call 111; refine (KR.out w1 H1.out).mono ?_; rintro e w2 ⟨rfl, h1⟩; have H2 := Lib.hid h1; clear h1))
  go_ret
  exact ⟨rfl, H2.out⟩
set_option maxRecDepth 100000 in
theorem mod_deed {K : Kx} {w : World} {steps : Int} {r : Rn} (h : RoE K w steps r) (i : In) {x y : Int} {l : List Int} (e : r.st = y :: x :: l) (hl : l.length ≤ 300000) : Calls Tryz.prog 75 #[.pointer (some ⟨K.rb, 0, none⟩), iAgg i] w fun e w' => e = .returned (.int .i64 (modF y)) ∧ RoE K w' steps (resR { r with st := l } (modV x y) (modF y)) := by
  have rx : inR x ∧ inR y := by obtain ⟨_, _, _, q⟩ := h; exact ⟨q.r1 x (by rw [e]; simp), q.r1 y (by rw [e]; simp)⟩
  have K1 := Lib.hid (pair_any (h.lat (allocBP w (.cells #[.int .i64 i.o, .int .i64 i.a, .int .i64 i.b] 68))) e)
  have KN := Lib.hid (fun V => mod_any x y V)
  have KR := Lib.hid (fun V (hV : RoE K V steps { r with st := l }) => result_any hV (modV x y) (modF y) (modV_inM x y rx.1) (by simp only; omega))
  generalize modV x y = vv at *
  generalize modF y = ff at *
  clear h e hl rx
  unfold iAgg
  obtain ⟨io, ia, ib⟩ := i
  simp only at *
  go_enter Tryz.func75, Tryz.ntmps75
  go_wp2_with (first | (go_at_call 113; refine K1.out.mono ?_; rintro e w1 ⟨rfl, h1, _⟩; have H1 := Lib.hid h1; clear h1) | (go_at_call 118; refine (KN.out _).mono ?_; rintro e w' ⟨rfl, hw⟩; have hw' := hw.symm; subst hw'; clear hw) | (go_at_call 111; refine (KR.out w1 H1.out).mono ?_; rintro e w2 ⟨rfl, h1⟩; have H2 := Lib.hid h1; clear h1))
  go_ret
  exact ⟨rfl, H2.out⟩
set_option maxRecDepth 100000 in
theorem neg_deed {K : Kx} {w : World} {steps : Int} {r : Rn} (h : RoE K w steps r) (i : In) {x : Int} {l : List Int} (e : r.st = x :: l) (hl : l.length ≤ 300000) : Calls Tryz.prog 73 #[.pointer (some ⟨K.rb, 0, none⟩), iAgg i] w fun e w' => e = .returned (.int .i64 (fitF (-x))) ∧ RoE K w' steps (resR { r with st := l } (fitV (-x)) (fitF (-x))) := by
  have rx : inR x := by obtain ⟨_, _, _, q⟩ := h; exact q.r1 x (by rw [e]; simp)
  have K1 := Lib.hid (mtake_any (h.lat (allocBP w (.cells #[.int .i64 i.o, .int .i64 i.a, .int .i64 i.b] 68))) e)
  have KN := Lib.hid (fun V => neg_any x rx V)
  have KR := Lib.hid (fun V (hV : RoE K V steps { r with st := l }) => result_any hV (fitV (-x)) (fitF (-x)) (fitV_bd _) (by simp only; omega))
  generalize fitV (-x) = vv at *
  generalize fitF (-x) = ff at *
  clear h e hl rx
  unfold iAgg
  obtain ⟨io, ia, ib⟩ := i
  simp only at *
  go_enter Tryz.func73, Tryz.ntmps73
  go_wp2_with (first | (go_at_call 109; refine K1.out.mono ?_; rintro e w1 ⟨rfl, h1, _⟩; have H1 := Lib.hid h1; clear h1) | (go_at_call 116; refine (KN.out _).mono ?_; rintro e w' ⟨rfl, hw⟩; have hw' := hw.symm; subst hw'; clear hw) | (go_at_call 111; refine (KR.out w1 H1.out).mono ?_; rintro e w2 ⟨rfl, h1⟩; have H2 := Lib.hid h1; clear h1))
  go_ret
  exact ⟨rfl, H2.out⟩
set_option maxRecDepth 100000 in
theorem abs_deed {K : Kx} {w : World} {steps : Int} {r : Rn} (h : RoE K w steps r) (i : In) {x : Int} {l : List Int} (e : r.st = x :: l) (hl : l.length ≤ 300000) : Calls Tryz.prog 76 #[.pointer (some ⟨K.rb, 0, none⟩), iAgg i] w fun e w' => e = .returned (.int .i64 (fitF (absI x))) ∧ RoE K w' steps (resR { r with st := l } (fitV (absI x)) (fitF (absI x))) := by
  have rx : inR x := by obtain ⟨_, _, _, q⟩ := h; exact q.r1 x (by rw [e]; simp)
  have K1 := Lib.hid (mtake_any (h.lat (allocBP w (.cells #[.int .i64 i.o, .int .i64 i.a, .int .i64 i.b] 68))) e)
  have KN := Lib.hid (fun V => absM_any x rx V)
  have KR := Lib.hid (fun V (hV : RoE K V steps { r with st := l }) => result_any hV (fitV (absI x)) (fitF (absI x)) (fitV_bd _) (by simp only; omega))
  generalize fitV (absI x) = vv at *
  generalize fitF (absI x) = ff at *
  clear h e hl rx
  unfold iAgg
  obtain ⟨io, ia, ib⟩ := i
  simp only at *
  go_enter Tryz.func76, Tryz.ntmps76
  go_wp2_with (first | (go_at_call 109; refine K1.out.mono ?_; rintro e w1 ⟨rfl, h1, _⟩; have H1 := Lib.hid h1; clear h1) | (go_at_call 119; refine (KN.out _).mono ?_; rintro e w' ⟨rfl, hw⟩; have hw' := hw.symm; subst hw'; clear hw) | (go_at_call 111; refine (KR.out w1 H1.out).mono ?_; rintro e w2 ⟨rfl, h1⟩; have H2 := Lib.hid h1; clear h1))
  go_ret
  exact ⟨rfl, H2.out⟩
set_option maxRecDepth 100000 in
theorem lesser_deed {K : Kx} {w : World} {steps : Int} {r : Rn} (h : RoE K w steps r) (i : In) {x y : Int} {l : List Int} (e : r.st = y :: x :: l) (hl : l.length ≤ 300000) : Calls Tryz.prog 77 #[.pointer (some ⟨K.rb, 0, none⟩), iAgg i] w fun e w' => e = .returned (.int .i64 0) ∧ RoE K w' steps (Rn.put { r with st := l } (min x y)) := by
  have rx : inR x ∧ inR y := by obtain ⟨_, _, _, q⟩ := h; exact ⟨q.r1 x (by rw [e]; simp), q.r1 y (by rw [e]; simp)⟩
  have K1 := Lib.hid (pair_any (h.lat (allocBP w (.cells #[.int .i64 i.o, .int .i64 i.a, .int .i64 i.b] 68))) e)
  have KR := Lib.hid (fun V (hV : RoE K V steps { r with st := l }) => mput_any hV (min x y) (by unfold inR at rx ⊢; omega) (by simp only; omega))
  clear h e hl rx
  unfold iAgg
  obtain ⟨io, ia, ib⟩ := i
  simp only at *
  go_enter Tryz.func77, Tryz.ntmps77
  go_wp2_with (first | (go_at_call 113; refine K1.out.mono ?_; rintro e w1 ⟨rfl, h1, _⟩; have H1 := Lib.hid h1; clear h1) | (go_at_call 107; refine (KR.out w1 H1.out).mono ?_; rintro e w2 ⟨rfl, h1⟩; have H2 := Lib.hid h1; clear h1))
  go_ret
  exact ⟨rfl, H2.out⟩
set_option maxRecDepth 100000 in
theorem greater_deed {K : Kx} {w : World} {steps : Int} {r : Rn} (h : RoE K w steps r) (i : In) {x y : Int} {l : List Int} (e : r.st = y :: x :: l) (hl : l.length ≤ 300000) : Calls Tryz.prog 78 #[.pointer (some ⟨K.rb, 0, none⟩), iAgg i] w fun e w' => e = .returned (.int .i64 0) ∧ RoE K w' steps (Rn.put { r with st := l } (max x y)) := by
  have rx : inR x ∧ inR y := by obtain ⟨_, _, _, q⟩ := h; exact ⟨q.r1 x (by rw [e]; simp), q.r1 y (by rw [e]; simp)⟩
  have K1 := Lib.hid (pair_any (h.lat (allocBP w (.cells #[.int .i64 i.o, .int .i64 i.a, .int .i64 i.b] 68))) e)
  have KR := Lib.hid (fun V (hV : RoE K V steps { r with st := l }) => mput_any hV (max x y) (by unfold inR at rx ⊢; omega) (by simp only; omega))
  clear h e hl rx
  unfold iAgg
  obtain ⟨io, ia, ib⟩ := i
  simp only at *
  go_enter Tryz.func78, Tryz.ntmps78
  go_wp2_with (first | (go_at_call 113; refine K1.out.mono ?_; rintro e w1 ⟨rfl, h1, _⟩; have H1 := Lib.hid h1; clear h1) | (go_at_call 107; refine (KR.out w1 H1.out).mono ?_; rintro e w2 ⟨rfl, h1⟩; have H2 := Lib.hid h1; clear h1))
  go_ret
  exact ⟨rfl, H2.out⟩
set_option maxRecDepth 100000 in
theorem lt_deed {K : Kx} {w : World} {steps : Int} {r : Rn} (h : RoE K w steps r) (i : In) {x y : Int} {l : List Int} (e : r.st = y :: x :: l) (hl : l.length ≤ 300000) : Calls Tryz.prog 80 #[.pointer (some ⟨K.rb, 0, none⟩), iAgg i] w fun e w' => e = .returned (.int .i64 0) ∧ RoE K w' steps (Rn.put { r with st := l } (trI (decide (x < y)))) := by
  have K1 := Lib.hid (pair_any (h.lat (allocBP w (.cells #[.int .i64 i.o, .int .i64 i.a, .int .i64 i.b] 68))) e)
  have KR := Lib.hid (fun V (hV : RoE K V steps { r with st := l }) => answer_any hV (decide (x < y)) (by simp only; omega))
  clear h e hl
  unfold iAgg
  obtain ⟨io, ia, ib⟩ := i
  simp only at *
  go_enter Tryz.func80, Tryz.ntmps80
  go_wp2_with (first | (go_at_call 113; refine K1.out.mono ?_; rintro e w1 ⟨rfl, h1, _⟩; have H1 := Lib.hid h1; clear h1) | (go_at_call 121; refine (KR.out w1 H1.out).mono ?_; rintro e w2 ⟨rfl, h1⟩; have H2 := Lib.hid h1; clear h1))
  go_ret
  exact ⟨rfl, H2.out⟩
set_option maxRecDepth 100000 in
theorem le_deed {K : Kx} {w : World} {steps : Int} {r : Rn} (h : RoE K w steps r) (i : In) {x y : Int} {l : List Int} (e : r.st = y :: x :: l) (hl : l.length ≤ 300000) : Calls Tryz.prog 81 #[.pointer (some ⟨K.rb, 0, none⟩), iAgg i] w fun e w' => e = .returned (.int .i64 0) ∧ RoE K w' steps (Rn.put { r with st := l } (trI (decide (x ≤ y)))) := by
  have K1 := Lib.hid (pair_any (h.lat (allocBP w (.cells #[.int .i64 i.o, .int .i64 i.a, .int .i64 i.b] 68))) e)
  have KR := Lib.hid (fun V (hV : RoE K V steps { r with st := l }) => answer_any hV (decide (x ≤ y)) (by simp only; omega))
  clear h e hl
  unfold iAgg
  obtain ⟨io, ia, ib⟩ := i
  simp only at *
  go_enter Tryz.func81, Tryz.ntmps81
  go_wp2_with (first | (go_at_call 113; refine K1.out.mono ?_; rintro e w1 ⟨rfl, h1, _⟩; have H1 := Lib.hid h1; clear h1) | (go_at_call 121; refine (KR.out w1 H1.out).mono ?_; rintro e w2 ⟨rfl, h1⟩; have H2 := Lib.hid h1; clear h1))
  go_ret
  exact ⟨rfl, H2.out⟩
set_option maxRecDepth 100000 in
theorem gt_deed {K : Kx} {w : World} {steps : Int} {r : Rn} (h : RoE K w steps r) (i : In) {x y : Int} {l : List Int} (e : r.st = y :: x :: l) (hl : l.length ≤ 300000) : Calls Tryz.prog 82 #[.pointer (some ⟨K.rb, 0, none⟩), iAgg i] w fun e w' => e = .returned (.int .i64 0) ∧ RoE K w' steps (Rn.put { r with st := l } (trI (decide (y < x)))) := by
  have K1 := Lib.hid (pair_any (h.lat (allocBP w (.cells #[.int .i64 i.o, .int .i64 i.a, .int .i64 i.b] 68))) e)
  have KR := Lib.hid (fun V (hV : RoE K V steps { r with st := l }) => answer_any hV (decide (y < x)) (by simp only; omega))
  clear h e hl
  unfold iAgg
  obtain ⟨io, ia, ib⟩ := i
  simp only at *
  go_enter Tryz.func82, Tryz.ntmps82
  go_wp2_with (first | (go_at_call 113; refine K1.out.mono ?_; rintro e w1 ⟨rfl, h1, _⟩; have H1 := Lib.hid h1; clear h1) | (go_at_call 121; refine (KR.out w1 H1.out).mono ?_; rintro e w2 ⟨rfl, h1⟩; have H2 := Lib.hid h1; clear h1))
  go_ret
  exact ⟨rfl, H2.out⟩
set_option maxRecDepth 100000 in
theorem ge_deed {K : Kx} {w : World} {steps : Int} {r : Rn} (h : RoE K w steps r) (i : In) {x y : Int} {l : List Int} (e : r.st = y :: x :: l) (hl : l.length ≤ 300000) : Calls Tryz.prog 83 #[.pointer (some ⟨K.rb, 0, none⟩), iAgg i] w fun e w' => e = .returned (.int .i64 0) ∧ RoE K w' steps (Rn.put { r with st := l } (trI (decide (y ≤ x)))) := by
  have K1 := Lib.hid (pair_any (h.lat (allocBP w (.cells #[.int .i64 i.o, .int .i64 i.a, .int .i64 i.b] 68))) e)
  have KR := Lib.hid (fun V (hV : RoE K V steps { r with st := l }) => answer_any hV (decide (y ≤ x)) (by simp only; omega))
  clear h e hl
  unfold iAgg
  obtain ⟨io, ia, ib⟩ := i
  simp only at *
  go_enter Tryz.func83, Tryz.ntmps83
  go_wp2_with (first | (go_at_call 113; refine K1.out.mono ?_; rintro e w1 ⟨rfl, h1, _⟩; have H1 := Lib.hid h1; clear h1) | (go_at_call 121; refine (KR.out w1 H1.out).mono ?_; rintro e w2 ⟨rfl, h1⟩; have H2 := Lib.hid h1; clear h1))
  go_ret
  exact ⟨rfl, H2.out⟩
set_option maxRecDepth 100000 in
theorem eq_deed {K : Kx} {w : World} {steps : Int} {r : Rn} (h : RoE K w steps r) (i : In) {x y : Int} {l : List Int} (e : r.st = y :: x :: l) (hl : l.length ≤ 300000) : Calls Tryz.prog 84 #[.pointer (some ⟨K.rb, 0, none⟩), iAgg i] w fun e w' => e = .returned (.int .i64 0) ∧ RoE K w' steps (Rn.put { r with st := l } (trI (x == y))) := by
  have K1 := Lib.hid (pair_any (h.lat (allocBP w (.cells #[.int .i64 i.o, .int .i64 i.a, .int .i64 i.b] 68))) e)
  have KR := Lib.hid (fun V (hV : RoE K V steps { r with st := l }) => answer_any hV (x == y) (by simp only; omega))
  clear h e hl
  unfold iAgg
  obtain ⟨io, ia, ib⟩ := i
  simp only at *
  go_enter Tryz.func84, Tryz.ntmps84
  go_wp2_with (first | (go_at_call 113; refine K1.out.mono ?_; rintro e w1 ⟨rfl, h1, _⟩; have H1 := Lib.hid h1; clear h1) | (go_at_call 121; refine (KR.out w1 H1.out).mono ?_; rintro e w2 ⟨rfl, h1⟩; have H2 := Lib.hid h1; clear h1))
  go_ret
  exact ⟨rfl, H2.out⟩
set_option maxRecDepth 100000 in
theorem ne_deed {K : Kx} {w : World} {steps : Int} {r : Rn} (h : RoE K w steps r) (i : In) {x y : Int} {l : List Int} (e : r.st = y :: x :: l) (hl : l.length ≤ 300000) : Calls Tryz.prog 85 #[.pointer (some ⟨K.rb, 0, none⟩), iAgg i] w fun e w' => e = .returned (.int .i64 0) ∧ RoE K w' steps (Rn.put { r with st := l } (trI (x != y))) := by
  have K1 := Lib.hid (pair_any (h.lat (allocBP w (.cells #[.int .i64 i.o, .int .i64 i.a, .int .i64 i.b] 68))) e)
  have KR := Lib.hid (fun V (hV : RoE K V steps { r with st := l }) => answer_any hV (x != y) (by simp only; omega))
  clear h e hl
  unfold iAgg
  obtain ⟨io, ia, ib⟩ := i
  simp only at *
  go_enter Tryz.func85, Tryz.ntmps85
  go_wp2_with (first | (go_at_call 113; refine K1.out.mono ?_; rintro e w1 ⟨rfl, h1, _⟩; have H1 := Lib.hid h1; clear h1) | (go_at_call 121; refine (KR.out w1 H1.out).mono ?_; rintro e w2 ⟨rfl, h1⟩; have H2 := Lib.hid h1; clear h1))
  go_ret
  exact ⟨rfl, H2.out⟩
set_option maxRecDepth 100000 in
theorem not_deed {K : Kx} {w : World} {steps : Int} {r : Rn} (h : RoE K w steps r) (i : In) {x : Int} {l : List Int} (e : r.st = x :: l) (hl : l.length ≤ 300000) : Calls Tryz.prog 86 #[.pointer (some ⟨K.rb, 0, none⟩), iAgg i] w fun e w' => e = .returned (.int .i64 0) ∧ RoE K w' steps (Rn.put { r with st := l } (trI (x == 0))) := by
  have K1 := Lib.hid (mtake_any (h.lat (allocBP w (.cells #[.int .i64 i.o, .int .i64 i.a, .int .i64 i.b] 68))) e)
  have KR := Lib.hid (fun V (hV : RoE K V steps { r with st := l }) => answer_any hV (x == 0) (by simp only; omega))
  clear h e hl
  unfold iAgg
  obtain ⟨io, ia, ib⟩ := i
  simp only at *
  go_enter Tryz.func86, Tryz.ntmps86
  go_wp2_with (first | (go_at_call 109; refine K1.out.mono ?_; rintro e w1 ⟨rfl, h1, _⟩; have H1 := Lib.hid h1; clear h1) | (go_at_call 121; refine (KR.out w1 H1.out).mono ?_; rintro e w2 ⟨rfl, h1⟩; have H2 := Lib.hid h1; clear h1))
  go_ret
  exact ⟨rfl, H2.out⟩
/-- Ratio, whatever the divisor. -/
def raV (x y z m : Int) : Int := if z = 0 then 0 else fitV (ratN x y z m)
def raF (x y z m : Int) : Int := if z = 0 then 2 else fitF (ratN x y z m)
theorem ratioM_any (x y z m : Int) (hx : inR x) (hy : inR y) (hz : inR z) (w : World) : Calls Tryz.prog 120 #[.int .i64 x, .int .i64 y, .int .i64 z, .int .i64 m] w fun e w' => e = .returned (.tuple #[.int .i64 (raV x y z m), .int .i64 (raF x y z m)]) ∧ ∃ n, w' = w.drewN n := by
  unfold raV raF
  by_cases e : z = 0
  · subst e
    rw [if_pos rfl, if_pos rfl]
    exact (ratio_zero x y m w).mono (fun e w' h => ⟨h.1, 0, h.2⟩)
  · rw [if_neg e, if_neg e]
    exact ratio_any x y z m hx hy hz e w
set_option maxRecDepth 100000 in
theorem ratio_deed {K : Kx} {w : World} {steps : Int} {r : Rn} (h : RoE K w steps r) (i : In) {x y z : Int} {l : List Int} (e : r.st = z :: y :: x :: l) (hl : l.length ≤ 300000) : Calls Tryz.prog 79 #[.pointer (some ⟨K.rb, 0, none⟩), iAgg i] w fun e w' => e = .returned (.int .i64 (raF x y z i.a)) ∧ RoE K w' steps (resR { r with st := l } (raV x y z i.a) (raF x y z i.a)) := by
  have rx : inR x ∧ inR y ∧ inR z := by obtain ⟨_, _, _, q⟩ := h; exact ⟨q.r1 x (by rw [e]; simp), q.r1 y (by rw [e]; simp), q.r1 z (by rw [e]; simp)⟩
  have K1 := Lib.hid (mtake_any (h.lat (allocBP w (.cells #[.int .i64 i.o, .int .i64 i.a, .int .i64 i.b] 68))) e)
  have IB := Lib.hid (p := BkP (w.alloc (.cells #[.int .i64 i.o, .int .i64 i.a, .int .i64 i.b] 68)) w.heap.size #[.int .i64 i.o, .int .i64 i.a, .int .i64 i.b] 68) (heapN _ _)
  have K2 := Lib.hid (fun V (hV : RoE K V steps { r with st := y :: x :: l }) => pair_any (r := { r with st := y :: x :: l }) hV rfl)
  have KN := Lib.hid (fun V => ratioM_any x y z i.a rx.1 rx.2.1 rx.2.2 V)
  have KR := Lib.hid (fun V (hV : RoE K V steps { r with st := l }) => result_any hV (raV x y z i.a) (raF x y z i.a) (by unfold raV; split; exact ⟨by omega, by omega⟩; exact fitV_bd _) (by simp only; omega))
  generalize raV x y z i.a = vv at *
  generalize raF x y z i.a = ff at *
  clear h e hl rx
  unfold iAgg
  obtain ⟨io, ia, ib⟩ := i
  simp only at *
  go_enter Tryz.func79, Tryz.ntmps79
  go_wp2_with (first | (go_at_call 109; refine K1.out.mono ?_; rintro e w1 ⟨rfl, h1, s1⟩; have H1 := Lib.hid h1; have I1 := Lib.hid (s1 _ _ _ IB.out (by decide)); clear h1 s1) | (go_at_call 113; refine (K2.out w1 H1.out).mono ?_; rintro e w2 ⟨rfl, h1, s1⟩; have H2 := Lib.hid h1; have i1 := (s1 _ _ _ I1.out (by decide)).cell 1; simp only [List.getElem?_toArray, List.getElem?_cons_zero, List.getElem?_cons_succ] at i1; clear h1 s1) | (go_at_call 120; refine (KN.out _).mono ?_; rintro e w3 ⟨rfl, q, rfl⟩; have H3 := Lib.hid (H2.out.lat (drewB w2 q))) | (go_at_call 111; refine (KR.out _ H3.out).mono ?_; rintro e w4 ⟨rfl, h1⟩; have H4 := Lib.hid h1; clear h1))
  go_ret
  exact ⟨rfl, H4.out⟩
end Go.Proofs.YtpfjnnkjoabgbaaGreatDoor

namespace Go.Proofs.YtpfjnnkjoabgbaaGreatDoor
open Go.RowKit
set_option linter.unusedVariables false
set_option linter.unusedSimpArgs false
/-- The blocks that stay are as they were. -/
def Kx.On (K : Kx) (V : World) : Prop := ∀ k, K.D k → V.heap[k]? = K.w0.heap[k]?
/-- What a day's code reads lies in memory. -/
structure KE (K : Kx) (E : EvM) : Prop where
  t : E.t = K.today
  plen : K.p.pool.length = E.pool.length
  pool : ∀ V, K.On V → ∀ i, i < E.pool.length → ∃ x o, K.p.pa = some ⟨x, o, none⟩ ∧ V.cell? ⟨x, o + i, none⟩ = some (.int .i64 (E.pool.getD i 0))
  clen : K.p.curs.length = E.curs.length
  curs : ∀ V, K.On V → ∀ i, i < E.curs.length → ∃ x o, K.p.ua = some ⟨x, o, none⟩ ∧ V.cell? ⟨x, o + i, none⟩ = some (.string (E.curs.getD i ⟨#[]⟩))
  row : ∀ V, K.On V → ∀ i, i < E.row.length → ∃ x o c, K.rowv = .slice (some ⟨x, o, none⟩) E.row.length c ∧ V.cell? ⟨x, o + i * 2, none⟩ = some (.bool (E.row.getD i default).h) ∧ V.cell? ⟨x, o + i * 2 + 1, none⟩ = some (.int .i64 (E.row.getD i default).v)
  past : ∀ V, K.On V → ∀ d, d < E.past.length → ∀ i, i < (E.past.getD d []).length → ∃ x o c y u z, K.pav = .slice (some ⟨x, o, none⟩) E.past.length c ∧ V.cell? ⟨x, o + d, none⟩ = some (.slice (some ⟨y, u, none⟩) (E.past.getD d []).length z) ∧ V.cell? ⟨y, u + i * 2, none⟩ = some (.bool ((E.past.getD d []).getD i default).h) ∧ V.cell? ⟨y, u + i * 2 + 1, none⟩ = some (.int .i64 ((E.past.getD d []).getD i default).v)
  ip : ∀ x ∈ E.pool, inR x
  ir : ∀ c ∈ E.row, inR c.v
  ia : ∀ l ∈ E.past, ∀ c ∈ l, inR c.v
theorem RO.on {K : Kx} {w : World} {stv slv flv : Value} {steps : Int} {r : Rn} (h : RO K w stv slv flv steps r) : K.On w := h.fr
theorem RoE.on {K : Kx} {w : World} {steps : Int} {r : Rn} (h : RoE K w steps r) : K.On w := by obtain ⟨_, _, _, q⟩ := h; exact q.fr
theorem getD_mem {α : Type} {l : List α} {d : α} {i : Nat} (h : i < l.length) : l.getD i d ∈ l := by simp [List.getD, h]
set_option maxRecDepth 100000 in
theorem end_deed {K : Kx} {w : World} {steps : Int} {r : Rn} (h : RoE K w steps r) (i : In) : Calls Tryz.prog 61 #[.pointer (some ⟨K.rb, 0, none⟩), iAgg i] w fun e w' => e = .returned (.int .i64 0) ∧ RoE K w' steps { r with en := true } := by
  have h1 := h.lat (allocBP w (.cells #[.int .i64 i.o, .int .i64 i.a, .int .i64 i.b] 68))
  obtain ⟨stv, slv, flv, h2⟩ := h1
  have c3 := (run_cells h2).2.2.2.1
  have f3 := h2.rb.frozen 3
  have E := Lib.hid (h2.field 3 (.bool true) (by omega) (r' := { r with en := true }) (by simp [rArr]) rfl rfl rfl rfl)
  clear h h2
  unfold iAgg
  obtain ⟨io, ia, ib⟩ := i
  simp only at *
  go_enter Tryz.func61, Tryz.ntmps61
  go_wp2
  go_ret
  exact ⟨rfl, _, _, _, E.out⟩
set_option maxRecDepth 100000 in
theorem truth_deed {K : Kx} {w : World} {steps : Int} {r : Rn} (h : RoE K w steps r) (i : In) (ha : inR i.a) (hl : r.st.length ≤ 300000) : Calls Tryz.prog 63 #[.pointer (some ⟨K.rb, 0, none⟩), iAgg i] w fun e w' => e = .returned (.int .i64 0) ∧ RoE K w' steps (r.put i.a) := by
  have KP := Lib.hid (mput_any (h.lat (allocBP w (.cells #[.int .i64 i.o, .int .i64 i.a, .int .i64 i.b] 68))) i.a ha (by omega))
  clear h ha hl
  unfold iAgg
  obtain ⟨io, ia, ib⟩ := i
  simp only at *
  go_enter Tryz.func63, Tryz.ntmps63
  go_wp2_with (go_at_call 107; refine KP.out.mono ?_; rintro e w1 ⟨rfl, h1⟩; have H1 := Lib.hid h1; clear h1)
  go_ret
  exact ⟨rfl, H1.out⟩
set_option maxRecDepth 100000 in
theorem drop_deed {K : Kx} {w : World} {steps : Int} {r : Rn} (h : RoE K w steps r) (i : In) {x : Int} {l : List Int} (e : r.st = x :: l) : Calls Tryz.prog 69 #[.pointer (some ⟨K.rb, 0, none⟩), iAgg i] w fun e w' => e = .returned (.int .i64 0) ∧ RoE K w' steps { r with st := l } := by
  have KP := Lib.hid (mtake_any (h.lat (allocBP w (.cells #[.int .i64 i.o, .int .i64 i.a, .int .i64 i.b] 68))) e)
  clear h e
  unfold iAgg
  obtain ⟨io, ia, ib⟩ := i
  simp only at *
  go_enter Tryz.func69, Tryz.ntmps69
  go_wp2_with (go_at_call 109; refine KP.out.mono ?_; rintro e w1 ⟨rfl, h1, _⟩; have H1 := Lib.hid h1; clear h1)
  go_ret
  exact ⟨rfl, H1.out⟩
theorem ro_jump {K : Kx} {w : World} {stv slv flv : Value} {steps : Int} {r : Rn} (h : RO K w stv slv flv steps r) (a : Nat) : RO K (w.setCell ⟨K.rb, 2, none⟩ (.int .i64 ((r.nx : Int) + (a : Int)))) stv slv flv steps { r with nx := r.nx + a } := h.field 2 _ (by omega) (by simp [rArr]) rfl rfl rfl rfl
set_option maxRecDepth 100000 in
set_option maxHeartbeats 800000 in
theorem jump_deed {K : Kx} {w : World} {steps : Int} {r : Rn} (h : RoE K w steps r) (i : In) (ha : 0 ≤ i.a) (hb : i.a ≤ 1000000) (hn : r.nx ≤ 1000000) : Calls Tryz.prog 87 #[.pointer (some ⟨K.rb, 0, none⟩), iAgg i] w fun e w' => e = .returned (.int .i64 0) ∧ RoE K w' steps { r with nx := r.nx + i.a.toNat } := by
  obtain ⟨io, ia, ib⟩ := i
  simp only at *
  obtain ⟨W, hW⟩ : ∃ W, w.alloc (.cells #[.int .i64 io, .int .i64 ia, .int .i64 ib] 68) = W := ⟨_, rfl⟩
  have h1 := h.lat (allocBP w (.cells #[.int .i64 io, .int .i64 ia, .int .i64 ib] 68))
  have i1 := (BkP.cell (heapN w (.cells #[.int .i64 io, .int .i64 ia, .int .i64 ib] 68)) 1)
  rw [hW] at h1 i1
  simp only [List.getElem?_toArray, List.getElem?_cons_zero, List.getElem?_cons_succ] at i1
  obtain ⟨stv, slv, flv, h2⟩ := h1
  have c2 := (run_cells h2).2.2.1
  have f2 := h2.rb.frozen 2
  have ew : IntKind.i64.wrap ((r.nx : Int) + ia) = (r.nx : Int) + ia := by simp [IntKind.wrap, IntKind.bits, IntKind.signed]; omega
  have E := Lib.hid (p := RoE K (W.drew.setCell ⟨K.rb, 2, none⟩ (.int .i64 ((r.nx : Int) + ia))) steps { r with nx := r.nx + ia.toNat }) (by
    have q := ro_jump (h2.lat (drew1 W)) ia.toNat
    rw [show ((ia.toNat : Nat) : Int) = ia by omega] at q
    exact ⟨_, _, _, q⟩)
  have HW := Lib.hid hW
  clear h h2 ha hb hn hW
  unfold iAgg
  simp only at *
  go_enter Tryz.func87, Tryz.ntmps87
  go_wp2
  rw [HW.out]
  go_region
  all_goals go_wp2
  all_goals go_ret
  all_goals exact ⟨rfl, E.out⟩
end Go.Proofs.YtpfjnnkjoabgbaaGreatDoor
