import Derived.Test.YtpfjnnkjoabgbaaGreatDoorXBB
import Derived.Test.YtpfjnnkjoabgbaaGreatDoorXBC
namespace Go.Proofs.YtpfjnnkjoabgbaaGreatDoor
open Go.RowKit
set_option linter.unusedVariables false
set_option linter.unusedSimpArgs false
def iAgg (i : In) : Value := .agg #[.int .i64 i.o, .int .i64 i.a, .int .i64 i.b]
set_option maxRecDepth 100000 in
theorem add_deed {K : Kx} {w : World} {steps : Int} {r : Rn} (h : RoE K w steps r) (i : In) {x y : Int} {l : List Int} (e : r.st = y :: x :: l) (hl : l.length ≤ 300000) : Calls Tryz.prog 70 #[.pointer (some ⟨K.rb, 0, none⟩), iAgg i] w fun e w' => e = .returned (.int .i64 (fitF (x + y))) ∧ RoE K w' steps (resR { r with st := l } (fitV (x + y)) (fitF (x + y))) := by
  have rx : inR x ∧ inR y := by obtain ⟨_, _, _, q⟩ := h; exact ⟨q.r1 x (by rw [e]; simp), q.r1 y (by rw [e]; simp)⟩
  have K1 := Lib.hid (pair_any (h.lat (allocBP w (.cells #[.int .i64 i.o, .int .i64 i.a, .int .i64 i.b] 68))) e)
  have KN := Lib.hid (fun V => add_any x y rx.1 rx.2 V)
  have KR := Lib.hid (fun V (hV : RoE K V steps { r with st := l }) => result_any hV (fitV (x + y)) (fitF (x + y)) (fitV_bd _) (by simp only; omega))
  generalize fitV (x + y) = vv at *
  generalize fitF (x + y) = ff at *
  clear h e hl rx
  unfold iAgg
  obtain ⟨io, ia, ib⟩ := i
  simp only at *
  go_enter Tryz.func70, Tryz.ntmps70
  go_wp2_with (first | (go_at_call 113; refine K1.out.mono ?_; rintro e w1 ⟨rfl, h1, _⟩; have H1 := Lib.hid h1; clear h1) | (go_at_call 112; refine (KN.out _).mono ?_; rintro e w' ⟨rfl, hw⟩; have hw' := hw.symm; subst hw'; clear hw) | (go_at_call 111; refine (KR.out w1 H1.out).mono ?_; rintro e w2 ⟨rfl, h1⟩; have H2 := Lib.hid h1; clear h1))
  go_ret
  exact ⟨rfl, H2.out⟩
set_option maxRecDepth 100000 in
theorem sub_deed {K : Kx} {w : World} {steps : Int} {r : Rn} (h : RoE K w steps r) (i : In) {x y : Int} {l : List Int} (e : r.st = y :: x :: l) (hl : l.length ≤ 300000) : Calls Tryz.prog 71 #[.pointer (some ⟨K.rb, 0, none⟩), iAgg i] w fun e w' => e = .returned (.int .i64 (fitF (x - y))) ∧ RoE K w' steps (resR { r with st := l } (fitV (x - y)) (fitF (x - y))) := by
  have rx : inR x ∧ inR y := by obtain ⟨_, _, _, q⟩ := h; exact ⟨q.r1 x (by rw [e]; simp), q.r1 y (by rw [e]; simp)⟩
  have K1 := Lib.hid (pair_any (h.lat (allocBP w (.cells #[.int .i64 i.o, .int .i64 i.a, .int .i64 i.b] 68))) e)
  have KN := Lib.hid (fun V => sub_any x y rx.1 rx.2 V)
  have KR := Lib.hid (fun V (hV : RoE K V steps { r with st := l }) => result_any hV (fitV (x - y)) (fitF (x - y)) (fitV_bd _) (by simp only; omega))
  generalize fitV (x - y) = vv at *
  generalize fitF (x - y) = ff at *
  clear h e hl rx
  unfold iAgg
  obtain ⟨io, ia, ib⟩ := i
  simp only at *
  go_enter Tryz.func71, Tryz.ntmps71
  go_wp2_with (first | (go_at_call 113; refine K1.out.mono ?_; rintro e w1 ⟨rfl, h1, _⟩; have H1 := Lib.hid h1; clear h1) | (go_at_call 114; refine (KN.out _).mono ?_; rintro e w' ⟨rfl, hw⟩; have hw' := hw.symm; subst hw'; clear hw) | (go_at_call 111; refine (KR.out w1 H1.out).mono ?_; rintro e w2 ⟨rfl, h1⟩; have H2 := Lib.hid h1; clear h1))
  go_ret
  exact ⟨rfl, H2.out⟩
set_option maxRecDepth 100000 in
theorem mul_deed {K : Kx} {w : World} {steps : Int} {r : Rn} (h : RoE K w steps r) (i : In) {x y : Int} {l : List Int} (e : r.st = y :: x :: l) (hl : l.length ≤ 300000) : Calls Tryz.prog 72 #[.pointer (some ⟨K.rb, 0, none⟩), iAgg i] w fun e w' => e = .returned (.int .i64 (fitF (x * y))) ∧ RoE K w' steps (resR { r with st := l } (fitV (x * y)) (fitF (x * y))) := by
  have rx : inR x ∧ inR y := by obtain ⟨_, _, _, q⟩ := h; exact ⟨q.r1 x (by rw [e]; simp), q.r1 y (by rw [e]; simp)⟩
  have K1 := Lib.hid (pair_any (h.lat (allocBP w (.cells #[.int .i64 i.o, .int .i64 i.a, .int .i64 i.b] 68))) e)
  have KN := Lib.hid (fun V => mul_any x y rx.1 rx.2 V)
  have KR := Lib.hid (fun V (hV : RoE K V steps { r with st := l }) => result_any hV (fitV (x * y)) (fitF (x * y)) (fitV_bd _) (by simp only; omega))
  generalize fitV (x * y) = vv at *
  generalize fitF (x * y) = ff at *
  clear h e hl rx
  unfold iAgg
  obtain ⟨io, ia, ib⟩ := i
  simp only at *
  go_enter Tryz.func72, Tryz.ntmps72
  go_wp2_with (first | (go_at_call 113; refine K1.out.mono ?_; rintro e w1 ⟨rfl, h1, _⟩; have H1 := Lib.hid h1; clear h1) | (go_at_call 115; refine (KN.out _).mono ?_; rintro e w' ⟨rfl, hw⟩; have hw' := hw.symm; subst hw'; clear hw) | (go_at_call 111; refine (KR.out w1 H1.out).mono ?_; rintro e w2 ⟨rfl, h1⟩; have H2 := Lib.hid h1; clear h1))
  go_ret
  exact ⟨rfl, H2.out⟩
set_option maxRecDepth 100000 in
theorem div_deed {K : Kx} {w : World} {steps : Int} {r : Rn} (h : RoE K w steps r) (i : In) {x y : Int} {l : List Int} (e : r.st = y :: x :: l) (hl : l.length ≤ 300000) : Calls Tryz.prog 74 #[.pointer (some ⟨K.rb, 0, none⟩), iAgg i] w fun e w' => e = .returned (.int .i64 (divF x y)) ∧ RoE K w' steps (resR { r with st := l } (divV x y) (divF x y)) := by
  have rx : inR x ∧ inR y := by obtain ⟨_, _, _, q⟩ := h; exact ⟨q.r1 x (by rw [e]; simp), q.r1 y (by rw [e]; simp)⟩
  have K1 := Lib.hid (pair_any (h.lat (allocBP w (.cells #[.int .i64 i.o, .int .i64 i.a, .int .i64 i.b] 68))) e)
  have KN := Lib.hid (fun V => div_any x y rx.1 V)
  have KR := Lib.hid (fun V (hV : RoE K V steps { r with st := l }) => result_any hV (divV x y) (divF x y) (by unfold divV; split; exact ⟨by omega, by omega⟩; exact fitV_bd _) (by simp only; omega))
  generalize divV x y = vv at *
  generalize divF x y = ff at *
  clear h e hl rx
  unfold iAgg
  obtain ⟨io, ia, ib⟩ := i
  simp only at *
  go_enter Tryz.func74, Tryz.ntmps74
  go_wp2_with (first | (go_at_call 113; refine K1.out.mono ?_; rintro e w1 ⟨rfl, h1, _⟩; have H1 := Lib.hid h1; clear h1) | (go_at_call 117; refine (KN.out _).mono ?_; rintro e w' ⟨rfl, hw⟩; have hw' := hw.symm; subst hw'; clear hw) | (go_at_call 111; refine (KR.out w1 H1.out).mono ?_; rintro e w2 ⟨rfl, h1⟩; have H2 := Lib.hid h1; clear h1))
  go_ret
  exact ⟨rfl, H2.out⟩
set_option maxRecDepth 100000 in
theorem mod_deed {K : Kx} {w : World} {steps : Int} {r : Rn} (h : RoE K w steps r) (i : In) {x y : Int} {l : List Int} (e : r.st = y :: x :: l) (hl : l.length ≤ 300000) : Calls Tryz.prog 75 #[.pointer (some ⟨K.rb, 0, none⟩), iAgg i] w fun e w' => e = .returned (.int .i64 (modF y)) ∧ RoE K w' steps (resR { r with st := l } (modV x y) (modF y)) := by
  have rx : inR x ∧ inR y := by obtain ⟨_, _, _, q⟩ := h; exact ⟨q.r1 x (by rw [e]; simp), q.r1 y (by rw [e]; simp)⟩
  have K1 := Lib.hid (pair_any (h.lat (allocBP w (.cells #[.int .i64 i.o, .int .i64 i.a, .int .i64 i.b] 68))) e)
  have KN := Lib.hid (fun V => mod_any x y V)
  have KR := Lib.hid (fun V (hV : RoE K V steps { r with st := l }) => result_any hV (modV x y) (modF y) (modV_inM x y rx.1) (by simp only; omega))
  generalize modV x y = vv at *
  generalize modF y = ff at *
  clear h e hl rx
  unfold iAgg
  obtain ⟨io, ia, ib⟩ := i
  simp only at *
  go_enter Tryz.func75, Tryz.ntmps75
  go_wp2_with (first | (go_at_call 113; refine K1.out.mono ?_; rintro e w1 ⟨rfl, h1, _⟩; have H1 := Lib.hid h1; clear h1) | (go_at_call 118; refine (KN.out _).mono ?_; rintro e w' ⟨rfl, hw⟩; have hw' := hw.symm; subst hw'; clear hw) | (go_at_call 111; refine (KR.out w1 H1.out).mono ?_; rintro e w2 ⟨rfl, h1⟩; have H2 := Lib.hid h1; clear h1))
  go_ret
  exact ⟨rfl, H2.out⟩
set_option maxRecDepth 100000 in
theorem neg_deed {K : Kx} {w : World} {steps : Int} {r : Rn} (h : RoE K w steps r) (i : In) {x : Int} {l : List Int} (e : r.st = x :: l) (hl : l.length ≤ 300000) : Calls Tryz.prog 73 #[.pointer (some ⟨K.rb, 0, none⟩), iAgg i] w fun e w' => e = .returned (.int .i64 (fitF (-x))) ∧ RoE K w' steps (resR { r with st := l } (fitV (-x)) (fitF (-x))) := by
  have rx : inR x := by obtain ⟨_, _, _, q⟩ := h; exact q.r1 x (by rw [e]; simp)
  have K1 := Lib.hid (mtake_any (h.lat (allocBP w (.cells #[.int .i64 i.o, .int .i64 i.a, .int .i64 i.b] 68))) e)
  have KN := Lib.hid (fun V => neg_any x rx V)
  have KR := Lib.hid (fun V (hV : RoE K V steps { r with st := l }) => result_any hV (fitV (-x)) (fitF (-x)) (fitV_bd _) (by simp only; omega))
  generalize fitV (-x) = vv at *
  generalize fitF (-x) = ff at *
  clear h e hl rx
  unfold iAgg
  obtain ⟨io, ia, ib⟩ := i
  simp only at *
  go_enter Tryz.func73, Tryz.ntmps73
  go_wp2_with (first | (go_at_call 109; refine K1.out.mono ?_; rintro e w1 ⟨rfl, h1, _⟩; have H1 := Lib.hid h1; clear h1) | (go_at_call 116; refine (KN.out _).mono ?_; rintro e w' ⟨rfl, hw⟩; have hw' := hw.symm; subst hw'; clear hw) | (go_at_call 111; refine (KR.out w1 H1.out).mono ?_; rintro e w2 ⟨rfl, h1⟩; have H2 := Lib.hid h1; clear h1))
  go_ret
  exact ⟨rfl, H2.out⟩
set_option maxRecDepth 100000 in
theorem abs_deed {K : Kx} {w : World} {steps : Int} {r : Rn} (h : RoE K w steps r) (i : In) {x : Int} {l : List Int} (e : r.st = x :: l) (hl : l.length ≤ 300000) : Calls Tryz.prog 76 #[.pointer (some ⟨K.rb, 0, none⟩), iAgg i] w fun e w' => e = .returned (.int .i64 (fitF (absI x))) ∧ RoE K w' steps (resR { r with st := l } (fitV (absI x)) (fitF (absI x))) := by
  have rx : inR x := by obtain ⟨_, _, _, q⟩ := h; exact q.r1 x (by rw [e]; simp)
  have K1 := Lib.hid (mtake_any (h.lat (allocBP w (.cells #[.int .i64 i.o, .int .i64 i.a, .int .i64 i.b] 68))) e)
  have KN := Lib.hid (fun V => absM_any x rx V)
  have KR := Lib.hid (fun V (hV : RoE K V steps { r with st := l }) => result_any hV (fitV (absI x)) (fitF (absI x)) (fitV_bd _) (by simp only; omega))
  generalize fitV (absI x) = vv at *
  generalize fitF (absI x) = ff at *
  clear h e hl rx
  unfold iAgg
  obtain ⟨io, ia, ib⟩ := i
  simp only at *
  go_enter Tryz.func76, Tryz.ntmps76
  go_wp2_with (first | (go_at_call 109; refine K1.out.mono ?_; rintro e w1 ⟨rfl, h1, _⟩; have H1 := Lib.hid h1; clear h1) | (go_at_call 119; refine (KN.out _).mono ?_; rintro e w' ⟨rfl, hw⟩; have hw' := hw.symm; subst hw'; clear hw) | (go_at_call 111; refine (KR.out w1 H1.out).mono ?_; rintro e w2 ⟨rfl, h1⟩; have H2 := Lib.hid h1; clear h1))
  go_ret
  exact ⟨rfl, H2.out⟩
set_option maxRecDepth 100000 in
theorem lesser_deed {K : Kx} {w : World} {steps : Int} {r : Rn} (h : RoE K w steps r) (i : In) {x y : Int} {l : List Int} (e : r.st = y :: x :: l) (hl : l.length ≤ 300000) : Calls Tryz.prog 77 #[.pointer (some ⟨K.rb, 0, none⟩), iAgg i] w fun e w' => e = .returned (.int .i64 0) ∧ RoE K w' steps (Rn.put { r with st := l } (min x y)) := by
  have rx : inR x ∧ inR y := by obtain ⟨_, _, _, q⟩ := h; exact ⟨q.r1 x (by rw [e]; simp), q.r1 y (by rw [e]; simp)⟩
  have K1 := Lib.hid (pair_any (h.lat (allocBP w (.cells #[.int .i64 i.o, .int .i64 i.a, .int .i64 i.b] 68))) e)
  have KR := Lib.hid (fun V (hV : RoE K V steps { r with st := l }) => mput_any hV (min x y) (by unfold inR at rx ⊢; omega) (by simp only; omega))
  clear h e hl rx
  unfold iAgg
  obtain ⟨io, ia, ib⟩ := i
  simp only at *
  go_enter Tryz.func77, Tryz.ntmps77
  go_wp2_with (first | (go_at_call 113; refine K1.out.mono ?_; rintro e w1 ⟨rfl, h1, _⟩; have H1 := Lib.hid h1; clear h1) | (go_at_call 107; refine (KR.out w1 H1.out).mono ?_; rintro e w2 ⟨rfl, h1⟩; have H2 := Lib.hid h1; clear h1))
  go_ret
  exact ⟨rfl, H2.out⟩
set_option maxRecDepth 100000 in
theorem greater_deed {K : Kx} {w : World} {steps : Int} {r : Rn} (h : RoE K w steps r) (i : In) {x y : Int} {l : List Int} (e : r.st = y :: x :: l) (hl : l.length ≤ 300000) : Calls Tryz.prog 78 #[.pointer (some ⟨K.rb, 0, none⟩), iAgg i] w fun e w' => e = .returned (.int .i64 0) ∧ RoE K w' steps (Rn.put { r with st := l } (max x y)) := by
  have rx : inR x ∧ inR y := by obtain ⟨_, _, _, q⟩ := h; exact ⟨q.r1 x (by rw [e]; simp), q.r1 y (by rw [e]; simp)⟩
  have K1 := Lib.hid (pair_any (h.lat (allocBP w (.cells #[.int .i64 i.o, .int .i64 i.a, .int .i64 i.b] 68))) e)
  have KR := Lib.hid (fun V (hV : RoE K V steps { r with st := l }) => mput_any hV (max x y) (by unfold inR at rx ⊢; omega) (by simp only; omega))
  clear h e hl rx
  unfold iAgg
  obtain ⟨io, ia, ib⟩ := i
  simp only at *
  go_enter Tryz.func78, Tryz.ntmps78
  go_wp2_with (first | (go_at_call 113; refine K1.out.mono ?_; rintro e w1 ⟨rfl, h1, _⟩; have H1 := Lib.hid h1; clear h1) | (go_at_call 107; refine (KR.out w1 H1.out).mono ?_; rintro e w2 ⟨rfl, h1⟩; have H2 := Lib.hid h1; clear h1))
  go_ret
  exact ⟨rfl, H2.out⟩
set_option maxRecDepth 100000 in
theorem lt_deed {K : Kx} {w : World} {steps : Int} {r : Rn} (h : RoE K w steps r) (i : In) {x y : Int} {l : List Int} (e : r.st = y :: x :: l) (hl : l.length ≤ 300000) : Calls Tryz.prog 80 #[.pointer (some ⟨K.rb, 0, none⟩), iAgg i] w fun e w' => e = .returned (.int .i64 0) ∧ RoE K w' steps (Rn.put { r with st := l } (trI (decide (x < y)))) := by
  have K1 := Lib.hid (pair_any (h.lat (allocBP w (.cells #[.int .i64 i.o, .int .i64 i.a, .int .i64 i.b] 68))) e)
  have KR := Lib.hid (fun V (hV : RoE K V steps { r with st := l }) => answer_any hV (decide (x < y)) (by simp only; omega))
  clear h e hl
  unfold iAgg
  obtain ⟨io, ia, ib⟩ := i
  simp only at *
  go_enter Tryz.func80, Tryz.ntmps80
  go_wp2_with (first | (go_at_call 113; refine K1.out.mono ?_; rintro e w1 ⟨rfl, h1, _⟩; have H1 := Lib.hid h1; clear h1) | (go_at_call 121; refine (KR.out w1 H1.out).mono ?_; rintro e w2 ⟨rfl, h1⟩; have H2 := Lib.hid h1; clear h1))
  go_ret
  exact ⟨rfl, H2.out⟩
set_option maxRecDepth 100000 in
theorem le_deed {K : Kx} {w : World} {steps : Int} {r : Rn} (h : RoE K w steps r) (i : In) {x y : Int} {l : List Int} (e : r.st = y :: x :: l) (hl : l.length ≤ 300000) : Calls Tryz.prog 81 #[.pointer (some ⟨K.rb, 0, none⟩), iAgg i] w fun e w' => e = .returned (.int .i64 0) ∧ RoE K w' steps (Rn.put { r with st := l } (trI (decide (x ≤ y)))) := by
  have K1 := Lib.hid (pair_any (h.lat (allocBP w (.cells #[.int .i64 i.o, .int .i64 i.a, .int .i64 i.b] 68))) e)
  have KR := Lib.hid (fun V (hV : RoE K V steps { r with st := l }) => answer_any hV (decide (x ≤ y)) (by simp only; omega))
  clear h e hl
  unfold iAgg
  obtain ⟨io, ia, ib⟩ := i
  simp only at *
  go_enter Tryz.func81, Tryz.ntmps81
  go_wp2_with (first | (go_at_call 113; refine K1.out.mono ?_; rintro e w1 ⟨rfl, h1, _⟩; have H1 := Lib.hid h1; clear h1) | (go_at_call 121; refine (KR.out w1 H1.out).mono ?_; rintro e w2 ⟨rfl, h1⟩; have H2 := Lib.hid h1; clear h1))
  go_ret
  exact ⟨rfl, H2.out⟩
set_option maxRecDepth 100000 in
theorem gt_deed {K : Kx} {w : World} {steps : Int} {r : Rn} (h : RoE K w steps r) (i : In) {x y : Int} {l : List Int} (e : r.st = y :: x :: l) (hl : l.length ≤ 300000) : Calls Tryz.prog 82 #[.pointer (some ⟨K.rb, 0, none⟩), iAgg i] w fun e w' => e = .returned (.int .i64 0) ∧ RoE K w' steps (Rn.put { r with st := l } (trI (decide (y < x)))) := by
  have K1 := Lib.hid (pair_any (h.lat (allocBP w (.cells #[.int .i64 i.o, .int .i64 i.a, .int .i64 i.b] 68))) e)
  have KR := Lib.hid (fun V (hV : RoE K V steps { r with st := l }) => answer_any hV (decide (y < x)) (by simp only; omega))
  clear h e hl
  unfold iAgg
  obtain ⟨io, ia, ib⟩ := i
  simp only at *
  go_enter Tryz.func82, Tryz.ntmps82
  go_wp2_with (first | (go_at_call 113; refine K1.out.mono ?_; rintro e w1 ⟨rfl, h1, _⟩; have H1 := Lib.hid h1; clear h1) | (go_at_call 121; refine (KR.out w1 H1.out).mono ?_; rintro e w2 ⟨rfl, h1⟩; have H2 := Lib.hid h1; clear h1))
  go_ret
  exact ⟨rfl, H2.out⟩
set_option maxRecDepth 100000 in
theorem ge_deed {K : Kx} {w : World} {steps : Int} {r : Rn} (h : RoE K w steps r) (i : In) {x y : Int} {l : List Int} (e : r.st = y :: x :: l) (hl : l.length ≤ 300000) : Calls Tryz.prog 83 #[.pointer (some ⟨K.rb, 0, none⟩), iAgg i] w fun e w' => e = .returned (.int .i64 0) ∧ RoE K w' steps (Rn.put { r with st := l } (trI (decide (y ≤ x)))) := by
  have K1 := Lib.hid (pair_any (h.lat (allocBP w (.cells #[.int .i64 i.o, .int .i64 i.a, .int .i64 i.b] 68))) e)
  have KR := Lib.hid (fun V (hV : RoE K V steps { r with st := l }) => answer_any hV (decide (y ≤ x)) (by simp only; omega))
  clear h e hl
  unfold iAgg
  obtain ⟨io, ia, ib⟩ := i
  simp only at *
  go_enter Tryz.func83, Tryz.ntmps83
  go_wp2_with (first | (go_at_call 113; refine K1.out.mono ?_; rintro e w1 ⟨rfl, h1, _⟩; have H1 := Lib.hid h1; clear h1) | (go_at_call 121; refine (KR.out w1 H1.out).mono ?_; rintro e w2 ⟨rfl, h1⟩; have H2 := Lib.hid h1; clear h1))
  go_ret
  exact ⟨rfl, H2.out⟩
set_option maxRecDepth 100000 in
theorem eq_deed {K : Kx} {w : World} {steps : Int} {r : Rn} (h : RoE K w steps r) (i : In) {x y : Int} {l : List Int} (e : r.st = y :: x :: l) (hl : l.length ≤ 300000) : Calls Tryz.prog 84 #[.pointer (some ⟨K.rb, 0, none⟩), iAgg i] w fun e w' => e = .returned (.int .i64 0) ∧ RoE K w' steps (Rn.put { r with st := l } (trI (x == y))) := by
  have K1 := Lib.hid (pair_any (h.lat (allocBP w (.cells #[.int .i64 i.o, .int .i64 i.a, .int .i64 i.b] 68))) e)
  have KR := Lib.hid (fun V (hV : RoE K V steps { r with st := l }) => answer_any hV (x == y) (by simp only; omega))
  clear h e hl
  unfold iAgg
  obtain ⟨io, ia, ib⟩ := i
  simp only at *
  go_enter Tryz.func84, Tryz.ntmps84
  go_wp2_with (first | (go_at_call 113; refine K1.out.mono ?_; rintro e w1 ⟨rfl, h1, _⟩; have H1 := Lib.hid h1; clear h1) | (go_at_call 121; refine (KR.out w1 H1.out).mono ?_; rintro e w2 ⟨rfl, h1⟩; have H2 := Lib.hid h1; clear h1))
  go_ret
  exact ⟨rfl, H2.out⟩
set_option maxRecDepth 100000 in
theorem ne_deed {K : Kx} {w : World} {steps : Int} {r : Rn} (h : RoE K w steps r) (i : In) {x y : Int} {l : List Int} (e : r.st = y :: x :: l) (hl : l.length ≤ 300000) : Calls Tryz.prog 85 #[.pointer (some ⟨K.rb, 0, none⟩), iAgg i] w fun e w' => e = .returned (.int .i64 0) ∧ RoE K w' steps (Rn.put { r with st := l } (trI (x != y))) := by
  have K1 := Lib.hid (pair_any (h.lat (allocBP w (.cells #[.int .i64 i.o, .int .i64 i.a, .int .i64 i.b] 68))) e)
  have KR := Lib.hid (fun V (hV : RoE K V steps { r with st := l }) => answer_any hV (x != y) (by simp only; omega))
  clear h e hl
  unfold iAgg
  obtain ⟨io, ia, ib⟩ := i
  simp only at *
  go_enter Tryz.func85, Tryz.ntmps85
  go_wp2_with (first | (go_at_call 113; refine K1.out.mono ?_; rintro e w1 ⟨rfl, h1, _⟩; have H1 := Lib.hid h1; clear h1) | (go_at_call 121; refine (KR.out w1 H1.out).mono ?_; rintro e w2 ⟨rfl, h1⟩; have H2 := Lib.hid h1; clear h1))
  go_ret
  exact ⟨rfl, H2.out⟩
set_option maxRecDepth 100000 in
theorem not_deed {K : Kx} {w : World} {steps : Int} {r : Rn} (h : RoE K w steps r) (i : In) {x : Int} {l : List Int} (e : r.st = x :: l) (hl : l.length ≤ 300000) : Calls Tryz.prog 86 #[.pointer (some ⟨K.rb, 0, none⟩), iAgg i] w fun e w' => e = .returned (.int .i64 0) ∧ RoE K w' steps (Rn.put { r with st := l } (trI (x == 0))) := by
  have K1 := Lib.hid (mtake_any (h.lat (allocBP w (.cells #[.int .i64 i.o, .int .i64 i.a, .int .i64 i.b] 68))) e)
  have KR := Lib.hid (fun V (hV : RoE K V steps { r with st := l }) => answer_any hV (x == 0) (by simp only; omega))
  clear h e hl
  unfold iAgg
  obtain ⟨io, ia, ib⟩ := i
  simp only at *
  go_enter Tryz.func86, Tryz.ntmps86
  go_wp2_with (first | (go_at_call 109; refine K1.out.mono ?_; rintro e w1 ⟨rfl, h1, _⟩; have H1 := Lib.hid h1; clear h1) | (go_at_call 121; refine (KR.out w1 H1.out).mono ?_; rintro e w2 ⟨rfl, h1⟩; have H2 := Lib.hid h1; clear h1))
  go_ret
  exact ⟨rfl, H2.out⟩
/-- Ratio, whatever the divisor. -/
def raV (x y z m : Int) : Int := if z = 0 then 0 else fitV (ratN x y z m)
def raF (x y z m : Int) : Int := if z = 0 then 2 else fitF (ratN x y z m)
theorem ratioM_any (x y z m : Int) (hx : inR x) (hy : inR y) (hz : inR z) (w : World) : Calls Tryz.prog 120 #[.int .i64 x, .int .i64 y, .int .i64 z, .int .i64 m] w fun e w' => e = .returned (.tuple #[.int .i64 (raV x y z m), .int .i64 (raF x y z m)]) ∧ ∃ n, w' = w.drewN n := by
  unfold raV raF
  by_cases e : z = 0
  · subst e
    rw [if_pos rfl, if_pos rfl]
    exact (ratio_zero x y m w).mono (fun e w' h => ⟨h.1, 0, h.2⟩)
  · rw [if_neg e, if_neg e]
    exact ratio_any x y z m hx hy hz e w
set_option maxRecDepth 100000 in
theorem ratio_deed {K : Kx} {w : World} {steps : Int} {r : Rn} (h : RoE K w steps r) (i : In) {x y z : Int} {l : List Int} (e : r.st = z :: y :: x :: l) (hl : l.length ≤ 300000) : Calls Tryz.prog 79 #[.pointer (some ⟨K.rb, 0, none⟩), iAgg i] w fun e w' => e = .returned (.int .i64 (raF x y z i.a)) ∧ RoE K w' steps (resR { r with st := l } (raV x y z i.a) (raF x y z i.a)) := by
  have rx : inR x ∧ inR y ∧ inR z := by obtain ⟨_, _, _, q⟩ := h; exact ⟨q.r1 x (by rw [e]; simp), q.r1 y (by rw [e]; simp), q.r1 z (by rw [e]; simp)⟩
  have K1 := Lib.hid (mtake_any (h.lat (allocBP w (.cells #[.int .i64 i.o, .int .i64 i.a, .int .i64 i.b] 68))) e)
  have IB := Lib.hid (p := BkP (w.alloc (.cells #[.int .i64 i.o, .int .i64 i.a, .int .i64 i.b] 68)) w.heap.size #[.int .i64 i.o, .int .i64 i.a, .int .i64 i.b] 68) (heapN _ _)
  have K2 := Lib.hid (fun V (hV : RoE K V steps { r with st := y :: x :: l }) => pair_any (r := { r with st := y :: x :: l }) hV rfl)
  have KN := Lib.hid (fun V => ratioM_any x y z i.a rx.1 rx.2.1 rx.2.2 V)
  have KR := Lib.hid (fun V (hV : RoE K V steps { r with st := l }) => result_any hV (raV x y z i.a) (raF x y z i.a) (by unfold raV; split; exact ⟨by omega, by omega⟩; exact fitV_bd _) (by simp only; omega))
  generalize raV x y z i.a = vv at *
  generalize raF x y z i.a = ff at *
  clear h e hl rx
  unfold iAgg
  obtain ⟨io, ia, ib⟩ := i
  simp only at *
  go_enter Tryz.func79, Tryz.ntmps79
  go_wp2_with (first | (go_at_call 109; refine K1.out.mono ?_; rintro e w1 ⟨rfl, h1, s1⟩; have H1 := Lib.hid h1; have I1 := Lib.hid (s1 _ _ _ IB.out (by decide)); clear h1 s1) | (go_at_call 113; refine (K2.out w1 H1.out).mono ?_; rintro e w2 ⟨rfl, h1, s1⟩; have H2 := Lib.hid h1; have i1 := (s1 _ _ _ I1.out (by decide)).cell 1; simp only [List.getElem?_toArray, List.getElem?_cons_zero, List.getElem?_cons_succ] at i1; clear h1 s1) | (go_at_call 120; refine (KN.out _).mono ?_; rintro e w3 ⟨rfl, q, rfl⟩; have H3 := Lib.hid (H2.out.lat (drewB w2 q))) | (go_at_call 111; refine (KR.out _ H3.out).mono ?_; rintro e w4 ⟨rfl, h1⟩; have H4 := Lib.hid h1; clear h1))
  go_ret
  exact ⟨rfl, H4.out⟩
end Go.Proofs.YtpfjnnkjoabgbaaGreatDoor

namespace Go.Proofs.YtpfjnnkjoabgbaaGreatDoor
open Go.RowKit
set_option linter.unusedVariables false
set_option linter.unusedSimpArgs false
/-- The blocks that stay are as they were. -/
def Kx.On (K : Kx) (V : World) : Prop := ∀ k, K.D k → V.heap[k]? = K.w0.heap[k]?
/-- What a day's code reads lies in memory. -/
structure KE (K : Kx) (E : EvM) : Prop where
  t : E.t = K.today
  plen : K.p.pool.length = E.pool.length
  pool : ∀ V, K.On V → ∀ i, i < E.pool.length → ∃ x o, K.p.pa = some ⟨x, o, none⟩ ∧ V.cell? ⟨x, o + i, none⟩ = some (.int .i64 (E.pool.getD i 0))
  clen : K.p.curs.length = E.curs.length
  curs : ∀ V, K.On V → ∀ i, i < E.curs.length → ∃ x o, K.p.ua = some ⟨x, o, none⟩ ∧ V.cell? ⟨x, o + i, none⟩ = some (.string (E.curs.getD i ⟨#[]⟩))
  row : ∀ V, K.On V → ∀ i, i < E.row.length → ∃ x o c, K.rowv = .slice (some ⟨x, o, none⟩) E.row.length c ∧ V.cell? ⟨x, o + i * 2, none⟩ = some (.bool (E.row.getD i default).h) ∧ V.cell? ⟨x, o + i * 2 + 1, none⟩ = some (.int .i64 (E.row.getD i default).v)
  past : ∀ V, K.On V → ∀ d, d < E.past.length → ∀ i, i < (E.past.getD d []).length → ∃ x o c y u z, K.pav = .slice (some ⟨x, o, none⟩) E.past.length c ∧ V.cell? ⟨x, o + d, none⟩ = some (.slice (some ⟨y, u, none⟩) (E.past.getD d []).length z) ∧ V.cell? ⟨y, u + i * 2, none⟩ = some (.bool ((E.past.getD d []).getD i default).h) ∧ V.cell? ⟨y, u + i * 2 + 1, none⟩ = some (.int .i64 ((E.past.getD d []).getD i default).v)
  ip : ∀ x ∈ E.pool, inR x
  ir : ∀ c ∈ E.row, inR c.v
  ia : ∀ l ∈ E.past, ∀ c ∈ l, inR c.v
theorem RO.on {K : Kx} {w : World} {stv slv flv : Value} {steps : Int} {r : Rn} (h : RO K w stv slv flv steps r) : K.On w := h.fr
theorem RoE.on {K : Kx} {w : World} {steps : Int} {r : Rn} (h : RoE K w steps r) : K.On w := by obtain ⟨_, _, _, q⟩ := h; exact q.fr
theorem getD_mem {α : Type} {l : List α} {d : α} {i : Nat} (h : i < l.length) : l.getD i d ∈ l := by simp [List.getD, h]
set_option maxRecDepth 100000 in
theorem end_deed {K : Kx} {w : World} {steps : Int} {r : Rn} (h : RoE K w steps r) (i : In) : Calls Tryz.prog 61 #[.pointer (some ⟨K.rb, 0, none⟩), iAgg i] w fun e w' => e = .returned (.int .i64 0) ∧ RoE K w' steps { r with en := true } := by
  have h1 := h.lat (allocBP w (.cells #[.int .i64 i.o, .int .i64 i.a, .int .i64 i.b] 68))
  obtain ⟨stv, slv, flv, h2⟩ := h1
  have c3 := (run_cells h2).2.2.2.1
  have f3 := h2.rb.frozen 3
  have E := Lib.hid (h2.field 3 (.bool true) (by omega) (r' := { r with en := true }) (by simp [rArr]) rfl rfl rfl rfl)
  clear h h2
  unfold iAgg
  obtain ⟨io, ia, ib⟩ := i
  simp only at *
  go_enter Tryz.func61, Tryz.ntmps61
  go_wp2
  go_ret
  exact ⟨rfl, _, _, _, E.out⟩
set_option maxRecDepth 100000 in
theorem truth_deed {K : Kx} {w : World} {steps : Int} {r : Rn} (h : RoE K w steps r) (i : In) (ha : inR i.a) (hl : r.st.length ≤ 300000) : Calls Tryz.prog 63 #[.pointer (some ⟨K.rb, 0, none⟩), iAgg i] w fun e w' => e = .returned (.int .i64 0) ∧ RoE K w' steps (r.put i.a) := by
  have KP := Lib.hid (mput_any (h.lat (allocBP w (.cells #[.int .i64 i.o, .int .i64 i.a, .int .i64 i.b] 68))) i.a ha (by omega))
  clear h ha hl
  unfold iAgg
  obtain ⟨io, ia, ib⟩ := i
  simp only at *
  go_enter Tryz.func63, Tryz.ntmps63
  go_wp2_with (go_at_call 107; refine KP.out.mono ?_; rintro e w1 ⟨rfl, h1⟩; have H1 := Lib.hid h1; clear h1)
  go_ret
  exact ⟨rfl, H1.out⟩
set_option maxRecDepth 100000 in
theorem drop_deed {K : Kx} {w : World} {steps : Int} {r : Rn} (h : RoE K w steps r) (i : In) {x : Int} {l : List Int} (e : r.st = x :: l) : Calls Tryz.prog 69 #[.pointer (some ⟨K.rb, 0, none⟩), iAgg i] w fun e w' => e = .returned (.int .i64 0) ∧ RoE K w' steps { r with st := l } := by
  have KP := Lib.hid (mtake_any (h.lat (allocBP w (.cells #[.int .i64 i.o, .int .i64 i.a, .int .i64 i.b] 68))) e)
  clear h e
  unfold iAgg
  obtain ⟨io, ia, ib⟩ := i
  simp only at *
  go_enter Tryz.func69, Tryz.ntmps69
  go_wp2_with (go_at_call 109; refine KP.out.mono ?_; rintro e w1 ⟨rfl, h1, _⟩; have H1 := Lib.hid h1; clear h1)
  go_ret
  exact ⟨rfl, H1.out⟩
theorem ro_jump {K : Kx} {w : World} {stv slv flv : Value} {steps : Int} {r : Rn} (h : RO K w stv slv flv steps r) (a : Nat) : RO K (w.setCell ⟨K.rb, 2, none⟩ (.int .i64 ((r.nx : Int) + (a : Int)))) stv slv flv steps { r with nx := r.nx + a } := h.field 2 _ (by omega) (by simp [rArr]) rfl rfl rfl rfl
set_option maxRecDepth 100000 in
set_option maxHeartbeats 800000 in
theorem jump_deed {K : Kx} {w : World} {steps : Int} {r : Rn} (h : RoE K w steps r) (i : In) (ha : 0 ≤ i.a) (hb : i.a ≤ 1000000) (hn : r.nx ≤ 1000000) : Calls Tryz.prog 87 #[.pointer (some ⟨K.rb, 0, none⟩), iAgg i] w fun e w' => e = .returned (.int .i64 0) ∧ RoE K w' steps { r with nx := r.nx + i.a.toNat } := by
  obtain ⟨io, ia, ib⟩ := i
  simp only at *
  obtain ⟨W, hW⟩ : ∃ W, w.alloc (.cells #[.int .i64 io, .int .i64 ia, .int .i64 ib] 68) = W := ⟨_, rfl⟩
  have h1 := h.lat (allocBP w (.cells #[.int .i64 io, .int .i64 ia, .int .i64 ib] 68))
  have i1 := (BkP.cell (heapN w (.cells #[.int .i64 io, .int .i64 ia, .int .i64 ib] 68)) 1)
  rw [hW] at h1 i1
  simp only [List.getElem?_toArray, List.getElem?_cons_zero, List.getElem?_cons_succ] at i1
  obtain ⟨stv, slv, flv, h2⟩ := h1
  have c2 := (run_cells h2).2.2.1
  have f2 := h2.rb.frozen 2
  have ew : IntKind.i64.wrap ((r.nx : Int) + ia) = (r.nx : Int) + ia := by simp [IntKind.wrap, IntKind.bits, IntKind.signed]; omega
  have E := Lib.hid (p := RoE K (W.drew.setCell ⟨K.rb, 2, none⟩ (.int .i64 ((r.nx : Int) + ia))) steps { r with nx := r.nx + ia.toNat }) (by
    have q := ro_jump (h2.lat (drew1 W)) ia.toNat
    rw [show ((ia.toNat : Nat) : Int) = ia by omega] at q
    exact ⟨_, _, _, q⟩)
  have HW := Lib.hid hW
  clear h h2 ha hb hn hW
  unfold iAgg
  simp only at *
  go_enter Tryz.func87, Tryz.ntmps87
  go_wp2
  rw [HW.out]
  go_region
  all_goals go_wp2
  all_goals go_ret
  all_goals exact ⟨rfl, E.out⟩
end Go.Proofs.YtpfjnnkjoabgbaaGreatDoor

namespace Go.Proofs.YtpfjnnkjoabgbaaGreatDoor
open Go.RowKit
set_option linter.unusedVariables false
set_option linter.unusedSimpArgs false
set_option maxRecDepth 100000 in
set_option maxHeartbeats 800000 in
theorem zero_deed {K : Kx} {w : World} {steps : Int} {r : Rn} (h : RoE K w steps r) (i : In) {x : Int} {l : List Int} (e : r.st = x :: l) (ha : 0 ≤ i.a) (hb : i.a ≤ 1000000) (hn : r.nx ≤ 1000000) : Calls Tryz.prog 88 #[.pointer (some ⟨K.rb, 0, none⟩), iAgg i] w fun e w' => e = .returned (.int .i64 0) ∧ RoE K w' steps (if x = 0 then { r with nx := r.nx + i.a.toNat, st := l } else { r with st := l }) := by
  have K1 := Lib.hid (mtake_any (h.lat (allocBP w (.cells #[.int .i64 i.o, .int .i64 i.a, .int .i64 i.b] 68))) e)
  have IB := Lib.hid (p := BkP (w.alloc (.cells #[.int .i64 i.o, .int .i64 i.a, .int .i64 i.b] 68)) w.heap.size #[.int .i64 i.o, .int .i64 i.a, .int .i64 i.b] 68) (heapN _ _)
  have KJ := Lib.hid (fun V (hV : RoE K V steps { r with st := l }) => jump_deed hV i ha hb hn)
  clear h e ha hb hn
  unfold iAgg at KJ ⊢
  obtain ⟨io, ia, ib⟩ := i
  simp only at *
  by_cases z : x = 0
  · have z1 : (x == 0) = true := by simpa using z
    rw [if_pos z]
    clear z
    go_enter Tryz.func88, Tryz.ntmps88
    go_wp2_with (first | (go_at_call 109; refine K1.out.mono ?_; rintro e w1 ⟨rfl, h1, s1⟩; have H1 := Lib.hid h1; have I1 := s1 _ _ _ IB.out (by decide); have i0 := I1.cell 0; have i1 := I1.cell 1; have i2 := I1.cell 2; simp only [List.getElem?_toArray, List.getElem?_cons_zero, List.getElem?_cons_succ] at i0 i1 i2; clear h1 s1) | (go_at_call 87; refine (KJ.out w1 H1.out).mono ?_; rintro e w2 ⟨rfl, h1⟩; have H2 := Lib.hid h1; clear h1))
    go_ret
    exact ⟨rfl, H2.out⟩
  · have z1 : (x == 0) = false := by simpa using z
    rw [if_neg z]
    clear z
    go_enter Tryz.func88, Tryz.ntmps88
    go_wp2_with (go_at_call 109; refine K1.out.mono ?_; rintro e w1 ⟨rfl, h1, s1⟩; have H1 := Lib.hid h1; clear h1 s1)
    go_ret
    exact ⟨rfl, H1.out⟩
/-- A slot, an accumulator: where it lies. -/
theorem row_at {w : World} {B : Nat} {v : Value} {l : List Int} (h : OwZ w B v l) {i : Nat} (hi : i < l.length) : ∃ g cap, v = .slice (some ⟨g, 0, none⟩) l.length cap ∧ w.cell? ⟨g, i, none⟩ = some (.int .i64 (l.getD i 0)) := by
  obtain ⟨a, cap, rfl, _, f⟩ := h.form
  obtain ⟨g, rfl, _, _⟩ := f (by intro z; rw [z] at hi; simp at hi)
  exact ⟨g, cap, rfl, h.cell hi⟩
set_option maxRecDepth 100000 in
set_option maxHeartbeats 1600000 in
theorem get_deed {K : Kx} {w : World} {steps : Int} {r : Rn} (h : RoE K w steps r) (i : In) (ha : 0 ≤ i.a) (hi : i.a.toNat < r.sl.length) (hl : r.st.length ≤ 300000) : Calls Tryz.prog 68 #[.pointer (some ⟨K.rb, 0, none⟩), iAgg i] w fun e w' => e = .returned (.int .i64 0) ∧ RoE K w' steps (r.put (r.sl.getD i.a.toNat 0)) := by
  obtain ⟨io, ia, ib⟩ := i
  simp only at *
  obtain ⟨W, hW⟩ : ∃ W, w.alloc (.cells #[.int .i64 io, .int .i64 ia, .int .i64 ib] 68) = W := ⟨_, rfl⟩
  have h1 := h.lat (allocBP w (.cells #[.int .i64 io, .int .i64 ia, .int .i64 ib] 68))
  have i1 := (BkP.cell (heapN w (.cells #[.int .i64 io, .int .i64 ia, .int .i64 ib] 68)) 1)
  rw [hW] at h1 i1
  simp only [List.getElem?_toArray, List.getElem?_cons_zero, List.getElem?_cons_succ] at i1
  obtain ⟨stv, slv, flv, h2⟩ := id h1
  obtain ⟨g, cap, rfl, hc⟩ := row_at h2.sl hi
  have c6 := (run_cells h2).2.2.2.2.2.2.1
  have KP := Lib.hid (fun V (b : Below W.heap.size W V) => mput_any (h1.lat b) (r.sl.getD ia.toNat 0) (h2.r2 _ (getD_mem hi)) (by omega))
  obtain ⟨a, rfl⟩ : ∃ a : Nat, ia = (a : Int) := ⟨ia.toNat, by omega⟩
  simp only [Int.toNat_natCast] at *
  have a0 : ¬ (a : Int) < 0 := by omega
  have a1 : (a : Int) < (r.sl.length : Int) := by omega
  generalize r.sl.getD a 0 = v at *
  have HW := Lib.hid hW
  clear h h1 h2 ha hi hl hW
  unfold iAgg
  simp only at *
  go_enter Tryz.func68, Tryz.ntmps68
  go_wp2
  rw [HW.out]
  go_region_with (go_at_call 107; refine (KP.out _ (by first | exact Below.refl _ _ | exact drew1 _)).mono ?_; rintro e w1 ⟨rfl, h1⟩; have H1 := Lib.hid h1; clear h1)
  all_goals go_wp2
  all_goals go_ret
  all_goals exact ⟨rfl, H1.out⟩
end Go.Proofs.YtpfjnnkjoabgbaaGreatDoor

namespace Go.Proofs.YtpfjnnkjoabgbaaGreatDoor
open Go.RowKit
set_option linter.unusedVariables false
set_option linter.unusedSimpArgs false
theorem mach_cells {K : Kx} {w : World} {stv slv flv : Value} {steps : Int} {r : Rn} (h : RO K w stv slv flv steps r) : w.cell? ⟨K.mb, 1, none⟩ = some (.slice K.p.ua K.p.curs.length K.p.uc) ∧ w.cell? ⟨K.mb, 2, none⟩ = some (.slice K.p.pa K.p.pool.length K.p.pc) ∧ w.cell? ⟨K.mb, 11, none⟩ = some (.int .i64 K.today) ∧ w.cell? ⟨K.mb, 12, none⟩ = some (.int .i64 steps) ∧ w.cell? ⟨K.mb, 13, none⟩ = some K.cev ∧ w.cell? ⟨K.mb, 14, none⟩ = some K.pav := by
  refine ⟨?_, ?_, ?_, ?_, ?_, ?_⟩ <;> (rw [h.mb.cell]; rfl)
set_option maxRecDepth 100000 in
set_option maxHeartbeats 1600000 in
theorem constant_deed {K : Kx} {E : EvM} (hE : KE K E) {w : World} {steps : Int} {r : Rn} (h : RoE K w steps r) (i : In) (ha : 0 ≤ i.a) (hi : i.a.toNat < E.pool.length) (hl : r.st.length ≤ 300000) : Calls Tryz.prog 62 #[.pointer (some ⟨K.rb, 0, none⟩), iAgg i] w fun e w' => e = .returned (.int .i64 0) ∧ RoE K w' steps (r.put (E.pool.getD i.a.toNat 0)) := by
  obtain ⟨io, ia, ib⟩ := i
  simp only at *
  obtain ⟨W, hW⟩ : ∃ W, w.alloc (.cells #[.int .i64 io, .int .i64 ia, .int .i64 ib] 68) = W := ⟨_, rfl⟩
  have h1 := h.lat (allocBP w (.cells #[.int .i64 io, .int .i64 ia, .int .i64 ib] 68))
  have i1 := (BkP.cell (heapN w (.cells #[.int .i64 io, .int .i64 ia, .int .i64 ib] 68)) 1)
  rw [hW] at h1 i1
  simp only [List.getElem?_toArray, List.getElem?_cons_zero, List.getElem?_cons_succ] at i1
  obtain ⟨stv, slv, flv, h2⟩ := id h1
  obtain ⟨x, o, hpa, hc⟩ := hE.pool W h2.on _ hi
  have c0 := (run_cells h2).1
  have c2 := (mach_cells h2).2.1
  rw [hpa, hE.plen] at c2
  have KP := Lib.hid (fun V (b : Below W.heap.size W V) => mput_any (h1.lat b) (E.pool.getD ia.toNat 0) (hE.ip _ (getD_mem hi)) (by omega))
  obtain ⟨a, rfl⟩ : ∃ a : Nat, ia = (a : Int) := ⟨ia.toNat, by omega⟩
  simp only [Int.toNat_natCast] at *
  have a0 : ¬ (a : Int) < 0 := by omega
  have a1 : (a : Int) < (E.pool.length : Int) := by omega
  generalize E.pool.getD a 0 = v at *
  have HW := Lib.hid hW
  clear h h1 h2 ha hi hl hW hE hpa
  unfold iAgg
  simp only at *
  go_enter Tryz.func62, Tryz.ntmps62
  go_wp2
  rw [HW.out]
  go_region_with (go_at_call 107; refine (KP.out _ (by first | exact Below.refl _ _ | exact drew1 _)).mono ?_; rintro e w1 ⟨rfl, h1⟩; have H1 := Lib.hid h1; clear h1)
  all_goals go_wp2
  all_goals go_ret
  all_goals exact ⟨rfl, H1.out⟩
/-- An accumulator: where it lies. -/
theorem ce_at {w : World} {v : Value} {l : List Int} (h : CeR w v l) {i : Nat} (hi : i < l.length) : ∃ g cap, v = .slice (some ⟨g, 0, none⟩) l.length cap ∧ w.cell? ⟨g, i, none⟩ = some (.int .i64 (l.getD i 0)) ∧ w.frozen? ⟨g, i, none⟩ = false := by
  rcases h with ⟨rfl, _⟩ | h
  · simp at hi
  · obtain ⟨g, cap, rfl, q⟩ := row_at h hi
    exact ⟨g, cap, rfl, q, h.frozen i⟩
set_option maxRecDepth 100000 in
set_option maxHeartbeats 1600000 in
theorem load_deed {K : Kx} {w : World} {steps : Int} {r : Rn} (h : RoE K w steps r) (i : In) (ha : 0 ≤ i.a) (hi : i.a.toNat < r.ce.length) (hl : r.st.length ≤ 300000) : Calls Tryz.prog 65 #[.pointer (some ⟨K.rb, 0, none⟩), iAgg i] w fun e w' => e = .returned (.int .i64 0) ∧ RoE K w' steps (r.put (r.ce.getD i.a.toNat 0)) := by
  obtain ⟨io, ia, ib⟩ := i
  simp only at *
  obtain ⟨W, hW⟩ : ∃ W, w.alloc (.cells #[.int .i64 io, .int .i64 ia, .int .i64 ib] 68) = W := ⟨_, rfl⟩
  have h1 := h.lat (allocBP w (.cells #[.int .i64 io, .int .i64 ia, .int .i64 ib] 68))
  have i1 := (BkP.cell (heapN w (.cells #[.int .i64 io, .int .i64 ia, .int .i64 ib] 68)) 1)
  rw [hW] at h1 i1
  simp only [List.getElem?_toArray, List.getElem?_cons_zero, List.getElem?_cons_succ] at i1
  obtain ⟨stv, slv, flv, h2⟩ := id h1
  obtain ⟨g, cap, hpa, hc, _⟩ := ce_at h2.ce hi
  have c0 := (run_cells h2).1
  have c2 := (mach_cells h2).2.2.2.2.1
  rw [hpa] at c2
  have KP := Lib.hid (fun V (b : Below W.heap.size W V) => mput_any (h1.lat b) (r.ce.getD ia.toNat 0) (h2.r3 _ (getD_mem hi)) (by omega))
  obtain ⟨a, rfl⟩ : ∃ a : Nat, ia = (a : Int) := ⟨ia.toNat, by omega⟩
  simp only [Int.toNat_natCast] at *
  have a0 : ¬ (a : Int) < 0 := by omega
  have a1 : (a : Int) < (r.ce.length : Int) := by omega
  generalize r.ce.getD a 0 = v at *
  have HW := Lib.hid hW
  clear h h1 h2 ha hi hl hW hpa
  unfold iAgg
  simp only at *
  go_enter Tryz.func65, Tryz.ntmps65
  go_wp2
  rw [HW.out]
  go_region_with (go_at_call 107; refine (KP.out _ (by first | exact Below.refl _ _ | exact drew1 _)).mono ?_; rintro e w1 ⟨rfl, h1⟩; have H1 := Lib.hid h1; clear h1)
  all_goals go_wp2
  all_goals go_ret
  all_goals exact ⟨rfl, H1.out⟩
theorem OwZ.set {w : World} {B g cap n : Nat} {l : List Int} (h : OwZ w B (.slice (some ⟨g, 0, none⟩) n cap) l) {i : Nat} (hi : i < l.length) (x : Int) : OwZ (w.setCell ⟨g, i, none⟩ (.int .i64 x)) B (.slice (some ⟨g, 0, none⟩) n cap) (l.set i x) := by
  rcases h.2 with ⟨e, _⟩ | ⟨g', cap', cur, e, e2, e3, e4, e5, e6, e7⟩
  · injection e with e; cases e
  · injection e with e en ec
    injection e with e
    injection e with e
    subst e en ec
    refine ⟨by rw [zcs_len]; simp, .inr ⟨g, cap, cur.set! i (.int .i64 x), by rw [List.length_set], e2, ?_, by rw [List.length_set]; exact e4, e5, by simpa using e6, ?_⟩⟩
    · have := BkP.set2 (w := w) (b := g) (cs := cur) (t := 3) e3 i (.int .i64 x) (by omega)
      exact this
    · rw [List.length_set]
      have : zcs (l.set i x) = (zcs l).set i (.int .i64 x) := by simp [zcs]
      rw [this, ← e7, Array.set!_eq_setIfInBounds, Array.toList_setIfInBounds, List.take_set]
/-- An accumulator is set. -/
theorem ro_cell {K : Kx} {w : World} {stv slv flv : Value} {steps : Int} {r : Rn} (h : RO K w stv slv flv steps r) {g cap i : Nat} (hv : K.cev = .slice (some ⟨g, 0, none⟩) r.ce.length cap) (hi : i < r.ce.length) (x : Int) (hx : inR x) : RO K (w.setCell ⟨g, i, none⟩ (.int .i64 x)) stv slv flv steps { r with ce := r.ce.set i x } := by
  have ob : K.cev.ownBlock = some g := by rw [hv]; rfl
  have hc : OwZ w 0 K.cev r.ce := by
    rcases h.ce with ⟨q, _⟩ | q
    · rw [q] at hi; simp at hi
    · exact q
  have gB := h.cB g ob
  have gm : g ≠ K.mb := fun e => own_neB hc h.mb (by decide) (by rw [ob, e])
  have keep : ∀ {t : TypeId} {k : Nat} {u : Value} {n : Nat} {xs : List Value}, w.ownsRow K.B t k u n xs → (w.setCell ⟨g, i, none⟩ (.int .i64 x)).ownsRow K.B t k u n xs := fun q => own_blkG q (fun y hy => bk_block (by have := (World.ownsRow.lt q y hy).1; omega))
  refine ⟨h.os, h.tape, h.out, by rw [set_size]; exact h.sz, fun k hk => (bk_block (fun z => h.dc g ob (by rw [← z]; exact hk))).trans (h.fr k hk), h.rb.other _ _ _ (by have := h.rB; omega), h.rB, h.mb.other _ _ _ gm, h.mB, keep h.st, keep h.sl, keep h.fl, h.ap, .inr ?_, h.cB, h.r1, h.r2, ?_, h.dl, h.dr, h.dm, h.dc, h.d1, h.d2, h.d3⟩
  · rw [hv] at hc ⊢
    exact hc.set hi x
  · intro y hy
    rcases List.mem_or_eq_of_mem_set hy with q | q
    · exact h.r3 y q
    · rw [q]; exact hx
end Go.Proofs.YtpfjnnkjoabgbaaGreatDoor

namespace Go.Proofs.YtpfjnnkjoabgbaaGreatDoor
open Go.RowKit
set_option linter.unusedVariables false
set_option linter.unusedSimpArgs false
set_option maxRecDepth 100000 in
set_option maxHeartbeats 3200000 in
theorem store_deed {K : Kx} {w : World} {steps : Int} {r : Rn} (h : RoE K w steps r) (i : In) (ha : 0 ≤ i.a) (hi : i.a.toNat < r.ce.length) {x : Int} {l : List Int} (e : r.st = x :: l) : Calls Tryz.prog 66 #[.pointer (some ⟨K.rb, 0, none⟩), iAgg i] w fun e w' => e = .returned (.int .i64 0) ∧ RoE K w' steps { r with ce := r.ce.set i.a.toNat x, st := l } := by
  obtain ⟨io, ia, ib⟩ := i
  simp only at *
  obtain ⟨W, hW⟩ : ∃ W, w.alloc (.cells #[.int .i64 io, .int .i64 ia, .int .i64 ib] 68) = W := ⟨_, rfl⟩
  have h1 := h.lat (allocBP w (.cells #[.int .i64 io, .int .i64 ia, .int .i64 ib] 68))
  have IB : BkP (w.alloc (.cells #[.int .i64 io, .int .i64 ia, .int .i64 ib] 68)) w.heap.size #[.int .i64 io, .int .i64 ia, .int .i64 ib] 68 := heapN _ _
  rw [hW] at h1 IB
  have i1 := IB.cell 1
  simp only [List.getElem?_toArray, List.getElem?_cons_zero, List.getElem?_cons_succ] at i1
  obtain ⟨stv, slv, flv, h2⟩ := id h1
  obtain ⟨g, cap, hpa, hc, _⟩ := ce_at h2.ce hi
  have c0 := (run_cells h2).1
  have c2 := (mach_cells h2).2.2.2.2.1
  rw [hpa] at c2
  have rx : inR x := h2.r1 x (by rw [e]; simp)
  have KT := Lib.hid (fun V (b : Below W.heap.size W V) => mtake_any (h1.lat b) e)
  obtain ⟨a, rfl⟩ : ∃ a : Nat, ia = (a : Int) := ⟨ia.toNat, by omega⟩
  simp only [Int.toNat_natCast] at *
  have AF := Lib.hid (p := ∀ V w1, Below W.heap.size W V → RoE K w1 steps { r with st := l } → Sty V w1 → w1.cell? ⟨K.rb, 0, none⟩ = some (.pointer (some ⟨K.mb, 0, none⟩)) ∧ w1.cell? ⟨K.mb, 13, none⟩ = some (.slice (some ⟨g, 0, none⟩) r.ce.length cap) ∧ w1.cell? ⟨w.heap.size, 1, none⟩ = some (.int .i64 (a : Int)) ∧ w1.cell? ⟨g, a, none⟩ = some (.int .i64 (r.ce.getD a 0)) ∧ w1.frozen? ⟨g, a, none⟩ = false ∧ ∀ V2, Below w1.heap.size w1 V2 → RoE K (V2.setCell ⟨g, a, none⟩ (.int .i64 x)) steps { r with ce := r.ce.set a x, st := l }) (fun V w1 b hr s => by
    obtain ⟨stv, slv, flv, q⟩ := hr
    have ib := (s _ _ _ (IB.lat b) (by decide)).cell 1
    simp only [List.getElem?_toArray, List.getElem?_cons_zero, List.getElem?_cons_succ] at ib
    have cc := q.ce
    obtain ⟨g', cap', hp', hc', hf'⟩ := ce_at cc hi
    simp only at hp'
    have m := (mach_cells q).2.2.2.2.1
    rw [hpa] at hp' m
    injection hp' with p1 p2 p3
    injection p1 with p1
    injection p1 with p1
    subst p1
    exact ⟨(run_cells q).1, m, ib, hc', hf', fun V2 b2 => ⟨_, _, _, ro_cell (r := { r with st := l }) (q.lat b2) hpa hi x rx⟩⟩)
  have a0 : ¬ (a : Int) < 0 := by omega
  have a1 : (a : Int) < (r.ce.length : Int) := by omega
  have HW := Lib.hid hW
  clear h h1 h2 ha hi hW hpa IB rx e
  unfold iAgg
  simp only at *
  go_enter Tryz.func66, Tryz.ntmps66
  go_wp2
  rw [HW.out]
  go_region_with (go_at_call 109; refine (KT.out _ (by first | exact Below.refl _ _ | exact drew1 _)).mono ?_; rintro e w1 ⟨rfl, h1, s1⟩; obtain ⟨y0, y1, y2, y3, y4, y5⟩ := AF.out _ w1 (by first | exact Below.refl _ _ | exact drew1 _) h1 s1; have Y5 := Lib.hid y5; clear h1 s1 y5)
  all_goals go_wp2
  all_goals go_ret
  all_goals first
    | exact ⟨rfl, Y5.out _ (Below.refl _ _)⟩
    | exact ⟨rfl, Y5.out _ (drew1 _)⟩
end Go.Proofs.YtpfjnnkjoabgbaaGreatDoor
