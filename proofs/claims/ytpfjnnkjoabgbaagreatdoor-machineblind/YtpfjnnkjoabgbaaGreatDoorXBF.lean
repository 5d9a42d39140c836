import Derived.Test.YtpfjnnkjoabgbaaGreatDoorXBD
import Derived.Test.YtpfjnnkjoabgbaaGreatDoorXBE
import Derived.Test.YtpfjnnkjoabgbaaGreatDoorXAI
import Derived.Test.YtpfjnnkjoabgbaaGreatDoorXBA
namespace Go.Proofs.YtpfjnnkjoabgbaaGreatDoor
open Go.RowKit
set_option linter.unusedVariables false
set_option linter.unusedSimpArgs false
/-- What an instruction may rely on. -/
structure DPre (E : EvM) (i : In) (r : Rn) : Prop where
  ok : i.okP
  tk : tkA i.o.toNat ≤ r.st.length
  i1 : i.o.toNat = 1 → i.a.toNat < E.pool.length
  i3 : i.o.toNat = 3 → i.b.toNat ≤ E.past.length ∧ i.a.toNat < (E.seen i.b.toNat).length
  i4 : i.o.toNat = 4 ∨ i.o.toNat = 5 → i.a.toNat < r.ce.length
  i7 : i.o.toNat = 7 → i.a.toNat < r.sl.length
  i28 : i.o.toNat = 28 → i.a.toNat < E.curs.length
  st : r.st.length ≤ 300000
  sl : r.sl.length ≤ 1000000
  fl : r.fl.length ≤ 300000
  nx : r.nx ≤ 1000000
  pa : E.past.length ≤ 100000
theorem okP_a {i : In} (h : i.okP) : 0 ≤ i.a ∧ i.a ≤ 262143 ∧ 0 ≤ i.b := by
  have k : i.o.toNat < 29 := by have := h.1; have := h.2.1; omega
  have t := (tab_facts _ k).2.1
  have := h.2.2.1
  have := h.2.2.2.1
  have := h.2.2.2.2.1
  omega
theorem mid_res {E : EvM} {i : In} {r : Rn} (h : 9 ≤ i.o.toNat ∧ i.o.toNat ≤ 25) {v f : Int} (e : mOp i.o.toNat i.a (argX (tkA i.o.toNat) r.st) (argY (tkA i.o.toNat) r.st) (argZ r.st) = (v, f)) : mDo E i r = (f, resR (r.cut (tkA i.o.toNat)) v f) := by
  rw [mDo_mid h, e]
  unfold resR
  by_cases z : f = 0
  · simp [z]
  · simp [z]
theorem st_one {l : List Int} (h : 1 ≤ l.length) : ∃ x r, l = x :: r := by
  cases l with
  | nil => simp at h
  | cons x r => exact ⟨x, r, rfl⟩
theorem st_two {l : List Int} (h : 2 ≤ l.length) : ∃ y x r, l = y :: x :: r := by
  obtain ⟨y, r, rfl⟩ := st_one (by omega : 1 ≤ l.length)
  obtain ⟨x, r, rfl⟩ := st_one (by simpa using h : 1 ≤ r.length)
  exact ⟨y, x, r, rfl⟩
theorem st_three {l : List Int} (h : 3 ≤ l.length) : ∃ z y x r, l = z :: y :: x :: r := by
  obtain ⟨z, r, rfl⟩ := st_one (by omega : 1 ≤ l.length)
  obtain ⟨y, x, r, rfl⟩ := st_two (by simpa using h : 2 ≤ r.length)
  exact ⟨z, y, x, r, rfl⟩
theorem add_is {K : Kx} {E : EvM} (hE : KE K E) {w : World} {steps : Int} {r : Rn} (h : RoE K w steps r) (i : In) (d : DPre E i r) (hk : i.o.toNat = 9) : Calls Tryz.prog 70 #[.pointer (some ⟨K.rb, 0, none⟩), iAgg i] w fun e w' => e = .returned (.int .i64 (mDo E i r).1) ∧ RoE K w' steps (mDo E i r).2 := by
  have tk := d.tk
  rw [hk] at tk
  obtain ⟨y, x, l, e⟩ := st_two (show 2 ≤ r.st.length from tk)
  have hl : l.length ≤ 300000 := by have := d.st; rw [e] at this; simp at this; omega
  have m := mid_res (E := E) (i := i) (r := r) (by omega) (v := fitV (x + y)) (f := fitF (x + y)) (by rw [hk, e]; rfl)
  rw [m, hk]
  have c : r.cut (tkA 9) = { r with st := l } := by unfold Rn.cut; rw [e]; rfl
  rw [c]
  exact add_deed h i e hl
theorem sub_is {K : Kx} {E : EvM} (hE : KE K E) {w : World} {steps : Int} {r : Rn} (h : RoE K w steps r) (i : In) (d : DPre E i r) (hk : i.o.toNat = 10) : Calls Tryz.prog 71 #[.pointer (some ⟨K.rb, 0, none⟩), iAgg i] w fun e w' => e = .returned (.int .i64 (mDo E i r).1) ∧ RoE K w' steps (mDo E i r).2 := by
  have tk := d.tk
  rw [hk] at tk
  obtain ⟨y, x, l, e⟩ := st_two (show 2 ≤ r.st.length from tk)
  have hl : l.length ≤ 300000 := by have := d.st; rw [e] at this; simp at this; omega
  have m := mid_res (E := E) (i := i) (r := r) (by omega) (v := fitV (x - y)) (f := fitF (x - y)) (by rw [hk, e]; rfl)
  rw [m, hk]
  have c : r.cut (tkA 10) = { r with st := l } := by unfold Rn.cut; rw [e]; rfl
  rw [c]
  exact sub_deed h i e hl
theorem mul_is {K : Kx} {E : EvM} (hE : KE K E) {w : World} {steps : Int} {r : Rn} (h : RoE K w steps r) (i : In) (d : DPre E i r) (hk : i.o.toNat = 11) : Calls Tryz.prog 72 #[.pointer (some ⟨K.rb, 0, none⟩), iAgg i] w fun e w' => e = .returned (.int .i64 (mDo E i r).1) ∧ RoE K w' steps (mDo E i r).2 := by
  have tk := d.tk
  rw [hk] at tk
  obtain ⟨y, x, l, e⟩ := st_two (show 2 ≤ r.st.length from tk)
  have hl : l.length ≤ 300000 := by have := d.st; rw [e] at this; simp at this; omega
  have m := mid_res (E := E) (i := i) (r := r) (by omega) (v := fitV (x * y)) (f := fitF (x * y)) (by rw [hk, e]; rfl)
  rw [m, hk]
  have c : r.cut (tkA 11) = { r with st := l } := by unfold Rn.cut; rw [e]; rfl
  rw [c]
  exact mul_deed h i e hl
theorem div_is {K : Kx} {E : EvM} (hE : KE K E) {w : World} {steps : Int} {r : Rn} (h : RoE K w steps r) (i : In) (d : DPre E i r) (hk : i.o.toNat = 13) : Calls Tryz.prog 74 #[.pointer (some ⟨K.rb, 0, none⟩), iAgg i] w fun e w' => e = .returned (.int .i64 (mDo E i r).1) ∧ RoE K w' steps (mDo E i r).2 := by
  have tk := d.tk
  rw [hk] at tk
  obtain ⟨y, x, l, e⟩ := st_two (show 2 ≤ r.st.length from tk)
  have hl : l.length ≤ 300000 := by have := d.st; rw [e] at this; simp at this; omega
  have m := mid_res (E := E) (i := i) (r := r) (by omega) (v := divV x y) (f := divF x y) (by rw [hk, e]; rfl)
  rw [m, hk]
  have c : r.cut (tkA 13) = { r with st := l } := by unfold Rn.cut; rw [e]; rfl
  rw [c]
  exact div_deed h i e hl
theorem mod_is {K : Kx} {E : EvM} (hE : KE K E) {w : World} {steps : Int} {r : Rn} (h : RoE K w steps r) (i : In) (d : DPre E i r) (hk : i.o.toNat = 14) : Calls Tryz.prog 75 #[.pointer (some ⟨K.rb, 0, none⟩), iAgg i] w fun e w' => e = .returned (.int .i64 (mDo E i r).1) ∧ RoE K w' steps (mDo E i r).2 := by
  have tk := d.tk
  rw [hk] at tk
  obtain ⟨y, x, l, e⟩ := st_two (show 2 ≤ r.st.length from tk)
  have hl : l.length ≤ 300000 := by have := d.st; rw [e] at this; simp at this; omega
  have m := mid_res (E := E) (i := i) (r := r) (by omega) (v := modV x y) (f := modF y) (by rw [hk, e]; rfl)
  rw [m, hk]
  have c : r.cut (tkA 14) = { r with st := l } := by unfold Rn.cut; rw [e]; rfl
  rw [c]
  exact mod_deed h i e hl
theorem neg_is {K : Kx} {E : EvM} (hE : KE K E) {w : World} {steps : Int} {r : Rn} (h : RoE K w steps r) (i : In) (d : DPre E i r) (hk : i.o.toNat = 12) : Calls Tryz.prog 73 #[.pointer (some ⟨K.rb, 0, none⟩), iAgg i] w fun e w' => e = .returned (.int .i64 (mDo E i r).1) ∧ RoE K w' steps (mDo E i r).2 := by
  have tk := d.tk
  rw [hk] at tk
  obtain ⟨x, l, e⟩ := st_one (show 1 ≤ r.st.length from tk)
  have hl : l.length ≤ 300000 := by have := d.st; rw [e] at this; simp at this; omega
  have m := mid_res (E := E) (i := i) (r := r) (by omega) (v := fitV (-x)) (f := fitF (-x)) (by rw [hk, e]; rfl)
  rw [m, hk]
  have c : r.cut (tkA 12) = { r with st := l } := by unfold Rn.cut; rw [e]; rfl
  rw [c]
  exact neg_deed h i e hl
theorem abs_is {K : Kx} {E : EvM} (hE : KE K E) {w : World} {steps : Int} {r : Rn} (h : RoE K w steps r) (i : In) (d : DPre E i r) (hk : i.o.toNat = 15) : Calls Tryz.prog 76 #[.pointer (some ⟨K.rb, 0, none⟩), iAgg i] w fun e w' => e = .returned (.int .i64 (mDo E i r).1) ∧ RoE K w' steps (mDo E i r).2 := by
  have tk := d.tk
  rw [hk] at tk
  obtain ⟨x, l, e⟩ := st_one (show 1 ≤ r.st.length from tk)
  have hl : l.length ≤ 300000 := by have := d.st; rw [e] at this; simp at this; omega
  have m := mid_res (E := E) (i := i) (r := r) (by omega) (v := fitV (absI x)) (f := fitF (absI x)) (by rw [hk, e]; rfl)
  rw [m, hk]
  have c : r.cut (tkA 15) = { r with st := l } := by unfold Rn.cut; rw [e]; rfl
  rw [c]
  exact abs_deed h i e hl
theorem lesser_is {K : Kx} {E : EvM} (hE : KE K E) {w : World} {steps : Int} {r : Rn} (h : RoE K w steps r) (i : In) (d : DPre E i r) (hk : i.o.toNat = 16) : Calls Tryz.prog 77 #[.pointer (some ⟨K.rb, 0, none⟩), iAgg i] w fun e w' => e = .returned (.int .i64 (mDo E i r).1) ∧ RoE K w' steps (mDo E i r).2 := by
  have tk := d.tk
  rw [hk] at tk
  obtain ⟨y, x, l, e⟩ := st_two (show 2 ≤ r.st.length from tk)
  have hl : l.length ≤ 300000 := by have := d.st; rw [e] at this; simp at this; omega
  have m := mid_res (E := E) (i := i) (r := r) (by omega) (v := min x y) (f := 0) (by rw [hk, e]; rfl)
  rw [m, hk]
  have c : resR (r.cut (tkA 16)) (min x y) 0 = Rn.put { r with st := l } (min x y) := by unfold resR Rn.cut; rw [e, if_pos rfl]; rfl
  rw [c]
  exact lesser_deed h i e hl
theorem greater_is {K : Kx} {E : EvM} (hE : KE K E) {w : World} {steps : Int} {r : Rn} (h : RoE K w steps r) (i : In) (d : DPre E i r) (hk : i.o.toNat = 17) : Calls Tryz.prog 78 #[.pointer (some ⟨K.rb, 0, none⟩), iAgg i] w fun e w' => e = .returned (.int .i64 (mDo E i r).1) ∧ RoE K w' steps (mDo E i r).2 := by
  have tk := d.tk
  rw [hk] at tk
  obtain ⟨y, x, l, e⟩ := st_two (show 2 ≤ r.st.length from tk)
  have hl : l.length ≤ 300000 := by have := d.st; rw [e] at this; simp at this; omega
  have m := mid_res (E := E) (i := i) (r := r) (by omega) (v := max x y) (f := 0) (by rw [hk, e]; rfl)
  rw [m, hk]
  have c : resR (r.cut (tkA 17)) (max x y) 0 = Rn.put { r with st := l } (max x y) := by unfold resR Rn.cut; rw [e, if_pos rfl]; rfl
  rw [c]
  exact greater_deed h i e hl
theorem lt_is {K : Kx} {E : EvM} (hE : KE K E) {w : World} {steps : Int} {r : Rn} (h : RoE K w steps r) (i : In) (d : DPre E i r) (hk : i.o.toNat = 19) : Calls Tryz.prog 80 #[.pointer (some ⟨K.rb, 0, none⟩), iAgg i] w fun e w' => e = .returned (.int .i64 (mDo E i r).1) ∧ RoE K w' steps (mDo E i r).2 := by
  have tk := d.tk
  rw [hk] at tk
  obtain ⟨y, x, l, e⟩ := st_two (show 2 ≤ r.st.length from tk)
  have hl : l.length ≤ 300000 := by have := d.st; rw [e] at this; simp at this; omega
  have m := mid_res (E := E) (i := i) (r := r) (by omega) (v := trI (decide (x < y))) (f := 0) (by rw [hk, e]; rfl)
  rw [m, hk]
  have c : resR (r.cut (tkA 19)) (trI (decide (x < y))) 0 = Rn.put { r with st := l } (trI (decide (x < y))) := by unfold resR Rn.cut; rw [e, if_pos rfl]; rfl
  rw [c]
  exact lt_deed h i e hl
theorem le_is {K : Kx} {E : EvM} (hE : KE K E) {w : World} {steps : Int} {r : Rn} (h : RoE K w steps r) (i : In) (d : DPre E i r) (hk : i.o.toNat = 20) : Calls Tryz.prog 81 #[.pointer (some ⟨K.rb, 0, none⟩), iAgg i] w fun e w' => e = .returned (.int .i64 (mDo E i r).1) ∧ RoE K w' steps (mDo E i r).2 := by
  have tk := d.tk
  rw [hk] at tk
  obtain ⟨y, x, l, e⟩ := st_two (show 2 ≤ r.st.length from tk)
  have hl : l.length ≤ 300000 := by have := d.st; rw [e] at this; simp at this; omega
  have m := mid_res (E := E) (i := i) (r := r) (by omega) (v := trI (decide (x ≤ y))) (f := 0) (by rw [hk, e]; rfl)
  rw [m, hk]
  have c : resR (r.cut (tkA 20)) (trI (decide (x ≤ y))) 0 = Rn.put { r with st := l } (trI (decide (x ≤ y))) := by unfold resR Rn.cut; rw [e, if_pos rfl]; rfl
  rw [c]
  exact le_deed h i e hl
theorem gt_is {K : Kx} {E : EvM} (hE : KE K E) {w : World} {steps : Int} {r : Rn} (h : RoE K w steps r) (i : In) (d : DPre E i r) (hk : i.o.toNat = 21) : Calls Tryz.prog 82 #[.pointer (some ⟨K.rb, 0, none⟩), iAgg i] w fun e w' => e = .returned (.int .i64 (mDo E i r).1) ∧ RoE K w' steps (mDo E i r).2 := by
  have tk := d.tk
  rw [hk] at tk
  obtain ⟨y, x, l, e⟩ := st_two (show 2 ≤ r.st.length from tk)
  have hl : l.length ≤ 300000 := by have := d.st; rw [e] at this; simp at this; omega
  have m := mid_res (E := E) (i := i) (r := r) (by omega) (v := trI (decide (y < x))) (f := 0) (by rw [hk, e]; rfl)
  rw [m, hk]
  have c : resR (r.cut (tkA 21)) (trI (decide (y < x))) 0 = Rn.put { r with st := l } (trI (decide (y < x))) := by unfold resR Rn.cut; rw [e, if_pos rfl]; rfl
  rw [c]
  exact gt_deed h i e hl
theorem ge_is {K : Kx} {E : EvM} (hE : KE K E) {w : World} {steps : Int} {r : Rn} (h : RoE K w steps r) (i : In) (d : DPre E i r) (hk : i.o.toNat = 22) : Calls Tryz.prog 83 #[.pointer (some ⟨K.rb, 0, none⟩), iAgg i] w fun e w' => e = .returned (.int .i64 (mDo E i r).1) ∧ RoE K w' steps (mDo E i r).2 := by
  have tk := d.tk
  rw [hk] at tk
  obtain ⟨y, x, l, e⟩ := st_two (show 2 ≤ r.st.length from tk)
  have hl : l.length ≤ 300000 := by have := d.st; rw [e] at this; simp at this; omega
  have m := mid_res (E := E) (i := i) (r := r) (by omega) (v := trI (decide (y ≤ x))) (f := 0) (by rw [hk, e]; rfl)
  rw [m, hk]
  have c : resR (r.cut (tkA 22)) (trI (decide (y ≤ x))) 0 = Rn.put { r with st := l } (trI (decide (y ≤ x))) := by unfold resR Rn.cut; rw [e, if_pos rfl]; rfl
  rw [c]
  exact ge_deed h i e hl
theorem eq_is {K : Kx} {E : EvM} (hE : KE K E) {w : World} {steps : Int} {r : Rn} (h : RoE K w steps r) (i : In) (d : DPre E i r) (hk : i.o.toNat = 23) : Calls Tryz.prog 84 #[.pointer (some ⟨K.rb, 0, none⟩), iAgg i] w fun e w' => e = .returned (.int .i64 (mDo E i r).1) ∧ RoE K w' steps (mDo E i r).2 := by
  have tk := d.tk
  rw [hk] at tk
  obtain ⟨y, x, l, e⟩ := st_two (show 2 ≤ r.st.length from tk)
  have hl : l.length ≤ 300000 := by have := d.st; rw [e] at this; simp at this; omega
  have m := mid_res (E := E) (i := i) (r := r) (by omega) (v := trI (x == y)) (f := 0) (by rw [hk, e]; rfl)
  rw [m, hk]
  have c : resR (r.cut (tkA 23)) (trI (x == y)) 0 = Rn.put { r with st := l } (trI (x == y)) := by unfold resR Rn.cut; rw [e, if_pos rfl]; rfl
  rw [c]
  exact eq_deed h i e hl
theorem ne_is {K : Kx} {E : EvM} (hE : KE K E) {w : World} {steps : Int} {r : Rn} (h : RoE K w steps r) (i : In) (d : DPre E i r) (hk : i.o.toNat = 24) : Calls Tryz.prog 85 #[.pointer (some ⟨K.rb, 0, none⟩), iAgg i] w fun e w' => e = .returned (.int .i64 (mDo E i r).1) ∧ RoE K w' steps (mDo E i r).2 := by
  have tk := d.tk
  rw [hk] at tk
  obtain ⟨y, x, l, e⟩ := st_two (show 2 ≤ r.st.length from tk)
  have hl : l.length ≤ 300000 := by have := d.st; rw [e] at this; simp at this; omega
  have m := mid_res (E := E) (i := i) (r := r) (by omega) (v := trI (x != y)) (f := 0) (by rw [hk, e]; rfl)
  rw [m, hk]
  have c : resR (r.cut (tkA 24)) (trI (x != y)) 0 = Rn.put { r with st := l } (trI (x != y)) := by unfold resR Rn.cut; rw [e, if_pos rfl]; rfl
  rw [c]
  exact ne_deed h i e hl
theorem not_is {K : Kx} {E : EvM} (hE : KE K E) {w : World} {steps : Int} {r : Rn} (h : RoE K w steps r) (i : In) (d : DPre E i r) (hk : i.o.toNat = 25) : Calls Tryz.prog 86 #[.pointer (some ⟨K.rb, 0, none⟩), iAgg i] w fun e w' => e = .returned (.int .i64 (mDo E i r).1) ∧ RoE K w' steps (mDo E i r).2 := by
  have tk := d.tk
  rw [hk] at tk
  obtain ⟨x, l, e⟩ := st_one (show 1 ≤ r.st.length from tk)
  have hl : l.length ≤ 300000 := by have := d.st; rw [e] at this; simp at this; omega
  have m := mid_res (E := E) (i := i) (r := r) (by omega) (v := trI (x == 0)) (f := 0) (by rw [hk, e]; rfl)
  rw [m, hk]
  have c : resR (r.cut (tkA 25)) (trI (x == 0)) 0 = Rn.put { r with st := l } (trI (x == 0)) := by unfold resR Rn.cut; rw [e, if_pos rfl]; rfl
  rw [c]
  exact not_deed h i e hl
theorem ratio_is {K : Kx} {E : EvM} (hE : KE K E) {w : World} {steps : Int} {r : Rn} (h : RoE K w steps r) (i : In) (d : DPre E i r) (hk : i.o.toNat = 18) : Calls Tryz.prog 79 #[.pointer (some ⟨K.rb, 0, none⟩), iAgg i] w fun e w' => e = .returned (.int .i64 (mDo E i r).1) ∧ RoE K w' steps (mDo E i r).2 := by
  have tk := d.tk
  rw [hk] at tk
  obtain ⟨z, y, x, l, e⟩ := st_three (show 3 ≤ r.st.length from tk)
  have hl : l.length ≤ 300000 := by have := d.st; rw [e] at this; simp at this; omega
  have m := mid_res (E := E) (i := i) (r := r) (by omega) (v := raV x y z i.a) (f := raF x y z i.a) (by
    rw [hk, e]
    show (if z = 0 then ((0 : Int), (2 : Int)) else (fitV (ratN x y z i.a), fitF (ratN x y z i.a))) = _
    unfold raV raF
    split <;> rfl)
  rw [m, hk]
  have c : r.cut (tkA 18) = { r with st := l } := by unfold Rn.cut; rw [e]; rfl
  rw [c]
  exact ratio_deed h i e hl
theorem end_is {K : Kx} {E : EvM} (hE : KE K E) {w : World} {steps : Int} {r : Rn} (h : RoE K w steps r) (i : In) (d : DPre E i r) (hk : i.o.toNat = 0) : Calls Tryz.prog 61 #[.pointer (some ⟨K.rb, 0, none⟩), iAgg i] w fun e w' => e = .returned (.int .i64 (mDo E i r).1) ∧ RoE K w' steps (mDo E i r).2 := by
  have m : mDo E i r = (0, { r with en := true }) := by unfold mDo; rw [hk]; rfl
  rw [m]
  exact end_deed h i
theorem constant_is {K : Kx} {E : EvM} (hE : KE K E) {w : World} {steps : Int} {r : Rn} (h : RoE K w steps r) (i : In) (d : DPre E i r) (hk : i.o.toNat = 1) : Calls Tryz.prog 62 #[.pointer (some ⟨K.rb, 0, none⟩), iAgg i] w fun e w' => e = .returned (.int .i64 (mDo E i r).1) ∧ RoE K w' steps (mDo E i r).2 := by
  have m : mDo E i r = (0, r.put (E.pool.getD i.a.toNat 0)) := by unfold mDo; rw [hk]; rfl
  rw [m]
  exact constant_deed hE h i (okP_a d.ok).1 (d.i1 hk) d.st
theorem truth_is {K : Kx} {E : EvM} (hE : KE K E) {w : World} {steps : Int} {r : Rn} (h : RoE K w steps r) (i : In) (d : DPre E i r) (hk : i.o.toNat = 2) : Calls Tryz.prog 63 #[.pointer (some ⟨K.rb, 0, none⟩), iAgg i] w fun e w' => e = .returned (.int .i64 (mDo E i r).1) ∧ RoE K w' steps (mDo E i r).2 := by
  have m : mDo E i r = (0, r.put i.a) := by unfold mDo; rw [hk]; rfl
  rw [m]
  exact truth_deed h i (by have := okP_a d.ok; unfold inR; omega) d.st
theorem observe_is {K : Kx} {E : EvM} (hE : KE K E) {w : World} {steps : Int} {r : Rn} (h : RoE K w steps r) (i : In) (d : DPre E i r) (hk : i.o.toNat = 3) : Calls Tryz.prog 64 #[.pointer (some ⟨K.rb, 0, none⟩), iAgg i] w fun e w' => e = .returned (.int .i64 (mDo E i r).1) ∧ RoE K w' steps (mDo E i r).2 := by
  have m : (mDo E i r).1 = (if ((E.seen i.b.toNat).getD i.a.toNat default).h then 0 else 3) ∧ (mDo E i r).2 = (if ((E.seen i.b.toNat).getD i.a.toNat default).h then r.put ((E.seen i.b.toNat).getD i.a.toNat default).v else r) := by
    unfold mDo
    rw [hk]
    simp only
    split <;> exact ⟨rfl, rfl⟩
  rw [m.1, m.2]
  exact observe_deed hE h i (okP_a d.ok).1 (okP_a d.ok).2.2 (d.i3 hk).1 (d.i3 hk).2 d.pa d.st
theorem load_is {K : Kx} {E : EvM} (hE : KE K E) {w : World} {steps : Int} {r : Rn} (h : RoE K w steps r) (i : In) (d : DPre E i r) (hk : i.o.toNat = 4) : Calls Tryz.prog 65 #[.pointer (some ⟨K.rb, 0, none⟩), iAgg i] w fun e w' => e = .returned (.int .i64 (mDo E i r).1) ∧ RoE K w' steps (mDo E i r).2 := by
  have m : mDo E i r = (0, r.put (r.ce.getD i.a.toNat 0)) := by unfold mDo; rw [hk]; rfl
  rw [m]
  exact load_deed h i (okP_a d.ok).1 (d.i4 (.inl hk)) d.st
theorem store_is {K : Kx} {E : EvM} (hE : KE K E) {w : World} {steps : Int} {r : Rn} (h : RoE K w steps r) (i : In) (d : DPre E i r) (hk : i.o.toNat = 5) : Calls Tryz.prog 66 #[.pointer (some ⟨K.rb, 0, none⟩), iAgg i] w fun e w' => e = .returned (.int .i64 (mDo E i r).1) ∧ RoE K w' steps (mDo E i r).2 := by
  have tk := d.tk
  rw [hk] at tk
  obtain ⟨x, l, e⟩ := st_one (show 1 ≤ r.st.length from tk)
  have m : mDo E i r = (0, { r with ce := r.ce.set i.a.toNat x, st := l }) := by unfold mDo; rw [hk, e]; rfl
  rw [m]
  exact store_deed h i (okP_a d.ok).1 (d.i4 (.inr hk)) e
theorem keep_is {K : Kx} {E : EvM} (hE : KE K E) {w : World} {steps : Int} {r : Rn} (h : RoE K w steps r) (i : In) (d : DPre E i r) (hk : i.o.toNat = 6) : Calls Tryz.prog 67 #[.pointer (some ⟨K.rb, 0, none⟩), iAgg i] w fun e w' => e = .returned (.int .i64 (mDo E i r).1) ∧ RoE K w' steps (mDo E i r).2 := by
  have tk := d.tk
  rw [hk] at tk
  obtain ⟨x, l, e⟩ := st_one (show 1 ≤ r.st.length from tk)
  have m : mDo E i r = (0, { r with sl := slSet r.sl i.a.toNat x }) := by unfold mDo; rw [hk, e]; rfl
  rw [m]
  have a := okP_a d.ok
  unfold slSet
  by_cases z : i.a.toNat < r.sl.length
  · rw [show i.a.toNat + 1 - r.sl.length = 0 by omega, List.replicate_zero, List.append_nil]
    exact keep_old h i a.1 z d.sl e
  · exact keep_new h i a.1 (by omega) (by omega) e
theorem get_is {K : Kx} {E : EvM} (hE : KE K E) {w : World} {steps : Int} {r : Rn} (h : RoE K w steps r) (i : In) (d : DPre E i r) (hk : i.o.toNat = 7) : Calls Tryz.prog 68 #[.pointer (some ⟨K.rb, 0, none⟩), iAgg i] w fun e w' => e = .returned (.int .i64 (mDo E i r).1) ∧ RoE K w' steps (mDo E i r).2 := by
  have m : mDo E i r = (0, r.put (r.sl.getD i.a.toNat 0)) := by unfold mDo; rw [hk]; rfl
  rw [m]
  exact get_deed h i (okP_a d.ok).1 (d.i7 hk) d.st
theorem drop_is {K : Kx} {E : EvM} (hE : KE K E) {w : World} {steps : Int} {r : Rn} (h : RoE K w steps r) (i : In) (d : DPre E i r) (hk : i.o.toNat = 8) : Calls Tryz.prog 69 #[.pointer (some ⟨K.rb, 0, none⟩), iAgg i] w fun e w' => e = .returned (.int .i64 (mDo E i r).1) ∧ RoE K w' steps (mDo E i r).2 := by
  have tk := d.tk
  rw [hk] at tk
  obtain ⟨x, l, e⟩ := st_one (show 1 ≤ r.st.length from tk)
  have m : mDo E i r = (0, { r with st := l }) := by unfold mDo Rn.cut; rw [hk, e]; rfl
  rw [m]
  exact drop_deed h i e
theorem jump_is {K : Kx} {E : EvM} (hE : KE K E) {w : World} {steps : Int} {r : Rn} (h : RoE K w steps r) (i : In) (d : DPre E i r) (hk : i.o.toNat = 26) : Calls Tryz.prog 87 #[.pointer (some ⟨K.rb, 0, none⟩), iAgg i] w fun e w' => e = .returned (.int .i64 (mDo E i r).1) ∧ RoE K w' steps (mDo E i r).2 := by
  have m : mDo E i r = (0, { r with nx := r.nx + i.a.toNat }) := by unfold mDo; rw [hk]; rfl
  rw [m]
  have a := okP_a d.ok
  exact jump_deed h i a.1 (by omega) d.nx
theorem zero_is {K : Kx} {E : EvM} (hE : KE K E) {w : World} {steps : Int} {r : Rn} (h : RoE K w steps r) (i : In) (d : DPre E i r) (hk : i.o.toNat = 27) : Calls Tryz.prog 88 #[.pointer (some ⟨K.rb, 0, none⟩), iAgg i] w fun e w' => e = .returned (.int .i64 (mDo E i r).1) ∧ RoE K w' steps (mDo E i r).2 := by
  have tk := d.tk
  rw [hk] at tk
  obtain ⟨x, l, e⟩ := st_one (show 1 ≤ r.st.length from tk)
  have m : mDo E i r = (0, if x = 0 then { r with nx := r.nx + i.a.toNat, st := l } else { r with st := l }) := by unfold mDo Rn.cut; rw [hk, e]; rfl
  rw [m]
  have a := okP_a d.ok
  exact zero_deed h i e a.1 (by omega) d.nx
theorem flow_is {K : Kx} {E : EvM} (hE : KE K E) {w : World} {steps : Int} {r : Rn} (h : RoE K w steps r) (i : In) (d : DPre E i r) (hk : i.o.toNat = 28) : Calls Tryz.prog 89 #[.pointer (some ⟨K.rb, 0, none⟩), iAgg i] w fun e w' => e = .returned (.int .i64 (mDo E i r).1) ∧ RoE K w' steps (mDo E i r).2 := by
  have tk := d.tk
  rw [hk] at tk
  obtain ⟨x, l, e⟩ := st_one (show 1 ≤ r.st.length from tk)
  have m : mDo E i r = (0, { r with fl := r.fl ++ [⟨E.t, E.curs.getD i.a.toNat ⟨#[]⟩, x⟩], st := l }) := by unfold mDo; rw [hk, e]; rfl
  rw [m]
  exact flow_deed hE h i (okP_a d.ok).1 (d.i28 hk) e d.fl
end Go.Proofs.YtpfjnnkjoabgbaaGreatDoor

namespace Go.Proofs.YtpfjnnkjoabgbaaGreatDoor
set_option linter.unusedVariables false
set_option linter.unusedSimpArgs false
/-- What is so at each place of a day's code that is being done. -/
structure Iv (day : Int) (code : List In) (nc : Nat) (r : Rn) : Prop where
  s : Sits day code r
  st : r.st.length ≤ r.nx
  fl : r.fl.length ≤ r.nx
  sl : r.sl.length ≤ 262144
  ce : r.ce.length = nc
/-- How much an instruction makes longer. -/
theorem mDo_sizes {E : EvM} {i : In} {r : Rn} (hi : i.okP) : (mDo E i r).2.st.length ≤ r.st.length + 1 ∧ (mDo E i r).2.fl.length ≤ r.fl.length + 1 ∧ (mDo E i r).2.sl.length ≤ max r.sl.length 262144 ∧ (mDo E i r).2.ce.length = r.ce.length := by
  have ia := okP_a hi
  unfold mDo
  split
  all_goals first
    | (refine ⟨?_, ?_, ?_, ?_⟩ <;> simp [Rn.put, Rn.cut, slSet_len] <;> omega)
    | (split <;> refine ⟨?_, ?_, ?_, ?_⟩ <;> simp [Rn.put, Rn.cut, slSet_len] <;> omega)
theorem iv_next {day : Int} {code : List In} {nc : Nat} (h : (vRun day code code.length).1 = 0) (ok : ∀ k, k < code.length → (code.getD k default).okP ∧ ((code.getD k default).o = 0 ↔ k + 1 = code.length)) {r : Rn} (s : Iv day code nc r) {E : EvM} (g : (mAt E code r).1 = 0) (n : (mAt E code r).2.en = false) : Iv day code nc (mAt E code r).2 ∧ r.nx < (mAt E code r).2.nx := by
  obtain ⟨a, b⟩ := sits_next h ok s.s g n
  have z := mDo_sizes (E := E) (r := { r with nx := r.nx + 1 }) (ok _ s.s.lt).1
  simp only at z
  have z1 := z.1
  have z2 := z.2.1
  have z3 := z.2.2.1
  have z4 := z.2.2.2
  have := s.st
  have := s.fl
  have := s.sl
  have q : mAt E code r = mDo E (code.getD r.nx default) { r with nx := r.nx + 1 } := rfl
  rw [← q] at z1 z2 z3 z4
  exact ⟨⟨a, by omega, by omega, by omega, by rw [z4]; exact s.ce⟩, b⟩
/-- A day's code of a program that was taken. -/
structure DayOk (p : Pg) (n : Nds) (t : Int) (code : List In) : Prop where
  run : (vRun t code code.length).1 = 0
  ok : ∀ k, k < code.length → (code.getD k default).okP ∧ ((code.getD k default).o = 0 ↔ k + 1 = code.length)
  inb : ∀ k, k < code.length → inB p (code.getD k default)
  back : ∀ k, k < code.length → (code.getD k default).o = 3 → (code.getD k default).b ≤ n.back
  len : code.length ≤ 262144
  pos : 0 < code.length
theorem vfyA_canM {p : Pg} (h : (vfyA p).1 = 0) : canP p ∧ vfyA p = vfy p := by
  unfold vfyA at h ⊢
  split at h
  · rename_i c; rw [if_pos c]; exact ⟨c, rfl⟩
  · simp at h
theorem tot_up {l : List Sg} {k : Nat} (h : k < l.length) : ∀ m, k < m → m ≤ l.length → (l.getD k default).code.length ≤ totN l m
  | 0, h0, _ => by omega
  | m + 1, h0, h1 => by
    rw [totN_next (by omega)]
    by_cases e : k = m
    · subst e; omega
    · have := tot_up h m (by omega) (by omega); omega
/-- The code of a day: of one of the segments, or none. -/
theorem dayCode_at (l : List Sg) (t : Int) : (dayCode l t = [] ∧ ∀ i, i < l.length → (l.getD i default).day ≠ t ∨ False) ∨ ∃ i, i < l.length ∧ (l.getD i default).day = t ∧ dayCode l t = (l.getD i default).code := by
  unfold dayCode
  cases hf : l.find? (fun s => decide (s.day = t)) with
  | none =>
    refine .inl ⟨rfl, fun i hi => .inl fun e => ?_⟩
    have := List.find?_eq_none.1 hf (l.getD i default) (getD_mem hi)
    simp only [decide_eq_true_eq] at this
    exact this e
  | some s =>
    have h1 := List.mem_of_find?_eq_some hf
    have h2 := List.find?_some hf
    obtain ⟨i, hi, rfl⟩ := List.getElem_of_mem h1
    refine .inr ⟨i, hi, ?_, ?_⟩
    · simpa [List.getD, hi] using h2
    · simp [List.getD, hi]
theorem dayOk_of {p : Pg} (h : (vfyA p).1 = 0) {t : Int} (hn : dayCode p.days t ≠ []) : DayOk p (vfyA p).2.2.2 t (dayCode p.days t) := by
  obtain ⟨c, e⟩ := vfyA_canM h
  rw [e] at h
  obtain ⟨v1, v2, v3⟩ := vfy_ok h
  rw [e, v3]
  rcases dayCode_at p.days t with ⟨q, _⟩ | ⟨i, hi, hd, q⟩
  · exact absurd q hn
  obtain ⟨c1, c2, c3, c4⟩ := c
  obtain ⟨u1, u2⟩ := c4.1 i hi
  have v0 := vAll_before v1 (k := i + 1) hi
  have vb := vAll_before v1 (k := i) (Nat.le_of_lt hi)
  rw [vAll_succ vb] at v0
  simp only at v0
  rw [q]
  refine ⟨by rw [← hd]; exact v0, fun k hk => ⟨(u2 k hk).2.1, (u2 k hk).1⟩, fun k hk => (u2 k hk).2.2, fun k hk => (all_upM p.days.length (Nat.le_refl _) v1 i hi k hk).2, ?_, by omega⟩
  have := tot_up hi p.days.length hi (Nat.le_refl _)
  have := c3.2
  omega
/-- A state in which a machine of a program may be, ahead of a day. -/
structure MsOk (p : Pg) (n : Nds) (s : Ms) : Prop where
  t0 : 0 ≤ s.today
  t1 : s.today ≤ p.hor + 1
  s0 : 0 ≤ s.steps
  s1 : s.steps ≤ s.today * 262144
  ce : s.cells.length = p.cells.toNat
  ci : ∀ x ∈ s.cells, inR x
  pl : (s.past.length : Int) = min s.today n.back
  pr : ∀ l ∈ s.past, l.length = p.names.length ∧ ∀ c ∈ l, inR c.v
  f0 : s.fault = 0 → s.day = 0
  f1 : inR s.fault ∧ inR s.day
theorem fitR_len (n : Nat) (row : List Cl) : (fitR n row).length = n := by simp [fitR]
theorem fitR_in {n : Nat} {row : List Cl} (h : ∀ c ∈ row, inR c.v) : ∀ c ∈ fitR n row, inR c.v := by
  intro c hc
  unfold fitR at hc
  simp only [List.mem_map, List.mem_range] at hc
  obtain ⟨j, hj, rfl⟩ := hc
  split
  · rename_i z
    by_cases q : j < row.length
    · exact h _ (getD_mem q)
    · exfalso
      have e : row.getD j default = default := by simp only [List.getD, List.getElem?_eq_none (by omega : row.length ≤ j), Option.getD_none]
      rw [e] at z
      exact absurd z (by decide)
  · simp [inR]
theorem dpre_of {p : Pg} {n : Nds} {s : Ms} {row : List Cl} {code : List In} (dk : DayOk p n s.today code) (hc : canP p) (ms : MsOk p n s) {r : Rn} (iv : Iv s.today code p.cells.toNat r) : DPre (p.env s row) (code.getD r.nx default) { r with nx := r.nx + 1 } := by
  obtain ⟨h1, h2, h3⟩ := sits_now dk.run iv.s
  have ok := (dk.ok _ iv.s.lt).1
  have ib := dk.inb _ iv.s.lt
  have bk := dk.back _ iv.s.lt
  have hl := dk.len
  have lt := iv.s.lt
  have i1 := iv.st
  have i2 := iv.fl
  have i3 := iv.sl
  have i4 := iv.ce
  have hp := numP_hor hc.1
  have t1 := ms.t1
  have pl := ms.pl
  have pb : s.past.length ≤ 100000 := by omega
  generalize code.getD r.nx default = i at *
  obtain ⟨b1, b2, b3, b4, b5⟩ := ib
  have o0 := ok.1
  have a0 := ok.2.2.1
  have b0 := ok.2.2.2.2.1
  refine ⟨ok, h1, fun e => ?_, fun e => ?_, fun e => ?_, h2, fun e => ?_, by simp only; omega, by simp only; omega, by simp only; omega, by simp only; omega, ?_⟩
  · have := b1 (by omega); show i.a.toNat < p.pool.length; omega
  · have q3 := h3 e
    have q4 := bk (by omega)
    have q5 := b2 (by omega)
    have le : i.b.toNat ≤ s.past.length := by omega
    refine ⟨le, ?_⟩
    show i.a.toNat < (EvM.seen (p.env s row) i.b.toNat).length
    unfold EvM.seen Pg.env
    simp only
    split
    · rw [fitR_len]; omega
    · have : s.past.getD (s.past.length - i.b.toNat) [] ∈ s.past := getD_mem (by omega)
      rw [(ms.pr _ this).1]; omega
  · have := b4 (by omega); show i.a.toNat < r.ce.length; omega
  · have := b3 (by omega); show i.a.toNat < p.curs.length; omega
  · exact pb
theorem mGo_on {E : EvM} {code : List In} {n : Nat} {r : Rn} (h : (mAt E code r).1 = 0) (g : (mAt E code r).2.en = false) : mGo E code (n + 1) r = ((mGo E code n (mAt E code r).2).1, (mGo E code n (mAt E code r).2).2.1 + 1, (mGo E code n (mAt E code r).2).2.2) := by
  simp only [mGo]
  rw [if_neg (by rw [g]; simp [h])]
theorem mGo_off {E : EvM} {code : List In} {n : Nat} {r : Rn} (h : (mAt E code r).1 ≠ 0 ∨ (mAt E code r).2.en = true) : mGo E code (n + 1) r = ((mAt E code r).1, 1, (mAt E code r).2) := by
  simp only [mGo]
  rw [if_pos h]
end Go.Proofs.YtpfjnnkjoabgbaaGreatDoor
