import Derived.Test.YtpfjnnkjoabgbaaGreatDoorXBG
import Derived.Test.YtpfjnnkjoabgbaaGreatDoorXBH
import Derived.Test.YtpfjnnkjoabgbaaGreatDoorXAX
import Derived.Test.YtpfjnnkjoabgbaaGreatDoorXBA
import Derived.Test.YtpfjnnkjoabgbaaGreatDoorXAD
import Derived.Test.YtpfjnnkjoabgbaaGreatDoorXAY
import Derived.Laws.EntriesVeiled
import Derived.Laws.Rows
import Derived.Deep.AppendSrc
namespace Go.Proofs.YtpfjnnkjoabgbaaGreatDoor
open Go.RowKit
set_option linter.unusedVariables false
set_option linter.unusedSimpArgs false
/-- What an instruction may rely on. -/
structure DPre (E : EvM) (i : In) (r : Rn) : Prop where
  ok : i.okP
  tk : tkA i.o.toNat ≤ r.st.length
  i1 : i.o.toNat = 1 → i.a.toNat < E.pool.length
  i3 : i.o.toNat = 3 → i.b.toNat ≤ E.past.length ∧ i.a.toNat < (E.seen i.b.toNat).length
  i4 : i.o.toNat = 4 ∨ i.o.toNat = 5 → i.a.toNat < r.ce.length
  i7 : i.o.toNat = 7 → i.a.toNat < r.sl.length
  i28 : i.o.toNat = 28 → i.a.toNat < E.curs.length
  st : r.st.length ≤ 300000
  sl : r.sl.length ≤ 1000000
  fl : r.fl.length ≤ 300000
  nx : r.nx ≤ 1000000
  pa : E.past.length ≤ 100000
theorem okP_a {i : In} (h : i.okP) : 0 ≤ i.a ∧ i.a ≤ 262143 ∧ 0 ≤ i.b := by
  have k : i.o.toNat < 29 := by have := h.1; have := h.2.1; omega
  have t := (tab_facts _ k).2.1
  have := h.2.2.1
  have := h.2.2.2.1
  have := h.2.2.2.2.1
  omega
theorem mid_res {E : EvM} {i : In} {r : Rn} (h : 9 ≤ i.o.toNat ∧ i.o.toNat ≤ 25) {v f : Int} (e : mOp i.o.toNat i.a (argX (tkA i.o.toNat) r.st) (argY (tkA i.o.toNat) r.st) (argZ r.st) = (v, f)) : mDo E i r = (f, resR (r.cut (tkA i.o.toNat)) v f) := by
  rw [mDo_mid h, e]
  unfold resR
  by_cases z : f = 0
  · simp [z]
  · simp [z]
theorem st_one {l : List Int} (h : 1 ≤ l.length) : ∃ x r, l = x :: r := by
  cases l with
  | nil => simp at h
  | cons x r => exact ⟨x, r, rfl⟩
theorem st_two {l : List Int} (h : 2 ≤ l.length) : ∃ y x r, l = y :: x :: r := by
  obtain ⟨y, r, rfl⟩ := st_one (by omega : 1 ≤ l.length)
  obtain ⟨x, r, rfl⟩ := st_one (by simpa using h : 1 ≤ r.length)
  exact ⟨y, x, r, rfl⟩
theorem st_three {l : List Int} (h : 3 ≤ l.length) : ∃ z y x r, l = z :: y :: x :: r := by
  obtain ⟨z, r, rfl⟩ := st_one (by omega : 1 ≤ l.length)
  obtain ⟨y, x, r, rfl⟩ := st_two (by simpa using h : 2 ≤ r.length)
  exact ⟨z, y, x, r, rfl⟩
theorem add_is {K : Kx} {E : EvM} (hE : KE K E) {w : World} {steps : Int} {r : Rn} (h : RoE K w steps r) (i : In) (d : DPre E i r) (hk : i.o.toNat = 9) : Calls Tryz.prog 70 #[.pointer (some ⟨K.rb, 0, none⟩), iAgg i] w fun e w' => e = .returned (.int .i64 (mDo E i r).1) ∧ RoE K w' steps (mDo E i r).2 := by
  have tk := d.tk
  rw [hk] at tk
  obtain ⟨y, x, l, e⟩ := st_two (show 2 ≤ r.st.length from tk)
  have hl : l.length ≤ 300000 := by have := d.st; rw [e] at this; simp at this; omega
  have m := mid_res (E := E) (i := i) (r := r) (by omega) (v := fitV (x + y)) (f := fitF (x + y)) (by rw [hk, e]; rfl)
  rw [m, hk]
  have c : r.cut (tkA 9) = { r with st := l } := by unfold Rn.cut; rw [e]; rfl
  rw [c]
  exact add_deed h i e hl
theorem sub_is {K : Kx} {E : EvM} (hE : KE K E) {w : World} {steps : Int} {r : Rn} (h : RoE K w steps r) (i : In) (d : DPre E i r) (hk : i.o.toNat = 10) : Calls Tryz.prog 71 #[.pointer (some ⟨K.rb, 0, none⟩), iAgg i] w fun e w' => e = .returned (.int .i64 (mDo E i r).1) ∧ RoE K w' steps (mDo E i r).2 := by
  have tk := d.tk
  rw [hk] at tk
  obtain ⟨y, x, l, e⟩ := st_two (show 2 ≤ r.st.length from tk)
  have hl : l.length ≤ 300000 := by have := d.st; rw [e] at this; simp at this; omega
  have m := mid_res (E := E) (i := i) (r := r) (by omega) (v := fitV (x - y)) (f := fitF (x - y)) (by rw [hk, e]; rfl)
  rw [m, hk]
  have c : r.cut (tkA 10) = { r with st := l } := by unfold Rn.cut; rw [e]; rfl
  rw [c]
  exact sub_deed h i e hl
theorem mul_is {K : Kx} {E : EvM} (hE : KE K E) {w : World} {steps : Int} {r : Rn} (h : RoE K w steps r) (i : In) (d : DPre E i r) (hk : i.o.toNat = 11) : Calls Tryz.prog 72 #[.pointer (some ⟨K.rb, 0, none⟩), iAgg i] w fun e w' => e = .returned (.int .i64 (mDo E i r).1) ∧ RoE K w' steps (mDo E i r).2 := by
  have tk := d.tk
  rw [hk] at tk
  obtain ⟨y, x, l, e⟩ := st_two (show 2 ≤ r.st.length from tk)
  have hl : l.length ≤ 300000 := by have := d.st; rw [e] at this; simp at this; omega
  have m := mid_res (E := E) (i := i) (r := r) (by omega) (v := fitV (x * y)) (f := fitF (x * y)) (by rw [hk, e]; rfl)
  rw [m, hk]
  have c : r.cut (tkA 11) = { r with st := l } := by unfold Rn.cut; rw [e]; rfl
  rw [c]
  exact mul_deed h i e hl
theorem div_is {K : Kx} {E : EvM} (hE : KE K E) {w : World} {steps : Int} {r : Rn} (h : RoE K w steps r) (i : In) (d : DPre E i r) (hk : i.o.toNat = 13) : Calls Tryz.prog 74 #[.pointer (some ⟨K.rb, 0, none⟩), iAgg i] w fun e w' => e = .returned (.int .i64 (mDo E i r).1) ∧ RoE K w' steps (mDo E i r).2 := by
  have tk := d.tk
  rw [hk] at tk
  obtain ⟨y, x, l, e⟩ := st_two (show 2 ≤ r.st.length from tk)
  have hl : l.length ≤ 300000 := by have := d.st; rw [e] at this; simp at this; omega
  have m := mid_res (E := E) (i := i) (r := r) (by omega) (v := divV x y) (f := divF x y) (by rw [hk, e]; rfl)
  rw [m, hk]
  have c : r.cut (tkA 13) = { r with st := l } := by unfold Rn.cut; rw [e]; rfl
  rw [c]
  exact div_deed h i e hl
theorem mod_is {K : Kx} {E : EvM} (hE : KE K E) {w : World} {steps : Int} {r : Rn} (h : RoE K w steps r) (i : In) (d : DPre E i r) (hk : i.o.toNat = 14) : Calls Tryz.prog 75 #[.pointer (some ⟨K.rb, 0, none⟩), iAgg i] w fun e w' => e = .returned (.int .i64 (mDo E i r).1) ∧ RoE K w' steps (mDo E i r).2 := by
  have tk := d.tk
  rw [hk] at tk
  obtain ⟨y, x, l, e⟩ := st_two (show 2 ≤ r.st.length from tk)
  have hl : l.length ≤ 300000 := by have := d.st; rw [e] at this; simp at this; omega
  have m := mid_res (E := E) (i := i) (r := r) (by omega) (v := modV x y) (f := modF y) (by rw [hk, e]; rfl)
  rw [m, hk]
  have c : r.cut (tkA 14) = { r with st := l } := by unfold Rn.cut; rw [e]; rfl
  rw [c]
  exact mod_deed h i e hl
theorem neg_is {K : Kx} {E : EvM} (hE : KE K E) {w : World} {steps : Int} {r : Rn} (h : RoE K w steps r) (i : In) (d : DPre E i r) (hk : i.o.toNat = 12) : Calls Tryz.prog 73 #[.pointer (some ⟨K.rb, 0, none⟩), iAgg i] w fun e w' => e = .returned (.int .i64 (mDo E i r).1) ∧ RoE K w' steps (mDo E i r).2 := by
  have tk := d.tk
  rw [hk] at tk
  obtain ⟨x, l, e⟩ := st_one (show 1 ≤ r.st.length from tk)
  have hl : l.length ≤ 300000 := by have := d.st; rw [e] at this; simp at this; omega
  have m := mid_res (E := E) (i := i) (r := r) (by omega) (v := fitV (-x)) (f := fitF (-x)) (by rw [hk, e]; rfl)
  rw [m, hk]
  have c : r.cut (tkA 12) = { r with st := l } := by unfold Rn.cut; rw [e]; rfl
  rw [c]
  exact neg_deed h i e hl
theorem abs_is {K : Kx} {E : EvM} (hE : KE K E) {w : World} {steps : Int} {r : Rn} (h : RoE K w steps r) (i : In) (d : DPre E i r) (hk : i.o.toNat = 15) : Calls Tryz.prog 76 #[.pointer (some ⟨K.rb, 0, none⟩), iAgg i] w fun e w' => e = .returned (.int .i64 (mDo E i r).1) ∧ RoE K w' steps (mDo E i r).2 := by
  have tk := d.tk
  rw [hk] at tk
  obtain ⟨x, l, e⟩ := st_one (show 1 ≤ r.st.length from tk)
  have hl : l.length ≤ 300000 := by have := d.st; rw [e] at this; simp at this; omega
  have m := mid_res (E := E) (i := i) (r := r) (by omega) (v := fitV (absI x)) (f := fitF (absI x)) (by rw [hk, e]; rfl)
  rw [m, hk]
  have c : r.cut (tkA 15) = { r with st := l } := by unfold Rn.cut; rw [e]; rfl
  rw [c]
  exact abs_deed h i e hl
theorem lesser_is {K : Kx} {E : EvM} (hE : KE K E) {w : World} {steps : Int} {r : Rn} (h : RoE K w steps r) (i : In) (d : DPre E i r) (hk : i.o.toNat = 16) : Calls Tryz.prog 77 #[.pointer (some ⟨K.rb, 0, none⟩), iAgg i] w fun e w' => e = .returned (.int .i64 (mDo E i r).1) ∧ RoE K w' steps (mDo E i r).2 := by
  have tk := d.tk
  rw [hk] at tk
  obtain ⟨y, x, l, e⟩ := st_two (show 2 ≤ r.st.length from tk)
  have hl : l.length ≤ 300000 := by have := d.st; rw [e] at this; simp at this; omega
  have m := mid_res (E := E) (i := i) (r := r) (by omega) (v := min x y) (f := 0) (by rw [hk, e]; rfl)
  rw [m, hk]
  have c : resR (r.cut (tkA 16)) (min x y) 0 = Rn.put { r with st := l } (min x y) := by unfold resR Rn.cut; rw [e, if_pos rfl]; rfl
  rw [c]
  exact lesser_deed h i e hl
theorem greater_is {K : Kx} {E : EvM} (hE : KE K E) {w : World} {steps : Int} {r : Rn} (h : RoE K w steps r) (i : In) (d : DPre E i r) (hk : i.o.toNat = 17) : Calls Tryz.prog 78 #[.pointer (some ⟨K.rb, 0, none⟩), iAgg i] w fun e w' => e = .returned (.int .i64 (mDo E i r).1) ∧ RoE K w' steps (mDo E i r).2 := by
  have tk := d.tk
  rw [hk] at tk
  obtain ⟨y, x, l, e⟩ := st_two (show 2 ≤ r.st.length from tk)
  have hl : l.length ≤ 300000 := by have := d.st; rw [e] at this; simp at this; omega
  have m := mid_res (E := E) (i := i) (r := r) (by omega) (v := max x y) (f := 0) (by rw [hk, e]; rfl)
  rw [m, hk]
  have c : resR (r.cut (tkA 17)) (max x y) 0 = Rn.put { r with st := l } (max x y) := by unfold resR Rn.cut; rw [e, if_pos rfl]; rfl
  rw [c]
  exact greater_deed h i e hl
theorem lt_is {K : Kx} {E : EvM} (hE : KE K E) {w : World} {steps : Int} {r : Rn} (h : RoE K w steps r) (i : In) (d : DPre E i r) (hk : i.o.toNat = 19) : Calls Tryz.prog 80 #[.pointer (some ⟨K.rb, 0, none⟩), iAgg i] w fun e w' => e = .returned (.int .i64 (mDo E i r).1) ∧ RoE K w' steps (mDo E i r).2 := by
  have tk := d.tk
  rw [hk] at tk
  obtain ⟨y, x, l, e⟩ := st_two (show 2 ≤ r.st.length from tk)
  have hl : l.length ≤ 300000 := by have := d.st; rw [e] at this; simp at this; omega
  have m := mid_res (E := E) (i := i) (r := r) (by omega) (v := trI (decide (x < y))) (f := 0) (by rw [hk, e]; rfl)
  rw [m, hk]
  have c : resR (r.cut (tkA 19)) (trI (decide (x < y))) 0 = Rn.put { r with st := l } (trI (decide (x < y))) := by unfold resR Rn.cut; rw [e, if_pos rfl]; rfl
  rw [c]
  exact lt_deed h i e hl
theorem le_is {K : Kx} {E : EvM} (hE : KE K E) {w : World} {steps : Int} {r : Rn} (h : RoE K w steps r) (i : In) (d : DPre E i r) (hk : i.o.toNat = 20) : Calls Tryz.prog 81 #[.pointer (some ⟨K.rb, 0, none⟩), iAgg i] w fun e w' => e = .returned (.int .i64 (mDo E i r).1) ∧ RoE K w' steps (mDo E i r).2 := by
  have tk := d.tk
  rw [hk] at tk
  obtain ⟨y, x, l, e⟩ := st_two (show 2 ≤ r.st.length from tk)
  have hl : l.length ≤ 300000 := by have := d.st; rw [e] at this; simp at this; omega
  have m := mid_res (E := E) (i := i) (r := r) (by omega) (v := trI (decide (x ≤ y))) (f := 0) (by rw [hk, e]; rfl)
  rw [m, hk]
  have c : resR (r.cut (tkA 20)) (trI (decide (x ≤ y))) 0 = Rn.put { r with st := l } (trI (decide (x ≤ y))) := by unfold resR Rn.cut; rw [e, if_pos rfl]; rfl
  rw [c]
  exact le_deed h i e hl
theorem gt_is {K : Kx} {E : EvM} (hE : KE K E) {w : World} {steps : Int} {r : Rn} (h : RoE K w steps r) (i : In) (d : DPre E i r) (hk : i.o.toNat = 21) : Calls Tryz.prog 82 #[.pointer (some ⟨K.rb, 0, none⟩), iAgg i] w fun e w' => e = .returned (.int .i64 (mDo E i r).1) ∧ RoE K w' steps (mDo E i r).2 := by
  have tk := d.tk
  rw [hk] at tk
  obtain ⟨y, x, l, e⟩ := st_two (show 2 ≤ r.st.length from tk)
  have hl : l.length ≤ 300000 := by have := d.st; rw [e] at this; simp at this; omega
  have m := mid_res (E := E) (i := i) (r := r) (by omega) (v := trI (decide (y < x))) (f := 0) (by rw [hk, e]; rfl)
  rw [m, hk]
  have c : resR (r.cut (tkA 21)) (trI (decide (y < x))) 0 = Rn.put { r with st := l } (trI (decide (y < x))) := by unfold resR Rn.cut; rw [e, if_pos rfl]; rfl
  rw [c]
  exact gt_deed h i e hl
theorem ge_is {K : Kx} {E : EvM} (hE : KE K E) {w : World} {steps : Int} {r : Rn} (h : RoE K w steps r) (i : In) (d : DPre E i r) (hk : i.o.toNat = 22) : Calls Tryz.prog 83 #[.pointer (some ⟨K.rb, 0, none⟩), iAgg i] w fun e w' => e = .returned (.int .i64 (mDo E i r).1) ∧ RoE K w' steps (mDo E i r).2 := by
  have tk := d.tk
  rw [hk] at tk
  obtain ⟨y, x, l, e⟩ := st_two (show 2 ≤ r.st.length from tk)
  have hl : l.length ≤ 300000 := by have := d.st; rw [e] at this; simp at this; omega
  have m := mid_res (E := E) (i := i) (r := r) (by omega) (v := trI (decide (y ≤ x))) (f := 0) (by rw [hk, e]; rfl)
  rw [m, hk]
  have c : resR (r.cut (tkA 22)) (trI (decide (y ≤ x))) 0 = Rn.put { r with st := l } (trI (decide (y ≤ x))) := by unfold resR Rn.cut; rw [e, if_pos rfl]; rfl
  rw [c]
  exact ge_deed h i e hl
theorem eq_is {K : Kx} {E : EvM} (hE : KE K E) {w : World} {steps : Int} {r : Rn} (h : RoE K w steps r) (i : In) (d : DPre E i r) (hk : i.o.toNat = 23) : Calls Tryz.prog 84 #[.pointer (some ⟨K.rb, 0, none⟩), iAgg i] w fun e w' => e = .returned (.int .i64 (mDo E i r).1) ∧ RoE K w' steps (mDo E i r).2 := by
  have tk := d.tk
  rw [hk] at tk
  obtain ⟨y, x, l, e⟩ := st_two (show 2 ≤ r.st.length from tk)
  have hl : l.length ≤ 300000 := by have := d.st; rw [e] at this; simp at this; omega
  have m := mid_res (E := E) (i := i) (r := r) (by omega) (v := trI (x == y)) (f := 0) (by rw [hk, e]; rfl)
  rw [m, hk]
  have c : resR (r.cut (tkA 23)) (trI (x == y)) 0 = Rn.put { r with st := l } (trI (x == y)) := by unfold resR Rn.cut; rw [e, if_pos rfl]; rfl
  rw [c]
  exact eq_deed h i e hl
theorem ne_is {K : Kx} {E : EvM} (hE : KE K E) {w : World} {steps : Int} {r : Rn} (h : RoE K w steps r) (i : In) (d : DPre E i r) (hk : i.o.toNat = 24) : Calls Tryz.prog 85 #[.pointer (some ⟨K.rb, 0, none⟩), iAgg i] w fun e w' => e = .returned (.int .i64 (mDo E i r).1) ∧ RoE K w' steps (mDo E i r).2 := by
  have tk := d.tk
  rw [hk] at tk
  obtain ⟨y, x, l, e⟩ := st_two (show 2 ≤ r.st.length from tk)
  have hl : l.length ≤ 300000 := by have := d.st; rw [e] at this; simp at this; omega
  have m := mid_res (E := E) (i := i) (r := r) (by omega) (v := trI (x != y)) (f := 0) (by rw [hk, e]; rfl)
  rw [m, hk]
  have c : resR (r.cut (tkA 24)) (trI (x != y)) 0 = Rn.put { r with st := l } (trI (x != y)) := by unfold resR Rn.cut; rw [e, if_pos rfl]; rfl
  rw [c]
  exact ne_deed h i e hl
theorem not_is {K : Kx} {E : EvM} (hE : KE K E) {w : World} {steps : Int} {r : Rn} (h : RoE K w steps r) (i : In) (d : DPre E i r) (hk : i.o.toNat = 25) : Calls Tryz.prog 86 #[.pointer (some ⟨K.rb, 0, none⟩), iAgg i] w fun e w' => e = .returned (.int .i64 (mDo E i r).1) ∧ RoE K w' steps (mDo E i r).2 := by
  have tk := d.tk
  rw [hk] at tk
  obtain ⟨x, l, e⟩ := st_one (show 1 ≤ r.st.length from tk)
  have hl : l.length ≤ 300000 := by have := d.st; rw [e] at this; simp at this; omega
  have m := mid_res (E := E) (i := i) (r := r) (by omega) (v := trI (x == 0)) (f := 0) (by rw [hk, e]; rfl)
  rw [m, hk]
  have c : resR (r.cut (tkA 25)) (trI (x == 0)) 0 = Rn.put { r with st := l } (trI (x == 0)) := by unfold resR Rn.cut; rw [e, if_pos rfl]; rfl
  rw [c]
  exact not_deed h i e hl
theorem ratio_is {K : Kx} {E : EvM} (hE : KE K E) {w : World} {steps : Int} {r : Rn} (h : RoE K w steps r) (i : In) (d : DPre E i r) (hk : i.o.toNat = 18) : Calls Tryz.prog 79 #[.pointer (some ⟨K.rb, 0, none⟩), iAgg i] w fun e w' => e = .returned (.int .i64 (mDo E i r).1) ∧ RoE K w' steps (mDo E i r).2 := by
  have tk := d.tk
  rw [hk] at tk
  obtain ⟨z, y, x, l, e⟩ := st_three (show 3 ≤ r.st.length from tk)
  have hl : l.length ≤ 300000 := by have := d.st; rw [e] at this; simp at this; omega
  have m := mid_res (E := E) (i := i) (r := r) (by omega) (v := raV x y z i.a) (f := raF x y z i.a) (by
    rw [hk, e]
    show (if z = 0 then ((0 : Int), (2 : Int)) else (fitV (ratN x y z i.a), fitF (ratN x y z i.a))) = _
    unfold raV raF
    split <;> rfl)
  rw [m, hk]
  have c : r.cut (tkA 18) = { r with st := l } := by unfold Rn.cut; rw [e]; rfl
  rw [c]
  exact ratio_deed h i e hl
theorem end_is {K : Kx} {E : EvM} (hE : KE K E) {w : World} {steps : Int} {r : Rn} (h : RoE K w steps r) (i : In) (d : DPre E i r) (hk : i.o.toNat = 0) : Calls Tryz.prog 61 #[.pointer (some ⟨K.rb, 0, none⟩), iAgg i] w fun e w' => e = .returned (.int .i64 (mDo E i r).1) ∧ RoE K w' steps (mDo E i r).2 := by
  have m : mDo E i r = (0, { r with en := true }) := by unfold mDo; rw [hk]; rfl
  rw [m]
  exact end_deed h i
theorem constant_is {K : Kx} {E : EvM} (hE : KE K E) {w : World} {steps : Int} {r : Rn} (h : RoE K w steps r) (i : In) (d : DPre E i r) (hk : i.o.toNat = 1) : Calls Tryz.prog 62 #[.pointer (some ⟨K.rb, 0, none⟩), iAgg i] w fun e w' => e = .returned (.int .i64 (mDo E i r).1) ∧ RoE K w' steps (mDo E i r).2 := by
  have m : mDo E i r = (0, r.put (E.pool.getD i.a.toNat 0)) := by unfold mDo; rw [hk]; rfl
  rw [m]
  exact constant_deed hE h i (okP_a d.ok).1 (d.i1 hk) d.st
theorem truth_is {K : Kx} {E : EvM} (hE : KE K E) {w : World} {steps : Int} {r : Rn} (h : RoE K w steps r) (i : In) (d : DPre E i r) (hk : i.o.toNat = 2) : Calls Tryz.prog 63 #[.pointer (some ⟨K.rb, 0, none⟩), iAgg i] w fun e w' => e = .returned (.int .i64 (mDo E i r).1) ∧ RoE K w' steps (mDo E i r).2 := by
  have m : mDo E i r = (0, r.put i.a) := by unfold mDo; rw [hk]; rfl
  rw [m]
  exact truth_deed h i (by have := okP_a d.ok; unfold inR; omega) d.st
theorem observe_is {K : Kx} {E : EvM} (hE : KE K E) {w : World} {steps : Int} {r : Rn} (h : RoE K w steps r) (i : In) (d : DPre E i r) (hk : i.o.toNat = 3) : Calls Tryz.prog 64 #[.pointer (some ⟨K.rb, 0, none⟩), iAgg i] w fun e w' => e = .returned (.int .i64 (mDo E i r).1) ∧ RoE K w' steps (mDo E i r).2 := by
  have m : (mDo E i r).1 = (if ((E.seen i.b.toNat).getD i.a.toNat default).h then 0 else 3) ∧ (mDo E i r).2 = (if ((E.seen i.b.toNat).getD i.a.toNat default).h then r.put ((E.seen i.b.toNat).getD i.a.toNat default).v else r) := by
    unfold mDo
    rw [hk]
    simp only
    split <;> exact ⟨rfl, rfl⟩
  rw [m.1, m.2]
  exact observe_deed hE h i (okP_a d.ok).1 (okP_a d.ok).2.2 (d.i3 hk).1 (d.i3 hk).2 d.pa d.st
theorem load_is {K : Kx} {E : EvM} (hE : KE K E) {w : World} {steps : Int} {r : Rn} (h : RoE K w steps r) (i : In) (d : DPre E i r) (hk : i.o.toNat = 4) : Calls Tryz.prog 65 #[.pointer (some ⟨K.rb, 0, none⟩), iAgg i] w fun e w' => e = .returned (.int .i64 (mDo E i r).1) ∧ RoE K w' steps (mDo E i r).2 := by
  have m : mDo E i r = (0, r.put (r.ce.getD i.a.toNat 0)) := by unfold mDo; rw [hk]; rfl
  rw [m]
  exact load_deed h i (okP_a d.ok).1 (d.i4 (.inl hk)) d.st
theorem store_is {K : Kx} {E : EvM} (hE : KE K E) {w : World} {steps : Int} {r : Rn} (h : RoE K w steps r) (i : In) (d : DPre E i r) (hk : i.o.toNat = 5) : Calls Tryz.prog 66 #[.pointer (some ⟨K.rb, 0, none⟩), iAgg i] w fun e w' => e = .returned (.int .i64 (mDo E i r).1) ∧ RoE K w' steps (mDo E i r).2 := by
  have tk := d.tk
  rw [hk] at tk
  obtain ⟨x, l, e⟩ := st_one (show 1 ≤ r.st.length from tk)
  have m : mDo E i r = (0, { r with ce := r.ce.set i.a.toNat x, st := l }) := by unfold mDo; rw [hk, e]; rfl
  rw [m]
  exact store_deed h i (okP_a d.ok).1 (d.i4 (.inr hk)) e
theorem keep_is {K : Kx} {E : EvM} (hE : KE K E) {w : World} {steps : Int} {r : Rn} (h : RoE K w steps r) (i : In) (d : DPre E i r) (hk : i.o.toNat = 6) : Calls Tryz.prog 67 #[.pointer (some ⟨K.rb, 0, none⟩), iAgg i] w fun e w' => e = .returned (.int .i64 (mDo E i r).1) ∧ RoE K w' steps (mDo E i r).2 := by
  have tk := d.tk
  rw [hk] at tk
  obtain ⟨x, l, e⟩ := st_one (show 1 ≤ r.st.length from tk)
  have m : mDo E i r = (0, { r with sl := slSet r.sl i.a.toNat x }) := by unfold mDo; rw [hk, e]; rfl
  rw [m]
  have a := okP_a d.ok
  unfold slSet
  by_cases z : i.a.toNat < r.sl.length
  · rw [show i.a.toNat + 1 - r.sl.length = 0 by omega, List.replicate_zero, List.append_nil]
    exact keep_old h i a.1 z d.sl e
  · exact keep_new h i a.1 (by omega) (by omega) e
theorem get_is {K : Kx} {E : EvM} (hE : KE K E) {w : World} {steps : Int} {r : Rn} (h : RoE K w steps r) (i : In) (d : DPre E i r) (hk : i.o.toNat = 7) : Calls Tryz.prog 68 #[.pointer (some ⟨K.rb, 0, none⟩), iAgg i] w fun e w' => e = .returned (.int .i64 (mDo E i r).1) ∧ RoE K w' steps (mDo E i r).2 := by
  have m : mDo E i r = (0, r.put (r.sl.getD i.a.toNat 0)) := by unfold mDo; rw [hk]; rfl
  rw [m]
  exact get_deed h i (okP_a d.ok).1 (d.i7 hk) d.st
theorem drop_is {K : Kx} {E : EvM} (hE : KE K E) {w : World} {steps : Int} {r : Rn} (h : RoE K w steps r) (i : In) (d : DPre E i r) (hk : i.o.toNat = 8) : Calls Tryz.prog 69 #[.pointer (some ⟨K.rb, 0, none⟩), iAgg i] w fun e w' => e = .returned (.int .i64 (mDo E i r).1) ∧ RoE K w' steps (mDo E i r).2 := by
  have tk := d.tk
  rw [hk] at tk
  obtain ⟨x, l, e⟩ := st_one (show 1 ≤ r.st.length from tk)
  have m : mDo E i r = (0, { r with st := l }) := by unfold mDo Rn.cut; rw [hk, e]; rfl
  rw [m]
  exact drop_deed h i e
theorem jump_is {K : Kx} {E : EvM} (hE : KE K E) {w : World} {steps : Int} {r : Rn} (h : RoE K w steps r) (i : In) (d : DPre E i r) (hk : i.o.toNat = 26) : Calls Tryz.prog 87 #[.pointer (some ⟨K.rb, 0, none⟩), iAgg i] w fun e w' => e = .returned (.int .i64 (mDo E i r).1) ∧ RoE K w' steps (mDo E i r).2 := by
  have m : mDo E i r = (0, { r with nx := r.nx + i.a.toNat }) := by unfold mDo; rw [hk]; rfl
  rw [m]
  have a := okP_a d.ok
  exact jump_deed h i a.1 (by omega) d.nx
theorem zero_is {K : Kx} {E : EvM} (hE : KE K E) {w : World} {steps : Int} {r : Rn} (h : RoE K w steps r) (i : In) (d : DPre E i r) (hk : i.o.toNat = 27) : Calls Tryz.prog 88 #[.pointer (some ⟨K.rb, 0, none⟩), iAgg i] w fun e w' => e = .returned (.int .i64 (mDo E i r).1) ∧ RoE K w' steps (mDo E i r).2 := by
  have tk := d.tk
  rw [hk] at tk
  obtain ⟨x, l, e⟩ := st_one (show 1 ≤ r.st.length from tk)
  have m : mDo E i r = (0, if x = 0 then { r with nx := r.nx + i.a.toNat, st := l } else { r with st := l }) := by unfold mDo Rn.cut; rw [hk, e]; rfl
  rw [m]
  have a := okP_a d.ok
  exact zero_deed h i e a.1 (by omega) d.nx
theorem flow_is {K : Kx} {E : EvM} (hE : KE K E) {w : World} {steps : Int} {r : Rn} (h : RoE K w steps r) (i : In) (d : DPre E i r) (hk : i.o.toNat = 28) : Calls Tryz.prog 89 #[.pointer (some ⟨K.rb, 0, none⟩), iAgg i] w fun e w' => e = .returned (.int .i64 (mDo E i r).1) ∧ RoE K w' steps (mDo E i r).2 := by
  have tk := d.tk
  rw [hk] at tk
  obtain ⟨x, l, e⟩ := st_one (show 1 ≤ r.st.length from tk)
  have m : mDo E i r = (0, { r with fl := r.fl ++ [⟨E.t, E.curs.getD i.a.toNat ⟨#[]⟩, x⟩], st := l }) := by unfold mDo; rw [hk, e]; rfl
  rw [m]
  exact flow_deed hE h i (okP_a d.ok).1 (d.i28 hk) e d.fl
end Go.Proofs.YtpfjnnkjoabgbaaGreatDoor

namespace Go.Proofs.YtpfjnnkjoabgbaaGreatDoor
set_option linter.unusedVariables false
set_option linter.unusedSimpArgs false
/-- What is so at each place of a day's code that is being done. -/
structure Iv (day : Int) (code : List In) (nc : Nat) (r : Rn) : Prop where
  s : Sits day code r
  st : r.st.length ≤ r.nx
  fl : r.fl.length ≤ r.nx
  sl : r.sl.length ≤ 262144
  ce : r.ce.length = nc
/-- How much an instruction makes longer. -/
theorem mDo_sizes {E : EvM} {i : In} {r : Rn} (hi : i.okP) : (mDo E i r).2.st.length ≤ r.st.length + 1 ∧ (mDo E i r).2.fl.length ≤ r.fl.length + 1 ∧ (mDo E i r).2.sl.length ≤ max r.sl.length 262144 ∧ (mDo E i r).2.ce.length = r.ce.length := by
  have ia := okP_a hi
  unfold mDo
  split
  all_goals first
    | (refine ⟨?_, ?_, ?_, ?_⟩ <;> simp [Rn.put, Rn.cut, slSet_len] <;> omega)
    | (split <;> refine ⟨?_, ?_, ?_, ?_⟩ <;> simp [Rn.put, Rn.cut, slSet_len] <;> omega)
theorem iv_next {day : Int} {code : List In} {nc : Nat} (h : (vRun day code code.length).1 = 0) (ok : ∀ k, k < code.length → (code.getD k default).okP ∧ ((code.getD k default).o = 0 ↔ k + 1 = code.length)) {r : Rn} (s : Iv day code nc r) {E : EvM} (g : (mAt E code r).1 = 0) (n : (mAt E code r).2.en = false) : Iv day code nc (mAt E code r).2 ∧ r.nx < (mAt E code r).2.nx := by
  obtain ⟨a, b⟩ := sits_next h ok s.s g n
  have z := mDo_sizes (E := E) (r := { r with nx := r.nx + 1 }) (ok _ s.s.lt).1
  simp only at z
  have z1 := z.1
  have z2 := z.2.1
  have z3 := z.2.2.1
  have z4 := z.2.2.2
  have := s.st
  have := s.fl
  have := s.sl
  have q : mAt E code r = mDo E (code.getD r.nx default) { r with nx := r.nx + 1 } := rfl
  rw [← q] at z1 z2 z3 z4
  exact ⟨⟨a, by omega, by omega, by omega, by rw [z4]; exact s.ce⟩, b⟩
/-- A day's code of a program that was taken. -/
structure DayOk (p : Pg) (n : Nds) (t : Int) (code : List In) : Prop where
  run : (vRun t code code.length).1 = 0
  ok : ∀ k, k < code.length → (code.getD k default).okP ∧ ((code.getD k default).o = 0 ↔ k + 1 = code.length)
  inb : ∀ k, k < code.length → inB p (code.getD k default)
  back : ∀ k, k < code.length → (code.getD k default).o = 3 → (code.getD k default).b ≤ n.back
  len : code.length ≤ 262144
  pos : 0 < code.length
theorem vfyA_canM {p : Pg} (h : (vfyA p).1 = 0) : canP p ∧ vfyA p = vfy p := by
  unfold vfyA at h ⊢
  split at h
  · rename_i c; rw [if_pos c]; exact ⟨c, rfl⟩
  · simp at h
theorem tot_up {l : List Sg} {k : Nat} (h : k < l.length) : ∀ m, k < m → m ≤ l.length → (l.getD k default).code.length ≤ totN l m
  | 0, h0, _ => by omega
  | m + 1, h0, h1 => by
    rw [totN_next (by omega)]
    by_cases e : k = m
    · subst e; omega
    · have := tot_up h m (by omega) (by omega); omega
/-- The code of a day: of one of the segments, or none. -/
theorem dayCode_at (l : List Sg) (t : Int) : (dayCode l t = [] ∧ ∀ i, i < l.length → (l.getD i default).day ≠ t ∨ False) ∨ ∃ i, i < l.length ∧ (l.getD i default).day = t ∧ dayCode l t = (l.getD i default).code := by
  unfold dayCode
  cases hf : l.find? (fun s => decide (s.day = t)) with
  | none =>
    refine .inl ⟨rfl, fun i hi => .inl fun e => ?_⟩
    have := List.find?_eq_none.1 hf (l.getD i default) (getD_mem hi)
    simp only [decide_eq_true_eq] at this
    exact this e
  | some s =>
    have h1 := List.mem_of_find?_eq_some hf
    have h2 := List.find?_some hf
    obtain ⟨i, hi, rfl⟩ := List.getElem_of_mem h1
    refine .inr ⟨i, hi, ?_, ?_⟩
    · simpa [List.getD, hi] using h2
    · simp [List.getD, hi]
theorem dayOk_of {p : Pg} (h : (vfyA p).1 = 0) {t : Int} (hn : dayCode p.days t ≠ []) : DayOk p (vfyA p).2.2.2 t (dayCode p.days t) := by
  obtain ⟨c, e⟩ := vfyA_canM h
  rw [e] at h
  obtain ⟨v1, v2, v3⟩ := vfy_ok h
  rw [e, v3]
  rcases dayCode_at p.days t with ⟨q, _⟩ | ⟨i, hi, hd, q⟩
  · exact absurd q hn
  obtain ⟨c1, c2, c3, c4⟩ := c
  obtain ⟨u1, u2⟩ := c4.1 i hi
  have v0 := vAll_before v1 (k := i + 1) hi
  have vb := vAll_before v1 (k := i) (Nat.le_of_lt hi)
  rw [vAll_succ vb] at v0
  simp only at v0
  rw [q]
  refine ⟨by rw [← hd]; exact v0, fun k hk => ⟨(u2 k hk).2.1, (u2 k hk).1⟩, fun k hk => (u2 k hk).2.2, fun k hk => (all_upM p.days.length (Nat.le_refl _) v1 i hi k hk).2, ?_, by omega⟩
  have := tot_up hi p.days.length hi (Nat.le_refl _)
  have := c3.2
  omega
/-- A state in which a machine of a program may be, ahead of a day. -/
structure MsOk (p : Pg) (n : Nds) (s : Ms) : Prop where
  t0 : 0 ≤ s.today
  t1 : s.today ≤ p.hor + 1
  s0 : 0 ≤ s.steps
  s1 : s.steps ≤ s.today * 262144
  ce : s.cells.length = p.cells.toNat
  ci : ∀ x ∈ s.cells, inR x
  pl : (s.past.length : Int) = min s.today n.back
  pr : ∀ l ∈ s.past, l.length = p.names.length ∧ ∀ c ∈ l, inR c.v
  f0 : s.fault = 0 → s.day = 0
  f1 : inR s.fault ∧ inR s.day
theorem fitR_len (n : Nat) (row : List Cl) : (fitR n row).length = n := by simp [fitR]
theorem fitR_in {n : Nat} {row : List Cl} (h : ∀ c ∈ row, inR c.v) : ∀ c ∈ fitR n row, inR c.v := by
  intro c hc
  unfold fitR at hc
  simp only [List.mem_map, List.mem_range] at hc
  obtain ⟨j, hj, rfl⟩ := hc
  split
  · rename_i z
    by_cases q : j < row.length
    · exact h _ (getD_mem q)
    · exfalso
      have e : row.getD j default = default := by simp only [List.getD, List.getElem?_eq_none (by omega : row.length ≤ j), Option.getD_none]
      rw [e] at z
      exact absurd z (by decide)
  · simp [inR]
theorem dpre_of {p : Pg} {n : Nds} {s : Ms} {row : List Cl} {code : List In} (dk : DayOk p n s.today code) (hc : canP p) (ms : MsOk p n s) {r : Rn} (iv : Iv s.today code p.cells.toNat r) : DPre (p.env s row) (code.getD r.nx default) { r with nx := r.nx + 1 } := by
  obtain ⟨h1, h2, h3⟩ := sits_now dk.run iv.s
  have ok := (dk.ok _ iv.s.lt).1
  have ib := dk.inb _ iv.s.lt
  have bk := dk.back _ iv.s.lt
  have hl := dk.len
  have lt := iv.s.lt
  have i1 := iv.st
  have i2 := iv.fl
  have i3 := iv.sl
  have i4 := iv.ce
  have hp := numP_hor hc.1
  have t1 := ms.t1
  have pl := ms.pl
  have pb : s.past.length ≤ 100000 := by omega
  generalize code.getD r.nx default = i at *
  obtain ⟨b1, b2, b3, b4, b5⟩ := ib
  have o0 := ok.1
  have a0 := ok.2.2.1
  have b0 := ok.2.2.2.2.1
  refine ⟨ok, h1, fun e => ?_, fun e => ?_, fun e => ?_, h2, fun e => ?_, by simp only; omega, by simp only; omega, by simp only; omega, by simp only; omega, ?_⟩
  · have := b1 (by omega); show i.a.toNat < p.pool.length; omega
  · have q3 := h3 e
    have q4 := bk (by omega)
    have q5 := b2 (by omega)
    have le : i.b.toNat ≤ s.past.length := by omega
    refine ⟨le, ?_⟩
    show i.a.toNat < (EvM.seen (p.env s row) i.b.toNat).length
    unfold EvM.seen Pg.env
    simp only
    split
    · rw [fitR_len]; omega
    · have : s.past.getD (s.past.length - i.b.toNat) [] ∈ s.past := getD_mem (by omega)
      rw [(ms.pr _ this).1]; omega
  · have := b4 (by omega); show i.a.toNat < r.ce.length; omega
  · have := b3 (by omega); show i.a.toNat < p.curs.length; omega
  · exact pb
theorem mGo_on {E : EvM} {code : List In} {n : Nat} {r : Rn} (h : (mAt E code r).1 = 0) (g : (mAt E code r).2.en = false) : mGo E code (n + 1) r = ((mGo E code n (mAt E code r).2).1, (mGo E code n (mAt E code r).2).2.1 + 1, (mGo E code n (mAt E code r).2).2.2) := by
  simp only [mGo]
  rw [if_neg (by rw [g]; simp [h])]
theorem mGo_off {E : EvM} {code : List In} {n : Nat} {r : Rn} (h : (mAt E code r).1 ≠ 0 ∨ (mAt E code r).2.en = true) : mGo E code (n + 1) r = ((mAt E code r).1, 1, (mAt E code r).2) := by
  simp only [mGo]
  rw [if_pos h]
end Go.Proofs.YtpfjnnkjoabgbaaGreatDoor

namespace Go.Proofs.YtpfjnnkjoabgbaaGreatDoor
set_option linter.unusedVariables false
set_option linter.unusedSimpArgs false
theorem fitF_in3 (n : Int) : 0 ≤ fitF n ∧ fitF n ≤ 3 := by unfold fitF; split <;> omega
theorem mOp_f (k : Nat) (m x y z : Int) : 0 ≤ (mOp k m x y z).2 ∧ (mOp k m x y z).2 ≤ 3 := by
  unfold mOp
  split <;> first | exact fitF_in3 _ | (simp only; omega) | skip
  · simp only; unfold divF; split
    · omega
    · exact fitF_in3 _
  · simp only; unfold modF; split <;> omega
  · split
    · simp
    · exact fitF_in3 _
theorem mDo_f (E : EvM) (i : In) (r : Rn) : 0 ≤ (mDo E i r).1 ∧ (mDo E i r).1 ≤ 3 := by
  unfold mDo
  split <;> try (simp; done)
  · split <;> simp
  · split
    · simp
    · exact mOp_f _ _ _ _ _
theorem mDo_ce (E : EvM) (i : In) (r : Rn) : (mDo E i r).2.ce.length = r.ce.length := by
  unfold mDo
  split <;> try (simp [Rn.put, Rn.cut]; done)
  · split <;> simp [Rn.put]
  · split <;> simp [Rn.cut]
  · split <;> simp [Rn.cut, Rn.put]
theorem mGo_all (E : EvM) (code : List In) : ∀ (n : Nat) (r : Rn), 0 ≤ (mGo E code n r).1 ∧ (mGo E code n r).1 ≤ 3 ∧ (mGo E code n r).2.1 ≤ n ∧ (mGo E code n r).2.2.ce.length = r.ce.length
  | 0, r => by simp [mGo]
  | n + 1, r => by
    simp only [mGo]
    have f := mDo_f E (code.getD r.nx default) { r with nx := r.nx + 1 }
    have c := mDo_ce E (code.getD r.nx default) { r with nx := r.nx + 1 }
    split
    · exact ⟨f.1, f.2, Nat.succ_le_succ (Nat.zero_le _), c⟩
    · obtain ⟨a, b, d, e⟩ := mGo_all E code n (mAt E code r).2
      exact ⟨a, b, by simp only; omega, e.trans c⟩
theorem vAll_back {days : List Sg} : ∀ D, D ≤ days.length → (vAll days D).1 = 0 → 0 ≤ (vAll days D).2.2.2.back
  | 0, _, _ => by simp [vAll]
  | D + 1, hD, h => by
    have h0 := vAll_before h (Nat.le_succ D)
    rw [vAll_succ h0]
    have := vAll_back D (by omega) h0
    have := (need_upM (nd := (vAll days D).2.2.2) (sg := days.getD D default) (days.getD D default).code.length (Nat.le_refl _)).2.1
    simp only
    omega
/-- What is known of the proof of a program that was taken. -/
theorem nds_of {p : Pg} (h : (vfyA p).1 = 0) : 0 ≤ (vfyA p).2.2.2.back ∧ 0 ≤ (vfyA p).2.2.2.stack ∧ (vfyA p).2.2.2.stack ≤ 16384 ∧ 0 ≤ p.hor ∧ p.hor ≤ 3660 ∧ 0 ≤ p.cells ∧ p.cells ≤ 32768 ∧ p.names.length ≤ 64 ∧ canP p := by
  obtain ⟨c, e⟩ := vfyA_canM h
  rw [e] at h ⊢
  obtain ⟨v1, v2, v3⟩ := vfy_ok h
  rw [v3]
  have hp := numP_hor c.1
  have hn := c.1
  unfold numP wB at hn
  simp only [Bool.and_eq_true, decide_eq_true_eq] at hn
  have := v2.1
  exact ⟨vAll_back _ (Nat.le_refl _) v1, by simp only; omega, by simp only; omega, hp.1, hp.2, by omega, by omega, c.2.1.1, c⟩
theorem born_ok {p : Pg} {n : Nds} (hh : 0 ≤ p.hor) (hc : 0 ≤ p.cells) (hb : 0 ≤ n.back) : MsOk p n p.born := by
  refine ⟨by simp [Pg.born], by simp [Pg.born]; omega, by simp [Pg.born], by simp [Pg.born], by simp [Pg.born], ?_, by simp [Pg.born]; omega, by simp [Pg.born], fun _ => rfl, by simp [Pg.born, inR]⟩
  intro x hx
  simp only [Pg.born, List.mem_replicate] at hx
  rw [hx.2]
  simp [inR]
theorem pastOn_len {back : Int} {past : List (List Cl)} {row : List Cl} {t : Int} (h : (past.length : Int) = min t back) (hb : 0 ≤ back) (ht : 0 ≤ t) : ((pastOn back past row).length : Int) = min (t + 1) back := by
  unfold pastOn
  split
  · simp only [List.length_drop, List.length_append, List.length_cons, List.length_nil]; omega
  · simp only [List.length_append, List.length_cons, List.length_nil]; omega
theorem pastOn_mem {back : Int} {past : List (List Cl)} {row l : List Cl} (h : l ∈ pastOn back past row) : l ∈ past ∨ l = row := by
  unfold pastOn at h
  split at h
  · have := List.mem_of_mem_drop h
    simpa using this
  · simpa using h
/-- A day keeps a state well. -/
theorem dayMs_ok {p : Pg} {n : Nds} {s : Ms} {row : List Cl} (ms : MsOk p n s) (hb : 0 ≤ n.back) (hh : p.hor ≤ 3660) (no : ¬ s.over p.hor) (hr : ∀ c ∈ row, inR c.v) (hl : (dayCode p.days s.today).length ≤ 262144) (hi : ∀ x ∈ (dayGo p s row).2.2.ce, inR x) : MsOk p n (dayMs p n.back s row) := by
  obtain ⟨g1, g2, g3, g4⟩ := mGo_all (p.env s row) (dayCode p.days s.today) (dayCode p.days s.today).length s.begun
  have e : mGo (p.env s row) (dayCode p.days s.today) (dayCode p.days s.today).length s.begun = dayGo p s row := rfl
  rw [e] at g1 g2 g3 g4
  unfold Ms.over at no
  have t0 := ms.t0
  have t1 := ms.t1
  have s0 := ms.s0
  have s1 := ms.s1
  unfold dayMs
  refine ⟨by simp only; omega, by simp only; omega, by simp only; omega, by simp only; omega, by simp only; rw [g4]; exact ms.ce, hi, pastOn_len ms.pl hb t0, ?_, ?_, ?_⟩
  · intro l h
    rcases pastOn_mem h with q | rfl
    · exact ms.pr l q
    · exact ⟨fitR_len _ _, fitR_in hr⟩
  · simp only
    intro q
    split at q
    · rename_i z; rw [if_pos z]; exact ms.f0 q
    · rename_i z; exact absurd q z
  · simp only
    have f1 := ms.f1
    split
    · exact f1
    · unfold inR; omega
/-- How far a run has come. -/
theorem runMs_today {p : Pg} {back : Int} {a : Nat → List Cl} : ∀ (n : Nat), ((runMs p back a n p.born).1.today : Int) ≤ n ∧ (¬ (runMs p back a n p.born).1.over p.hor → (runMs p back a n p.born).1.today = n)
  | 0 => ⟨by simp [runMs, Pg.born], fun _ => by simp [runMs, Pg.born]⟩
  | n + 1 => by
    obtain ⟨i1, i2⟩ := runMs_today (a := a) (p := p) (back := back) n
    simp only [runMs]
    split
    · rename_i z; exact ⟨by omega, fun q => absurd z q⟩
    · rename_i z
      have := i2 z
      exact ⟨by simp only [dayMs]; omega, fun _ => by simp only [dayMs]; omega⟩
theorem runMs_over {p : Pg} {back : Int} {a : Nat → List Cl} {n : Nat} (h : (runMs p back a n p.born).1.over p.hor) : ∀ m, runMs p back a (n + m) p.born = runMs p back a n p.born
  | 0 => rfl
  | m + 1 => by
    show runMs p back a ((n + m) + 1) p.born = _
    simp only [runMs]
    rw [runMs_over h m, if_pos h]
/-- The end of a run. -/
theorem runMs_last {p : Pg} {back : Int} {a : Nat → List Cl} {n : Nat} (h : (runMs p back a n p.born).1.over p.hor) (hn : n ≤ (p.hor + 1).toNat) : runMs p back a (p.hor + 1).toNat p.born = runMs p back a n p.born := by
  have := runMs_over h ((p.hor + 1).toNat - n)
  rw [show n + ((p.hor + 1).toNat - n) = (p.hor + 1).toNat by omega] at this
  exact this
end Go.Proofs.YtpfjnnkjoabgbaaGreatDoor

namespace Go.Proofs.YtpfjnnkjoabgbaaGreatDoor
open Go.RowKit
set_option linter.unusedVariables false
set_option linter.unusedSimpArgs false
def fnD : List Nat := [61, 62, 63, 64, 65, 66, 67, 68, 69, 70, 71, 72, 73, 74, 75, 76, 77, 78, 79, 80, 81, 82, 83, 84, 85, 86, 87, 88, 89]
def fnV : Array Value := (fnD.map (fun k => Value.func (.func k) #[] #[])).toArray
theorem heap_newD (w : World) (o : Obj) : (w.alloc o).heap[w.heap.size]? = some o := by unfold World.alloc; simp [-World.alloc_eq]
theorem dd_info : (Tryz.prog.info? 114).map (·.size) = some 29 := by kernel_rfl
theorem fnV_size : fnV.size = 29 := by kernel_rfl
theorem fnV_one : fnV.all (·.oneCell') = true := by kernel_rfl
set_option maxRecDepth 100000 in
theorem alloc_dd {ops : Array Oper} {rest : List Oper} {op : Oper} {a : Act} {w : World} {Q : Exit → Act → World → Prop} (hgd : op.guard = none) (ho : op.op = .alloc 114) (h : ∀ c : Array Value, c.size = 29 → wpList Tryz.prog ops Q rest (a.put op.dst (.pointer (some ⟨w.heap.size, 0, none⟩))) (w.alloc (.cells c 114))) : wpList Tryz.prog ops Q (op :: rest) a w := by
  refine wpList_plain hgd fun _ hK => ?_
  have hK := fun c e => hK _ _ (h c e)
  unfold Oper.wp execOp
  simp only [ho]
  go_simp
  exact hK _ rfl
theorem store_dd {ops : Array Oper} {rest : List Oper} {op : Oper} {a : Act} {w : World} {Q : Exit → Act → World → Prop} (hgd : op.guard = none) (x y : Operand) (ho : op.op = .store 114 x y) (c : Array Value) (hc : c.size = 29) (hx : a.eval x = .pointer (some ⟨w.heap.size, 0, none⟩)) (hy : a.eval y = .agg fnV) (h : wpList Tryz.prog ops Q rest (a.put op.dst undef) (w.alloc (.cells fnV 114))) : wpList Tryz.prog ops Q (op :: rest) a (w.alloc (.cells c 114)) := by
  refine wpList_plain hgd fun _ hK => ?_
  have hK := hK _ _ h
  unfold Oper.wp execOp
  simp only [ho, hx, hy, Instr.storeAt, Instr.sureAddr, Sem.run_bind, Sem.run_pure, Result.andThen_ok, run_storeVar_new w 114 c fnV (by rw [dd_info, fnV_size]) (by rw [hc, fnV_size]) fnV_one]
  exact hK
set_option maxRecDepth 100000 in
set_option maxHeartbeats 1600000 in
theorem deeds_any (w : World) : Calls Tryz.prog 46 #[] w fun e w' => e = .returned (.agg fnV) ∧ Below w.heap.size w w' := by
  go_enter Tryz.func46, Tryz.ntmps46
  go_wp2_with (first | (with_reducible show wpList _ _ _ (Oper.mk _ (Op.alloc 114) _ _ _ _ :: _) _ _; refine alloc_dd rfl rfl ?_; intro c hc) | (with_reducible show wpList _ _ _ (Oper.mk _ (Op.store 114 _ _) _ _ _ _ :: _) _ _; refine store_dd rfl _ _ rfl c hc rfl rfl ?_))
  refine bodyPost_ret (v := .agg fnV) (results_cell_row rfl _ _ w.heap.size 114 fnV (0, 0) (.array 29 113) rfl (heap_newD w _) (by kernel_rfl) rfl (by rw [dd_info, fnV_size])) rfl ⟨rfl, (Below.refl _ _).alloc (Nat.le_refl _) _⟩
end Go.Proofs.YtpfjnnkjoabgbaaGreatDoor

namespace Go.Proofs.YtpfjnnkjoabgbaaGreatDoor
open Go.RowKit
set_option linter.unusedVariables false
set_option linter.unusedSimpArgs false
/-- At most the blocks of S have turned. -/
structure Kp (w w' : World) (S : Nat → Prop) : Prop where
  os : w'.os = w.os
  tape : w'.tape = w.tape
  out : w'.output = w.output
  size : w.heap.size ≤ w'.heap.size
  blk : ∀ k, k < w.heap.size → ¬ S k → w'.heap[k]? = w.heap[k]?
theorem Kp.refl (w : World) (S : Nat → Prop) : Kp w w S := ⟨rfl, rfl, rfl, Nat.le_refl _, fun _ _ _ => rfl⟩
theorem Kp.below {w w' : World} (b : Below w.heap.size w w') (S : Nat → Prop) : Kp w w' S := ⟨b.os, b.tape, b.output, b.size, fun k hk _ => b.block k hk⟩
theorem Kp.trans {a b c : World} {S T : Nat → Prop} (h : Kp a b S) (k : Kp b c T) (hT : ∀ x, x < a.heap.size → T x → S x) : Kp a c S := ⟨k.os.trans h.os, k.tape.trans h.tape, k.out.trans h.out, Nat.le_trans h.size k.size, fun x hx hs => (k.blk x (Nat.lt_of_lt_of_le hx h.size) (fun z => hs (hT x hx z))).trans (h.blk x hx hs)⟩
theorem Kp.bel {w w' : World} {S : Nat → Prop} {B : Nat} (h : Kp w w' S) (hB : ∀ k, S k → B ≤ k) (hw : B ≤ w.heap.size) : Below B w w' := ⟨h.os, h.tape, h.out, h.size, fun k hk => h.blk k (by omega) (fun z => by have := hB k z; omega)⟩
theorem Kp.mono {a b : World} {S T : Nat → Prop} (h : Kp a b S) (hT : ∀ k, S k → T k) : Kp a b T := ⟨h.os, h.tape, h.out, h.size, fun k hk n => h.blk k hk (fun z => n (hT k z))⟩
/-- A row of cells, in a block of cells. -/
def RwV (w : World) (v : Value) (l : List Cl) : Prop := ∃ a z, v = .slice a l.length z ∧ (l = [] ∨ ∃ y u cur fr, a = some ⟨y, u, none⟩ ∧ w.heap[y]? = some (.cells cur 73 fr) ∧ ∀ i, i < l.length → CC w y (u + i * 2) (l.getD i default))
theorem CC.blk {w w' : World} {b o : Nat} {c : Cl} (h : CC w b o c) (e : w'.heap[b]? = w.heap[b]?) : CC w' b o c := ⟨(World.cell?_of_block (a := ⟨b, o, none⟩) e).trans h.1, (World.cell?_of_block (a := ⟨b, o + 1, none⟩) e).trans h.2⟩
theorem RwV.keep {w w' : World} {v : Value} {l : List Cl} {S : Nat → Prop} (h : RwV w v l) (k : Kp w w' S) (ht : ∀ y cur fr, S y → w.heap[y]? ≠ some (.cells cur 73 fr)) : RwV w' v l := by
  obtain ⟨a, z, rfl, h⟩ := h
  refine ⟨a, z, rfl, ?_⟩
  rcases h with h | ⟨y, u, cur, fr, rfl, e, c⟩
  · exact .inl h
  · have hy : y < w.heap.size := (Array.getElem?_eq_some_iff.1 e).1
    have q := k.blk y hy (fun z => ht y cur fr z e)
    exact .inr ⟨y, u, cur, fr, rfl, q.trans e, fun i hi => (c i hi).blk q⟩
theorem RwV.lat {w w' : World} {v : Value} {l : List Cl} (h : RwV w v l) (b : Below w.heap.size w w') : RwV w' v l := h.keep (Kp.below b (fun _ => False)) (fun _ _ _ z => z.elim)
/-- The rows of the days that have been, where they lie: in a block of rows, from a place on. -/
structure PaV (w : World) (v : Value) (l : List (List Cl)) (vs : List Value) : Prop where
  len : vs.length = l.length
  rows : ∀ i, i < l.length → RwV w (vs.getD i default) (l.getD i [])
  one : ∀ u ∈ vs, u.oneCell' = true
  form : (v = .slice none 0 0 ∧ l = []) ∨ ∃ g o cap cur, v = .slice (some ⟨g, o, none⟩) l.length cap ∧ w.heap[g]? = some (.cells cur 47 (0, 0)) ∧ o + cap ≤ cur.size ∧ l.length ≤ cap ∧ cap ≤ maxLen ∧ ∀ i, i < l.length → cur[o + i]? = some (vs.getD i default)
theorem PaV.keep {w w' : World} {v : Value} {l : List (List Cl)} {vs : List Value} {S : Nat → Prop} (h : PaV w v l vs) (k : Kp w w' S) (ht : ∀ y cur fr, S y → w.heap[y]? ≠ some (.cells cur 73 fr)) (hg : ∀ g, v.ownBlock = some g → ¬ S g) : PaV w' v l vs := by
  refine ⟨h.len, fun i hi => (h.rows i hi).keep k ht, h.one, ?_⟩
  rcases h.form with q | ⟨g, o, cap, cur, rfl, e, r⟩
  · exact .inl q
  · exact .inr ⟨g, o, cap, cur, rfl, (k.blk g (Array.getElem?_eq_some_iff.1 e).1 (hg g rfl)).trans e, r⟩
theorem PaV.lat {w w' : World} {v : Value} {l : List (List Cl)} {vs : List Value} (h : PaV w v l vs) (b : Below w.heap.size w w') : PaV w' v l vs := h.keep (Kp.below b (fun _ => False)) (fun _ _ _ z => z.elim) (fun _ _ z => z.elim)
theorem PaV.lt {w : World} {v : Value} {l : List (List Cl)} {vs : List Value} (h : PaV w v l vs) : ∀ g, v.ownBlock = some g → ∃ cur, w.heap[g]? = some (.cells cur 47 (0, 0)) := by
  intro g hg
  rcases h.form with ⟨rfl, _⟩ | ⟨g', o, cap, cur, rfl, e, _⟩
  · cases hg
  · simp only [Value.ownBlock, Option.some.injEq] at hg
    subst hg
    exact ⟨cur, e⟩
end Go.Proofs.YtpfjnnkjoabgbaaGreatDoor

namespace Go.Proofs.YtpfjnnkjoabgbaaGreatDoor
open Go.RowKit
set_option linter.unusedVariables false
set_option linter.unusedSimpArgs false
/-- A machine (D: the blocks that its program's lists lie in). -/
structure McV (D : Nat → Prop) (w : World) (mb : Nat) (p : Pg) (n : Nds) (cev pav : Value) (s : Ms) : Prop where
  box : BkP w mb (mArr p n s.today s.steps cev pav s.fault s.day) 75
  dl : ∀ k, D k → k < w.heap.size
  pv : ∀ V, (∀ k, D k → V.heap[k]? = w.heap[k]?) → PV V p
  ce : CeR w cev s.cells
  pa : ∃ vs, PaV w pav s.past vs
  dm : ¬ D mb
  dc : ∀ g, cev.ownBlock = some g → ¬ D g
  dp : ∀ g, pav.ownBlock = some g → ¬ D g
  ok : MsOk p n s
/-- The blocks that a day may turn. -/
def turnS (mb : Nat) (cev pav : Value) (k : Nat) : Prop := k = mb ∨ cev.ownBlock = some k ∨ pav.ownBlock = some k
theorem CeR.blk {w w' : World} {v : Value} {l : List Int} (h : CeR w v l) (hb : ∀ g, v.ownBlock = some g → w'.heap[g]? = w.heap[g]?) : CeR w' v l := by
  rcases h with q | q
  · exact .inl q
  · exact .inr (q.blk hb)
theorem CeR.lt {w : World} {v : Value} {l : List Int} (h : CeR w v l) : ∀ g, v.ownBlock = some g → ∃ cur fr, w.heap[g]? = some (.cells cur 3 fr) := by
  intro g hg
  rcases h with ⟨_, a, c, rfl, q⟩ | q
  · rw [q] at hg; cases hg
  · rcases q.2 with ⟨rfl, _⟩ | ⟨g', cap, cur, rfl, _, e, _⟩
    · cases hg
    · simp only [Value.ownBlock, Option.some.injEq] at hg
      subst hg
      exact ⟨cur, _, e⟩
/-- A machine stays while other blocks turn. -/
theorem McV.keep {D : Nat → Prop} {w w' : World} {mb : Nat} {p : Pg} {n : Nds} {cev pav : Value} {s : Ms} {S : Nat → Prop} (h : McV D w mb p n cev pav s) (k : Kp w w' S) (hS : ∀ x, S x → ¬ D x ∧ ¬ turnS mb cev pav x ∧ ∀ cur fr, w.heap[x]? ≠ some (.cells cur 73 fr)) : McV D w' mb p n cev pav s := by
  obtain ⟨vs, pa⟩ := h.pa
  have lt : ∀ {x : Nat} {o : Obj}, w.heap[x]? = some o → x < w.heap.size := fun e => (Array.getElem?_eq_some_iff.1 e).1
  refine ⟨(k.blk mb (lt h.box) (fun z => (hS mb z).2.1 (.inl rfl))).trans h.box, fun x hx => Nat.lt_of_lt_of_le (h.dl x hx) k.size, fun V a => h.pv V (fun x hx => (a x hx).trans (k.blk x (h.dl x hx) (fun z => (hS x z).1 hx))), h.ce.blk (fun g hg => ?_), ⟨vs, pa.keep k (fun y cur fr z => (hS y z).2.2 cur fr) (fun g hg z => (hS g z).2.1 (.inr (.inr hg)))⟩, h.dm, h.dc, h.dp, h.ok⟩
  obtain ⟨cur, fr, e⟩ := h.ce.lt g hg
  exact k.blk g (lt e) (fun z => (hS g z).2.1 (.inr (.inl hg)))
theorem McV.lat {D : Nat → Prop} {w w' : World} {mb : Nat} {p : Pg} {n : Nds} {cev pav : Value} {s : Ms} (h : McV D w mb p n cev pav s) (b : Below w.heap.size w w') : McV D w' mb p n cev pav s := h.keep (Kp.below b (fun _ => False)) (fun _ z => z.elim)
theorem McV.prog {D : Nat → Prop} {w : World} {mb : Nat} {p : Pg} {n : Nds} {cev pav : Value} {s : Ms} (h : McV D w mb p n cev pav s) : PV w p := h.pv w (fun _ _ => rfl)
/-- The blocks that a day may turn are there, and none is of cells or of flows. -/
theorem McV.turn {D : Nat → Prop} {w : World} {mb : Nat} {p : Pg} {n : Nds} {cev pav : Value} {s : Ms} (h : McV D w mb p n cev pav s) {x : Nat} (hx : turnS mb cev pav x) : ∃ cur t fr, w.heap[x]? = some (.cells cur t fr) ∧ (t = 75 ∨ t = 3 ∨ t = 47) := by
  rcases hx with rfl | hx | hx
  · exact ⟨_, _, _, h.box, .inl rfl⟩
  · obtain ⟨cur, fr, e⟩ := h.ce.lt x hx; exact ⟨_, _, _, e, .inr (.inl rfl)⟩
  · obtain ⟨vs, pa⟩ := h.pa
    obtain ⟨cur, e⟩ := pa.lt x hx; exact ⟨_, _, _, e, .inr (.inr rfl)⟩
end Go.Proofs.YtpfjnnkjoabgbaaGreatDoor
