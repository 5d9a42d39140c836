import Derived.Test.YtpfjnnkjoabgbaaGreatDoorXBI
import Derived.Shelf.Abstract
import Derived.WalkMore
import Derived.Test.YtpfjnnkjoabgbaaGreatDoorXAY
import Derived.Test.YtpfjnnkjoabgbaaGreatDoorXAJ
import Derived.Test.YtpfjnnkjoabgbaaGreatDoorXAT
import Derived.Laws.MakeOwn
import Derived.Laws.CopyOwn
namespace Go.Proofs.YtpfjnnkjoabgbaaGreatDoor
open Go.RowKit
set_option linter.unusedVariables false
set_option linter.unusedSimpArgs false
set_option maxRecDepth 100000 in
theorem deed_any {K : Kx} {E : EvM} (hE : KE K E) {w : World} {steps : Int} {r : Rn} (h : RoE K w steps r) (i : In) (d : DPre E i r) : Calls Tryz.prog (fnD.getD i.o.toNat 0) #[.pointer (some ⟨K.rb, 0, none⟩), iAgg i] w fun e w' => e = .returned (.int .i64 (mDo E i r).1) ∧ RoE K w' steps (mDo E i r).2 := by
  have k29 : i.o.toNat < 29 := by have := d.ok.1; have := d.ok.2.1; omega
  have all : i.o.toNat = 0 ∨ i.o.toNat = 1 ∨ i.o.toNat = 2 ∨ i.o.toNat = 3 ∨ i.o.toNat = 4 ∨ i.o.toNat = 5 ∨ i.o.toNat = 6 ∨ i.o.toNat = 7 ∨ i.o.toNat = 8 ∨ i.o.toNat = 9 ∨ i.o.toNat = 10 ∨ i.o.toNat = 11 ∨ i.o.toNat = 12 ∨ i.o.toNat = 13 ∨ i.o.toNat = 14 ∨ i.o.toNat = 15 ∨ i.o.toNat = 16 ∨ i.o.toNat = 17 ∨ i.o.toNat = 18 ∨ i.o.toNat = 19 ∨ i.o.toNat = 20 ∨ i.o.toNat = 21 ∨ i.o.toNat = 22 ∨ i.o.toNat = 23 ∨ i.o.toNat = 24 ∨ i.o.toNat = 25 ∨ i.o.toNat = 26 ∨ i.o.toNat = 27 ∨ i.o.toNat = 28 := by omega
  rcases all with e | e | e | e | e | e | e | e | e | e | e | e | e | e | e | e | e | e | e | e | e | e | e | e | e | e | e | e | e
  · rw [show fnD.getD i.o.toNat 0 = 61 by rw [e]; rfl]; exact end_is hE h i d e
  · rw [show fnD.getD i.o.toNat 0 = 62 by rw [e]; rfl]; exact constant_is hE h i d e
  · rw [show fnD.getD i.o.toNat 0 = 63 by rw [e]; rfl]; exact truth_is hE h i d e
  · rw [show fnD.getD i.o.toNat 0 = 64 by rw [e]; rfl]; exact observe_is hE h i d e
  · rw [show fnD.getD i.o.toNat 0 = 65 by rw [e]; rfl]; exact load_is hE h i d e
  · rw [show fnD.getD i.o.toNat 0 = 66 by rw [e]; rfl]; exact store_is hE h i d e
  · rw [show fnD.getD i.o.toNat 0 = 67 by rw [e]; rfl]; exact keep_is hE h i d e
  · rw [show fnD.getD i.o.toNat 0 = 68 by rw [e]; rfl]; exact get_is hE h i d e
  · rw [show fnD.getD i.o.toNat 0 = 69 by rw [e]; rfl]; exact drop_is hE h i d e
  · rw [show fnD.getD i.o.toNat 0 = 70 by rw [e]; rfl]; exact add_is hE h i d e
  · rw [show fnD.getD i.o.toNat 0 = 71 by rw [e]; rfl]; exact sub_is hE h i d e
  · rw [show fnD.getD i.o.toNat 0 = 72 by rw [e]; rfl]; exact mul_is hE h i d e
  · rw [show fnD.getD i.o.toNat 0 = 73 by rw [e]; rfl]; exact neg_is hE h i d e
  · rw [show fnD.getD i.o.toNat 0 = 74 by rw [e]; rfl]; exact div_is hE h i d e
  · rw [show fnD.getD i.o.toNat 0 = 75 by rw [e]; rfl]; exact mod_is hE h i d e
  · rw [show fnD.getD i.o.toNat 0 = 76 by rw [e]; rfl]; exact abs_is hE h i d e
  · rw [show fnD.getD i.o.toNat 0 = 77 by rw [e]; rfl]; exact lesser_is hE h i d e
  · rw [show fnD.getD i.o.toNat 0 = 78 by rw [e]; rfl]; exact greater_is hE h i d e
  · rw [show fnD.getD i.o.toNat 0 = 79 by rw [e]; rfl]; exact ratio_is hE h i d e
  · rw [show fnD.getD i.o.toNat 0 = 80 by rw [e]; rfl]; exact lt_is hE h i d e
  · rw [show fnD.getD i.o.toNat 0 = 81 by rw [e]; rfl]; exact le_is hE h i d e
  · rw [show fnD.getD i.o.toNat 0 = 82 by rw [e]; rfl]; exact gt_is hE h i d e
  · rw [show fnD.getD i.o.toNat 0 = 83 by rw [e]; rfl]; exact ge_is hE h i d e
  · rw [show fnD.getD i.o.toNat 0 = 84 by rw [e]; rfl]; exact eq_is hE h i d e
  · rw [show fnD.getD i.o.toNat 0 = 85 by rw [e]; rfl]; exact ne_is hE h i d e
  · rw [show fnD.getD i.o.toNat 0 = 86 by rw [e]; rfl]; exact not_is hE h i d e
  · rw [show fnD.getD i.o.toNat 0 = 87 by rw [e]; rfl]; exact jump_is hE h i d e
  · rw [show fnD.getD i.o.toNat 0 = 88 by rw [e]; rfl]; exact zero_is hE h i d e
  · rw [show fnD.getD i.o.toNat 0 = 89 by rw [e]; rfl]; exact flow_is hE h i d e
set_option maxRecDepth 100000 in
theorem enters29 {k : Nat} (h : k < 29) : Enters Tryz.prog (fnD.getD k 0) := by
  have all : k = 0 ∨ k = 1 ∨ k = 2 ∨ k = 3 ∨ k = 4 ∨ k = 5 ∨ k = 6 ∨ k = 7 ∨ k = 8 ∨ k = 9 ∨ k = 10 ∨ k = 11 ∨ k = 12 ∨ k = 13 ∨ k = 14 ∨ k = 15 ∨ k = 16 ∨ k = 17 ∨ k = 18 ∨ k = 19 ∨ k = 20 ∨ k = 21 ∨ k = 22 ∨ k = 23 ∨ k = 24 ∨ k = 25 ∨ k = 26 ∨ k = 27 ∨ k = 28 := by omega
  rcases all with rfl | rfl | rfl | rfl | rfl | rfl | rfl | rfl | rfl | rfl | rfl | rfl | rfl | rfl | rfl | rfl | rfl | rfl | rfl | rfl | rfl | rfl | rfl | rfl | rfl | rfl | rfl | rfl | rfl
  · exact enters_of Tryz.func61 (by kernel_rfl) rfl
  · exact enters_of Tryz.func62 (by kernel_rfl) rfl
  · exact enters_of Tryz.func63 (by kernel_rfl) rfl
  · exact enters_of Tryz.func64 (by kernel_rfl) rfl
  · exact enters_of Tryz.func65 (by kernel_rfl) rfl
  · exact enters_of Tryz.func66 (by kernel_rfl) rfl
  · exact enters_of Tryz.func67 (by kernel_rfl) rfl
  · exact enters_of Tryz.func68 (by kernel_rfl) rfl
  · exact enters_of Tryz.func69 (by kernel_rfl) rfl
  · exact enters_of Tryz.func70 (by kernel_rfl) rfl
  · exact enters_of Tryz.func71 (by kernel_rfl) rfl
  · exact enters_of Tryz.func72 (by kernel_rfl) rfl
  · exact enters_of Tryz.func73 (by kernel_rfl) rfl
  · exact enters_of Tryz.func74 (by kernel_rfl) rfl
  · exact enters_of Tryz.func75 (by kernel_rfl) rfl
  · exact enters_of Tryz.func76 (by kernel_rfl) rfl
  · exact enters_of Tryz.func77 (by kernel_rfl) rfl
  · exact enters_of Tryz.func78 (by kernel_rfl) rfl
  · exact enters_of Tryz.func79 (by kernel_rfl) rfl
  · exact enters_of Tryz.func80 (by kernel_rfl) rfl
  · exact enters_of Tryz.func81 (by kernel_rfl) rfl
  · exact enters_of Tryz.func82 (by kernel_rfl) rfl
  · exact enters_of Tryz.func83 (by kernel_rfl) rfl
  · exact enters_of Tryz.func84 (by kernel_rfl) rfl
  · exact enters_of Tryz.func85 (by kernel_rfl) rfl
  · exact enters_of Tryz.func86 (by kernel_rfl) rfl
  · exact enters_of Tryz.func87 (by kernel_rfl) rfl
  · exact enters_of Tryz.func88 (by kernel_rfl) rfl
  · exact enters_of Tryz.func89 (by kernel_rfl) rfl
/-- The count of steps is another one. -/
theorem RO.steps {K : Kx} {w : World} {stv slv flv : Value} {steps : Int} {r : Rn} (h : RO K w stv slv flv steps r) (s' : Int) : RO K (w.setCell ⟨K.mb, 12, none⟩ (.int .i64 s')) stv slv flv s' r := by
  have x1 := h.mb.set2 12 (.int .i64 s') (by simp [mArr])
  have rw_ : ∀ {t : TypeId} {k : Nat} {u : Value} {n : Nat} {xs : List Value} {C : Nat}, w.ownsRow C t k u n xs → t ≠ 75 → (w.setCell ⟨K.mb, 12, none⟩ (.int .i64 s')).ownsRow C t k u n xs := fun q ht => own_blkG q (fun g hg => bk_block (fun z => own_neB q h.mb ht (by rw [hg, z])))
  refine ⟨h.os, h.tape, h.out, by rw [set_size]; exact h.sz, fun k hk => (bk_block (fun z => h.dm (by rw [← z]; exact hk))).trans (h.fr k hk), h.rb.other _ _ _ (by have := h.mB; have := h.rB; omega), h.rB, by simpa [mArr] using x1, h.mB, rw_ h.st (by decide), rw_ h.sl (by decide), rw_ h.fl (by decide), h.ap, ?_, h.cB, h.r1, h.r2, h.r3, h.dl, h.dr, h.dm, h.dc, h.d1, h.d2, h.d3⟩
  rcases h.ce with q | q
  · exact .inl q
  · exact .inr (rw_ q (by decide))
/-- The same, with one block more that stays. -/
def Kx.and (K : Kx) (W : World) (b : Nat) : Kx := { K with w0 := W, D := fun k => K.D k ∨ k = b }
theorem RO.rebase {K : Kx} {w : World} {stv slv flv : Value} {steps : Int} {r : Rn} (h : RO K w stv slv flv steps r) {b : Nat} {cs : Array Value} {t : TypeId} (hb : BkP w b cs t) (ht : t ≠ 75 ∧ t ≠ 83 ∧ t ≠ 3 ∧ t ≠ 54) : RO (K.and w b) w stv slv flv steps r := by
  refine ⟨rfl, rfl, rfl, Nat.le_refl _, fun _ _ => rfl, h.rb, h.rB, h.mb, h.mB, h.st, h.sl, h.fl, h.ap, h.ce, h.cB, h.r1, h.r2, h.r3, ?_, ?_, ?_, ?_, ?_, ?_, ?_⟩
  · rintro k (hk | rfl)
    · exact Nat.lt_of_lt_of_le (h.dl k hk) h.sz
    · exact hb.lt
  · rintro (hk | hk)
    · exact h.dr hk
    · exact bk_ne h.rb hb (Ne.symm ht.2.1) hk
  · rintro (hk | hk)
    · exact h.dm hk
    · exact bk_ne h.mb hb (Ne.symm ht.1) hk
  · rintro g hg (hk | hk)
    · exact h.dc g hg hk
    · subst hk
      rcases h.ce with ⟨_, a, c, e, q⟩ | q
      · have hg' : K.cev.ownBlock = some g := hg
        rw [q] at hg'; cases hg'
      · exact own_neB q hb (Ne.symm ht.2.2.1) hg
  · rintro g hg (hk | hk)
    · exact h.d1 g hg hk
    · subst hk; exact own_neB h.st hb (Ne.symm ht.2.2.1) hg
  · rintro g hg (hk | hk)
    · exact h.d2 g hg hk
    · subst hk; exact own_neB h.sl hb (Ne.symm ht.2.2.1) hg
  · rintro g hg (hk | hk)
    · exact h.d3 g hg hk
    · subst hk; exact own_neB h.fl hb (Ne.symm ht.2.2.2) hg
theorem RO.unbase {K : Kx} {W w : World} {b : Nat} {stv slv flv : Value} {steps : Int} {r : Rn} (h : RO (K.and W b) w stv slv flv steps r) {stv0 slv0 flv0 : Value} {steps0 : Int} {r0 : Rn} (h0 : RO K W stv0 slv0 flv0 steps0 r0) : RO K w stv slv flv steps r :=
  ⟨h.os.trans h0.os, h.tape.trans h0.tape, h.out.trans h0.out, Nat.le_trans h0.sz h.sz, fun k hk => (h.fr k (.inl hk)).trans (h0.fr k hk), h.rb, h.rB, h.mb, h.mB, h.st, h.sl, h.fl, h.ap, h.ce, h.cB, h.r1, h.r2, h.r3, h0.dl, fun z => h.dr (.inl z), fun z => h.dm (.inl z), fun g hg z => h.dc g hg (.inl z), fun g hg z => h.d1 g hg (.inl z), fun g hg z => h.d2 g hg (.inl z), fun g hg z => h.d3 g hg (.inl z)⟩
theorem KE.rebase {K : Kx} {E : EvM} (h : KE K E) {W : World} {b : Nat} {stv slv flv : Value} {steps : Int} {r : Rn} (h0 : RO K W stv slv flv steps r) : KE (K.and W b) E := by
  have on : ∀ V, (K.and W b).On V → K.On V := fun V q k hk => (q k (.inl hk)).trans (h0.fr k hk)
  exact ⟨h.t, h.plen, fun V q => h.pool V (on V q), h.clen, fun V q => h.curs V (on V q), fun V q => h.row V (on V q), fun V q => h.past V (on V q), h.ip, h.ir, h.ia⟩
/-- A day's code lies in memory. -/
def CdV (K : Kx) (code : List In) : Prop := ∃ x o c, K.codev = .slice (some ⟨x, o, none⟩) code.length c ∧ ∀ V, K.On V → ∀ i, i < code.length → V.cell? ⟨x, o + i * 3, none⟩ = some (.int .i64 (code.getD i default).o) ∧ V.cell? ⟨x, o + i * 3 + 1, none⟩ = some (.int .i64 (code.getD i default).a) ∧ V.cell? ⟨x, o + i * 3 + 2, none⟩ = some (.int .i64 (code.getD i default).b)
theorem RO.mach {K : Kx} {w : World} {stv slv flv : Value} {steps : Int} {r : Rn} (h : RO K w stv slv flv steps r) : w.cell? ⟨K.mb, 12, none⟩ = some (.int .i64 steps) ∧ w.frozen? ⟨K.mb, 12, none⟩ = false ∧ w.frozen? ⟨K.rb, 2, none⟩ = false := ⟨by rw [h.mb.cell]; rfl, h.mb.frozen 12, h.rb.frozen 2⟩
end Go.Proofs.YtpfjnnkjoabgbaaGreatDoor

namespace Go.Proofs.YtpfjnnkjoabgbaaGreatDoor
open Go.RowKit
set_option linter.unusedVariables false
set_option linter.unusedSimpArgs false
def nxOf (w : World) (b : Nat) : Nat := match w.cell? ⟨b, 2, none⟩ with | some v => (intOf v).toNat | none => 0
theorem fnV_cell {w : World} {b : Nat} (h : BkP w b fnV 114) {k : Nat} (hk : k < 29) : w.cell? ⟨b, k, none⟩ = some (.func (.func (fnD.getD k 0)) #[] #[]) := by
  rw [h.cell]
  have e : fnV[k]? = some (Value.func (.func (fnD.getD k 0)) #[] #[]) := by
    have l : fnD.length = 29 := by rfl
    unfold fnV
    simp [List.getD, l, hk]
  exact e
/-- What is left to do. -/
def GoR (E : EvM) (code : List In) (j : Nat) (r : Rn) (R : Int × Nat × Rn) : Prop := ∃ m, code.length ≤ r.nx + m ∧ R = ((mGo E code m r).1, (mGo E code m r).2.1 + j, (mGo E code m r).2.2)
theorem GoR.next {E : EvM} {code : List In} {j : Nat} {r : Rn} {R : Int × Nat × Rn} (h : GoR E code j r R) (lt : r.nx < code.length) (f : (mAt E code r).1 = 0) (n : (mAt E code r).2.en = false) (up : r.nx < (mAt E code r).2.nx) : GoR E code (j + 1) (mAt E code r).2 R := by
  obtain ⟨m, hm, e⟩ := h
  obtain ⟨m, rfl⟩ : ∃ k, m = k + 1 := ⟨m - 1, by omega⟩
  refine ⟨m, by omega, ?_⟩
  rw [e, mGo_on f n]
  simp only
  congr 2
  omega
theorem GoR.end {E : EvM} {code : List In} {j : Nat} {r : Rn} {R : Int × Nat × Rn} (h : GoR E code j r R) (lt : r.nx < code.length) (f : (mAt E code r).1 ≠ 0 ∨ (mAt E code r).2.en = true) : R = ((mAt E code r).1, j + 1, (mAt E code r).2) := by
  obtain ⟨m, hm, e⟩ := h
  obtain ⟨m, rfl⟩ : ∃ k, m = k + 1 := ⟨m - 1, by omega⟩
  rw [e, mGo_off f]
  simp only
  congr 2
  omega
theorem RO.both {K : Kx} {w : World} {stv slv flv : Value} {steps : Int} {r : Rn} (h : RO K w stv slv flv steps r) : RO K ((w.setCell ⟨K.rb, 2, none⟩ (.int .i64 ((r.nx : Int) + 1))).setCell ⟨K.mb, 12, none⟩ (.int .i64 (steps + 1))) stv slv flv (steps + 1) { r with nx := r.nx + 1 } := (h.field 2 (.int .i64 ((r.nx : Int) + 1)) (by omega) (r' := { r with nx := r.nx + 1 }) (by simp [rArr]) rfl rfl rfl rfl).steps (steps + 1)
set_option maxRecDepth 100000 in
set_option maxHeartbeats 3200000 in
theorem goThrough_any {K : Kx} {p : Pg} {n : Nds} {s : Ms} {row : List Cl} (hE : KE K (p.env s row)) {code : List In} (hcd : CdV K code) (dk : DayOk p n s.today code) (hc : canP p) (ms : MsOk p n s) {w : World} (h : RoE K w s.steps s.begun) (R : Int × Nat × Rn) (hR : mGo (p.env s row) code code.length s.begun = R) : Calls Tryz.prog 29 #[.pointer (some ⟨K.rb, 0, none⟩)] w fun e w' => e = .returned (.int .i64 R.1) ∧ RoE K w' (s.steps + (R.2.1 : Int)) R.2.2 := by
  obtain ⟨stv, slv, flv, h⟩ := h
  obtain ⟨x, o, c, hcv, hcc⟩ := hcd
  have c1 := (run_cells h).2.1
  rw [hcv] at c1
  have l0 : ¬ ((code.length : Int) = 0) := by have := dk.pos; omega
  have l1 : decide ((code.length : Int) = 0) = false := by simpa using l0
  have l2 : ((code.length : Int) == 0) = false := by simpa using l0
  have l3 : ¬ (code.length = 0) := by have := dk.pos; omega
  have s0 := ms.s0
  have s1 : s.steps ≤ 1000000000 := by have := ms.s1; have := ms.t1; have := numP_hor hc.1; omega
  have cl := dk.len
  have st0 := Lib.hid (p := GoR (p.env s row) code 0 s.begun R ∧ Iv s.today code p.cells.toNat s.begun) ⟨⟨code.length, by simp [Ms.begun], by rw [← hR]; rfl⟩, ⟨sits_start dk.run dk.pos s.cells, by simp [Ms.begun], by simp [Ms.begun], by simp [Ms.begun], ms.ce⟩⟩
  have KD := Lib.hid (deeds_any w)
  have HB := Lib.hid (p := ∀ w1, Below w.heap.size w w1 → RO (K.and (w1.alloc (.cells fnV 114)) w1.heap.size) (w1.alloc (.cells fnV 114)) stv slv flv s.steps s.begun ∧ KE (K.and (w1.alloc (.cells fnV 114)) w1.heap.size) (p.env s row)) (fun w1 b => by
    have q := (h.lat b).lat (allocBP w1 (.cells fnV 114))
    exact ⟨q.rebase (heapN _ _) (by decide), hE.rebase q⟩)
  have UB := Lib.hid (p := ∀ w1, Below w.heap.size w w1 → ∀ W st r, RoE (K.and (w1.alloc (.cells fnV 114)) w1.heap.size) W st r → RoE K W st r) (fun w1 b W st r q => by
    obtain ⟨a1, a2, a3, q⟩ := q
    exact ⟨a1, a2, a3, q.unbase ((h.lat b).lat (allocBP w1 (.cells fnV 114)))⟩)
  have CC0 := Lib.hid hcc
  have DP := Lib.hid (p := ∀ r, Iv s.today code p.cells.toNat r → DPre (p.env s row) (code.getD r.nx default) { r with nx := r.nx + 1 }) (fun r iv => dpre_of dk hc ms iv)
  have NX := Lib.hid (p := ∀ r, Iv s.today code p.cells.toNat r → (mAt (p.env s row) code r).1 = 0 → (mAt (p.env s row) code r).2.en = false → Iv s.today code p.cells.toNat (mAt (p.env s row) code r).2 ∧ r.nx < (mAt (p.env s row) code r).2.nx) (fun r iv a b => iv_next dk.run dk.ok iv a b)
  generalize p.env s row = E at *
  clear h hE hR hcc hc ms dk
  generalize hst : s.steps = st0v at *
  generalize hbg : s.begun = bg at *
  generalize s.today = td at *
  generalize p.cells.toNat = nc at *
  clear hst hbg
  go_enter Tryz.func29, Tryz.ntmps29
  go_wp2
  go_step3
  go_wp2_with (first | (go_at_call 46; refine KD.out.mono ?_; rintro e w1 ⟨rfl, h1⟩; have B1 := Lib.hid h1; clear h1) | (with_reducible show wpList _ _ _ (Oper.mk _ (Op.alloc 114) _ _ _ _ :: _) _ _; refine alloc_dd rfl rfl ?_; intro cdd hcdd) | (with_reducible show wpList _ _ _ (Oper.mk _ (Op.store 114 _ _) _ _ _ _ :: _) _ _; refine store_dd rfl _ _ rfl cdd hcdd rfl rfl ?_))
  go_step3
  go_wp2
  obtain ⟨h0, hE⟩ := HB.out w1 B1.out
  have UB1 := Lib.hid (UB.out w1 B1.out)
  have HE := Lib.hid hE
  have D0 : BkP (w1.alloc (.cells fnV 114)) w1.heap.size fnV 114 := heapN _ _
  have FV := Lib.hid (p := ∀ V, (K.and (w1.alloc (.cells fnV 114)) w1.heap.size).On V → BkP V w1.heap.size fnV 114) (fun V hV => (hV _ (.inr rfl)).trans D0)
  have CD := Lib.hid (p := ∀ V, (K.and (w1.alloc (.cells fnV 114)) w1.heap.size).On V → ∀ i, i < code.length → V.cell? ⟨x, o + i * 3, none⟩ = some (.int .i64 (code.getD i default).o) ∧ V.cell? ⟨x, o + i * 3 + 1, none⟩ = some (.int .i64 (code.getD i default).a) ∧ V.cell? ⟨x, o + i * 3 + 2, none⟩ = some (.int .i64 (code.getD i default).b)) (fun V hV => CC0.out V (fun k hk => (hV k (.inl hk)).trans (RoE.on (UB.out w1 B1.out _ _ _ ⟨_, _, _, h0⟩) k hk)))
  have R0 := Lib.hid (p := RoE (K.and (w1.alloc (.cells fnV 114)) w1.heap.size) (w1.alloc (.cells fnV 114)) st0v bg) ⟨_, _, _, h0⟩
  obtain ⟨K', hK'⟩ : ∃ K', K' = K.and (w1.alloc (.cells fnV 114)) w1.heap.size := ⟨_, rfl⟩
  have e1 : K'.rb = K.rb := by rw [hK']; rfl
  have e2 : K'.mb = K.mb := by rw [hK']; rfl
  have e3 : K'.codev = .slice (some ⟨x, o, none⟩) code.length c := by rw [hK']; exact hcv
  rw [← hK'] at FV CD R0 UB1 HE
  rw [← e1]
  have E3 := Lib.hid e3
  clear HB UB CC0 h0 hE D0 hK' hcv c1 KD cdd hcdd e1 e2 e3
  generalize w1.heap.size = db at *
  go_loopw [4] (fun f wr => ∃ (j : Nat) (r : Rn), f = .int .i64 0 ∧ RowKit.Hid (GoR E code j r R ∧ Iv td code nc r ∧ j ≤ r.nx) ∧ RoE K' wr (st0v + (j : Int)) r) (fun _ wr => code.length - nxOf wr K'.rb)
  case atStart => exact ⟨0, bg, rfl, ⟨st0.out.1, st0.out.2, Nat.zero_le _⟩, by simpa using R0.out⟩
  case round =>
    clear st0 R0
    rename World => wr
    obtain ⟨j, r, rfl, hh, hr⟩ := hrel
    obtain ⟨go, iv, hj⟩ := hh.out
    obtain ⟨sv, lv, fv, h⟩ := hr
    have lt := iv.s.lt
    obtain ⟨q0, q1, q2⟩ := CD.out wr h.on r.nx lt
    obtain ⟨r0, r1, r2, r3, _⟩ := run_cells h
    rw [E3.out] at r1
    have nx0 : ¬ (r.nx : Int) < 0 := by omega
    have nx1 : (r.nx : Int) < (code.length : Int) := by omega
    have n1 := World.new_ne wr ⟨x, o + r.nx * 3, none⟩ q0
    have n2 := World.new_ne wr ⟨K'.rb, 1, none⟩ r1
    simp only at n1 n2
    have m0 := Lib.hid (p := nxOf wr K'.rb = r.nx) (by unfold nxOf; rw [r2]; simp [intOf])
    have G := Lib.hid go
    have I := Lib.hid iv
    have HR := Lib.hid h
    generalize hii : code.getD r.nx default = i at *
    obtain ⟨io, ia, ib⟩ := i
    simp only at q0 q1 q2
    clear hh h go iv
    go_wp2
    go_region_held3 (fun w' => w'.cell? ⟨K'.rb, 1, none⟩ = some (.slice (some ⟨x, o, none⟩) code.length c) ∧ w'.cell? ⟨K'.rb, 2, none⟩ = some (.int .i64 (r.nx : Int)) ∧ w'.cell? ⟨x, o + r.nx * 3, none⟩ = some (.int .i64 io) ∧ w'.cell? ⟨x, o + r.nx * 3 + 1, none⟩ = some (.int .i64 ia) ∧ w'.cell? ⟨x, o + r.nx * 3 + 2, none⟩ = some (.int .i64 ib))
      (go_keep)
      (fail)
    have dp := DP.out r I.out
    rw [hii] at dp
    obtain ⟨k, rfl⟩ : ∃ k : Nat, io = (k : Int) := ⟨io.toNat, by have := dp.ok.1; simp only at this; omega⟩
    have k29 : k < 29 := by have := dp.ok.2.1; simp only at this; omega
    obtain ⟨W4, hW4⟩ : ∃ W, (wr.alloc (Obj.cells #[.int .i64 (k : Int), .int .i64 ia, .int .i64 ib] 68)).drew = W := ⟨_, rfl⟩
    have h4 : RO K' W4 sv lv fv (st0v + (j : Int)) r := by rw [← hW4]; exact HR.out.lat (adr _ _)
    have ib4 : BkP W4 wr.heap.size #[.int .i64 (k : Int), .int .i64 ia, .int .i64 ib] 68 := by rw [← hW4]; exact heapN _ _
    rw [hW4]
    clear hW4 q0 q1 q2 r0 r1 r2 r3 n1 n2 HR
    obtain ⟨p0, p1, p2, p3, _⟩ := run_cells h4
    obtain ⟨m12, f12, f2⟩ := h4.mach
    have ne1 : ¬ K'.rb = K'.mb := by have := h4.mB; have := h4.rB; omega
    have ne2 : ¬ K'.mb = K'.rb := fun z => ne1 z.symm
    have jl : (j : Int) ≤ 262144 := by omega
    have ks1 : IntKind.i64.wrap ((r.nx : Int) + 1) = (r.nx : Int) + 1 := by simp [IntKind.wrap, IntKind.bits, IntKind.signed]; omega
    have ks2 : IntKind.i64.wrap (st0v + (j : Int) + 1) = st0v + (j : Int) + 1 := by simp [IntKind.wrap, IntKind.bits, IntKind.signed]; omega
    have H6 := Lib.hid h4.both
    have ib6 : BkP ((W4.setCell ⟨K'.rb, 2, none⟩ (.int .i64 ((r.nx : Int) + 1))).setCell ⟨K'.mb, 12, none⟩ (.int .i64 (st0v + (j : Int) + 1))) wr.heap.size #[.int .i64 (k : Int), .int .i64 ia, .int .i64 ib] 68 := (ib4.other _ _ _ (bk_ne h4.rb ib4 (by decide))).other _ _ _ (bk_ne h4.mb ib4 (by decide))
    have IB6 := Lib.hid ib6
    clear h4 ib4 ib6
    go_wp2
    obtain ⟨W6, hW6⟩ : ∃ W, (W4.setCell ⟨K'.rb, 2, none⟩ (.int .i64 ((r.nx : Int) + 1))).setCell ⟨K'.mb, 12, none⟩ (.int .i64 (st0v + (j : Int) + 1)) = W := ⟨_, rfl⟩
    rw [hW6] at H6 IB6 ⊢
    clear hW6 p0 p1 p2 p3 m12 f12 f2 ne1 ne2 ks1 ks2
    have b0 := IB6.out.cell 0
    have b1 := IB6.out.cell 1
    have b2 := IB6.out.cell 2
    simp only [List.getElem?_toArray, List.getElem?_cons_zero, List.getElem?_cons_succ] at b0 b1 b2
    have d0 := fnV_cell (FV.out W6 H6.out.on) k29
    have k0 : ¬ (k : Int) < 0 := by omega
    have k1 : (k : Int) < 29 := by omega
    have KD := Lib.hid (p := ∀ V, Below W6.heap.size W6 V → Calls Tryz.prog (fnD.getD k 0) #[.pointer (some ⟨K'.rb, 0, none⟩), .agg #[.int .i64 (k : Int), .int .i64 ia, .int .i64 ib]] V fun e w' => e = .returned (.int .i64 (mAt E code r).1) ∧ RoE K' w' (st0v + (j : Int) + 1) (mAt E code r).2 ∧ w'.cell? ⟨wr.heap.size, 0, none⟩ = some (.int .i64 (k : Int)) ∧ w'.cell? ⟨wr.heap.size, 1, none⟩ = some (.int .i64 ia) ∧ w'.cell? ⟨wr.heap.size, 2, none⟩ = some (.int .i64 ib) ∧ w'.cell? ⟨db, k, none⟩ = some (.func (.func (fnD.getD k 0)) #[] #[])) (fun V b => by
      have h6 := H6.out
      have this := deed_any (HE.out.rebase (b := wr.heap.size) h6) ⟨_, _, _, (h6.rebase IB6.out (by decide)).lat b⟩ ⟨(k : Int), ia, ib⟩ dp
      unfold mAt
      rw [hii]
      refine this.mono ?_
      rintro e w' ⟨rfl, hq⟩
      have on := hq.on
      obtain ⟨a1, a2, a3, hq⟩ := hq
      have bk : BkP w' wr.heap.size #[.int .i64 (k : Int), .int .i64 ia, .int .i64 ib] 68 := (on _ (.inr rfl)).trans IB6.out
      have u := hq.unbase h6
      exact ⟨rfl, ⟨a1, a2, a3, u⟩, by rw [bk.cell]; rfl, by rw [bk.cell]; rfl, by rw [bk.cell]; rfl, fnV_cell (FV.out w' u.on) k29⟩)
    have NX1 := Lib.hid (NX.out r I.out)
    have GN := Lib.hid (fun f g u => G.out.next (E := E) lt f g u)
    have GE := Lib.hid (fun f => G.out.end (E := E) lt f)
    obtain ⟨f, hf⟩ : ∃ f, (mAt E code r).1 = f := ⟨_, rfl⟩
    obtain ⟨r2, hr2⟩ : ∃ r2, (mAt E code r).2 = r2 := ⟨_, rfl⟩
    rw [hf, hr2] at KD NX1 GN GE
    have EN : ∀ args w, (callFunc (fnD.getD k 0) args).run Tryz.prog w = .ok (.enter (fnD.getD k 0) args) w := enters29 k29
    generalize fnD.getD k 0 = fn at *
    clear hf hr2 dp H6 IB6 G hii
    go_region_held3 (fun w' => w'.cell? ⟨wr.heap.size, 0, none⟩ = some (.int .i64 (k : Int)) ∧ w'.cell? ⟨wr.heap.size, 1, none⟩ = some (.int .i64 ia) ∧ w'.cell? ⟨wr.heap.size, 2, none⟩ = some (.int .i64 ib) ∧ w'.cell? ⟨db, k, none⟩ = some (.func (.func fn) #[] #[]))
      (go_keep)
      (first | (go_at_fn fn; refine (KD.out _ (by first | exact Below.refl _ _ | exact drew1 _)).mono ?_; rintro e w7 ⟨rfl, h7, z0, z1, z2, z3⟩; have H7 := Lib.hid h7; clear h7))
    obtain ⟨t1, t2, t3, h7⟩ := H7.out
    obtain ⟨_, _, y2, y3, _⟩ := run_cells h7
    have U7 := Lib.hid (UB1.out w7 _ _ ⟨t1, t2, t3, h7⟩)
    have a1 : st0v + (j : Int) + 1 = st0v + ((j + 1 : Nat) : Int) := by omega
    clear h7 z0 z1 z2 z3 KD EN b0 b1 b2 d0
    by_cases hf0 : f = 0
    · subst hf0
      cases hen : r2.en with
      | true =>
        have ee := Lib.hid (GE.out (.inr hen))
        rw [hen] at y3
        clear hen GE GN NX1
        go_wp2
        have q := ee.out
        subst q
        rw [Exit.noGoto_ret]
        go_ret
        refine ⟨rfl, ?_⟩
        have u := U7.out
        rw [a1] at u
        exact u
      | false =>
        obtain ⟨iv2, up⟩ := NX1.out rfl hen
        have g2 := GN.out rfl hen up
        have m1 : nxOf w7 K'.rb = r2.nx := by unfold nxOf; rw [y2]; simp [intOf]
        rw [hen] at y3
        clear hen GE GN NX1
        go_wp2
        refine ⟨⟨j + 1, r2, rfl, ⟨g2, iv2, by omega⟩, ?_⟩, ?_⟩
        · rw [← a1]; exact H7.out
        · rw [m1, m0.out]; omega
    · have z : (f != 0) = true := by simpa using hf0
      have ee := Lib.hid (GE.out (.inl hf0))
      clear GE GN NX1
      go_wp2
      have q := ee.out
      subst q
      rw [Exit.noGoto_ret]
      go_ret
      refine ⟨rfl, ?_⟩
      have u := U7.out
      rw [a1] at u
      exact u
end Go.Proofs.YtpfjnnkjoabgbaaGreatDoor

namespace Go.Proofs.YtpfjnnkjoabgbaaGreatDoor
open Go.RowKit
set_option linter.unusedVariables false
set_option linter.unusedSimpArgs false
set_option maxRecDepth 100000 in
theorem codeOf1_any (d : Int) (ca : Option Addr) (n cc : Nat) (t : Int) (w : World) : Calls Tryz.prog 58 #[.agg #[.int .i64 d, .slice ca n cc], .int .i64 t] w fun e w' => e = .returned (.int .i64 (Lib.compareInt d t)) ∧ Below w.heap.size w w' := by
  have KC := Lib.hid (fun W => Tryz.cmp_Compare_int d t W)
  have B := Lib.hid (allocBP w (.cells #[.int .i64 d, .slice ca n cc] 71))
  go_enter Tryz.func58, Tryz.ntmps58
  go_wp2_with (go_at_call 59; refine (KC.out _).mono ?_; rintro e w1 ⟨rfl, rfl⟩)
  go_ret
  exact ⟨rfl, B.out⟩
/-- What the search answers. -/
def BsE (w : World) (days : List Sg) (t : Int) (e : Ending) (w' : World) : Prop := ∃ k : Nat, k ≤ days.length ∧ e = .returned (.tuple #[.int .i64 (k : Int), .bool (decide (k < days.length ∧ (days.getD k default).day = t))]) ∧ Below w.heap.size w w' ∧ (∀ i, i < k → (days.getD i default).day < t) ∧ (∀ i, k ≤ i → i < days.length → t ≤ (days.getD i default).day)
set_option maxRecDepth 100000 in
set_option maxHeartbeats 1600000 in
theorem bsf_any {w : World} {da : Option Addr} {dc : Nat} {days : List Sg} (h : GL w da days.length dc days) (t : Int) (hn : days.length ≤ 4000) (up : ∀ i j, i < j → j < days.length → (days.getD i default).day < (days.getD j default).day) : Calls Tryz.prog 57 #[.slice da days.length dc, .int .i64 t, .func (.func 58) #[] #[]] w fun e w' => BsE w days t e w' := by
  have KC := Lib.hid (fun d ca n cc W => codeOf1_any d ca n cc t W)
  have DR := Lib.hid h.2.2.2.2
  have UP := Lib.hid up
  clear h up
  go_enter Tryz.func57, Tryz.ntmps57
  go_wp2
  go_loopw [9, 10] (fun a b wr => ∃ i j : Nat, i ≤ j ∧ j ≤ days.length ∧ a = .int .i64 (i : Int) ∧ b = .int .i64 (j : Int) ∧ Below w.heap.size w wr ∧ RowKit.Hid ((∀ k, k < i → (days.getD k default).day < t) ∧ (∀ k, j ≤ k → k < days.length → t ≤ (days.getD k default).day))) (fun a b _ => (intOf b).toNat - (intOf a).toNat)
  case atStart => exact ⟨0, days.length, by omega, by omega, rfl, rfl, Below.refl _ _, ⟨fun k hk => by omega, fun k h1 h2 => by omega⟩⟩
  case round =>
    rename World => wr
    obtain ⟨i, j, hij, hj, rfl, rfl, hB, hH⟩ := hrel
    by_cases hlt : i < j
    · have kc : (i : Int) < (j : Int) := by omega
      have ks : IntKind.i64.wrap ((i : Int) + (j : Int)) = (i : Int) + (j : Int) := by simp [IntKind.wrap, IntKind.bits, IntKind.signed]; omega
      obtain ⟨m, hm⟩ : ∃ m : Nat, m = (i + j) / 2 := ⟨_, rfl⟩
      have hm2 : ((i : Int) + (j : Int)) / 2 = (m : Int) := by omega
      have m1 : i ≤ m := by omega
      have m2 : m < j := by omega
      have m0 : ¬ (m : Int) < 0 := by omega
      have m3 : (m : Int) < (days.length : Int) := by omega
      have ks2 : IntKind.i64.wrap ((m : Int) + 1) = (m : Int) + 1 := by simp [IntKind.wrap, IntKind.bits, IntKind.signed]; omega
      obtain ⟨x, o, hda, hx, hc⟩ := (DR.out.later hB).oneP (by omega)
      have c0 := hc m (by omega) 0 (by omega)
      have c1 := hc m (by omega) 1 (by omega)
      simp only [Sg.cs, Nat.add_zero, List.getD_cons_zero, List.getD_cons_succ] at c0 c1
      have BB := Lib.hid hB
      have HH := Lib.hid hH.out
      obtain ⟨up1, up2⟩ := hH.out
      have U1 := Lib.hid (p := (days.getD m default).day < t → (∀ k, k < m + 1 → (days.getD k default).day < t)) (fun z k hk => by
        by_cases e : k = m
        · subst e; exact z
        · have := UP.out k m (by omega) (by omega); omega)
      have U2 := Lib.hid (p := ¬ (days.getD m default).day < t → (∀ k, m ≤ k → k < days.length → t ≤ (days.getD k default).day)) (fun z k h1 h2 => by
        by_cases e : k = m
        · subst e; omega
        · have := UP.out m k (by omega) h2; omega)
      generalize days.getD m default = s at *
      obtain ⟨sd, sa, sc, sl⟩ := s
      simp only at c0 c1 U1 U2
      subst hda
      clear hc hB hH up1 up2 hm
      go_wp2_with (go_at_call 58; refine (KC.out sd sa sl.length sc _).mono ?_; rintro e w1 ⟨rfl, h1⟩; have B1 := Lib.hid h1; clear h1)
      · rename_i q
        have q2 : sd < t := by
          unfold Lib.compareInt at q
          split at q
          · assumption
          · split at q <;> omega
        refine ⟨⟨m + 1, j, by omega, hj, by simp, rfl, BB.out.trans (B1.out.mono BB.out.size), ⟨U1.out q2, HH.out.2⟩⟩, ?_⟩
        simp [intOf]; omega
      · rename_i q
        have q2 : t ≤ sd := by unfold Lib.compareInt at q; split at q <;> omega
        refine ⟨⟨i, m, m1, by omega, rfl, rfl, BB.out.trans (B1.out.mono BB.out.size), ⟨HH.out.1, U2.out (by omega)⟩⟩, ?_⟩
        simp [intOf]; omega
    · have e : i = j := by omega
      subst e
      have kc : ¬ (i : Int) < (i : Int) := by omega
      have BB := Lib.hid hB
      have HH := Lib.hid hH.out
      by_cases hn2 : i < days.length
      · have k2 : (i : Int) < (days.length : Int) := by omega
        have m0 : ¬ (i : Int) < 0 := by omega
        obtain ⟨x, o, hda, hx, hc⟩ := (DR.out.later hB).oneP (by omega)
        have c0 := hc i (by omega) 0 (by omega)
        have c1 := hc i (by omega) 1 (by omega)
        simp only [Sg.cs, Nat.add_zero, List.getD_cons_zero, List.getD_cons_succ] at c0 c1
        have E := Lib.hid (p := ∀ W, Below w.heap.size w W → BsE w days t (.returned (.tuple #[.int .i64 (i : Int), .bool (Lib.compareInt (days.getD i default).day t == 0)])) W) (fun W b => ⟨i, hj, by
          have q : (Lib.compareInt (days.getD i default).day t == 0) = decide (i < days.length ∧ (days.getD i default).day = t) := by
            generalize (days.getD i default).day = z
            unfold Lib.compareInt
            by_cases a : z < t
            · rw [if_pos a]
              have : ¬ (z = t) := by omega
              simp [this]
            · rw [if_neg a]
              by_cases b : z > t
              · rw [if_pos b]
                have : ¬ (z = t) := by omega
                simp [this]
              · rw [if_neg b]
                have : z = t := by omega
                simp [hn2, this]
          rw [q], b, HH.out.1, HH.out.2⟩)
        generalize days.getD i default = s at *
        obtain ⟨sd, sa, sc, sl⟩ := s
        simp only at c0 c1 E
        subst hda
        clear hc hB hH HH
        go_wp2_with (go_at_call 58; refine (KC.out sd sa sl.length sc _).mono ?_; rintro e w1 ⟨rfl, h1⟩; have B1 := Lib.hid h1; clear h1)
        go_ret2
        exact E.out _ (BB.out.trans (B1.out.mono BB.out.size))
      · have k2 : ¬ (i : Int) < (days.length : Int) := by omega
        have k3 : (i < days.length) = False := by simp; omega
        have E := Lib.hid (p := BsE w days t (.returned (.tuple #[.int .i64 (i : Int), .bool false])) wr) ⟨i, hj, by
          have q : decide (i < days.length ∧ (days.getD i default).day = t) = false := by simp only [k3, false_and, decide_false]
          rw [q], hB, HH.out.1, HH.out.2⟩
        have k4 : decide ((i : Int) < (days.length : Int)) = false := by simp; omega
        have k5 : decide (i < days.length) = false := by simp; omega
        clear hB hH HH k3
        go_wp2
        go_ret2
        exact E.out
/-- What codeOf answers. -/
def CdE (days : List Sg) (t : Int) (v : Value) : Prop := (dayCode days t = [] ∧ v = .slice none 0 0) ∨ ∃ i, i < days.length ∧ (days.getD i default).day = t ∧ dayCode days t = (days.getD i default).code ∧ v = .slice (days.getD i default).ca (days.getD i default).code.length (days.getD i default).cc
end Go.Proofs.YtpfjnnkjoabgbaaGreatDoor

namespace Go.Proofs.YtpfjnnkjoabgbaaGreatDoor
open Go.RowKit
set_option linter.unusedVariables false
set_option linter.unusedSimpArgs false
def zCl : Cl := ⟨false, 0⟩
def Cl.two (c : Cl) : List Value := [.bool c.h, .int .i64 c.v]
def clv (l : List Cl) : List Value := l.flatMap Cl.two
theorem clv_len (l : List Cl) : (clv l).length = l.length * 2 := by
  induction l with
  | nil => rfl
  | cons p r ih => simp [clv, Cl.two] at ih ⊢; omega
theorem clv_app (a b : List Cl) : clv (a ++ b) = clv a ++ clv b := by simp [clv]
theorem clv_at : ∀ (l : List Cl) (i : Nat), i < l.length → ∀ j, j < 2 → (clv l)[i * 2 + j]? = (l.getD i default).two[j]?
  | [], i, h, _, _ => by simp at h
  | g :: gs, 0, h, j, hj => by
    show (g.two ++ clv gs)[0 * 2 + j]? = _
    rw [Nat.zero_mul, Nat.zero_add, List.getElem?_append_left (by simp [Cl.two]; omega)]
    rfl
  | g :: gs, i + 1, h, j, hj => by
    have ih := clv_at gs i (by simpa using h) j hj
    show (g.two ++ clv gs)[(i + 1) * 2 + j]? = _
    rw [List.getElem?_append_right (by simp [Cl.two]; omega)]
    rw [show (i + 1) * 2 + j - g.two.length = i * 2 + j by simp [Cl.two]; omega, ih]
    rfl
theorem clv_set : ∀ (gs : List Cl) (i : Nat) (f : Cl), i < gs.length → ((clv gs).set (i * 2) (.bool f.h)).set (i * 2 + 1) (.int .i64 f.v) = clv (gs.set i f)
  | [], i, f, h => by simp at h
  | g :: gs, 0, f, h => rfl
  | g :: gs, i + 1, f, h => by
    have ih := clv_set gs i f (by simpa using h)
    show ((g.two ++ clv gs).set ((i + 1) * 2) _).set ((i + 1) * 2 + 1) _ = g.two ++ clv (gs.set i f)
    have e : g.two.length = 2 := rfl
    rw [List.set_append_right _ _ (by omega), List.set_append_right _ _ (by omega), e, show (i + 1) * 2 - 2 = i * 2 by omega, show (i + 1) * 2 + 1 - 2 = i * 2 + 1 by omega, ih]
theorem clv_one (l : List Cl) : ∀ v ∈ clv l, v.oneCell' = true := by
  intro v hv
  unfold clv at hv
  obtain ⟨f, _, hv⟩ := List.mem_flatMap.1 hv
  simp [Cl.two] at hv
  rcases hv with rfl | rfl <;> rfl
theorem infoCl : (Tryz.prog.info? 73).map (fun i => (i.zero, i.size, i.bytes)) = some (some (.agg #[.bool false, .int .i64 0]), 2, 16) := by kernel_rfl
theorem made_clv (N : Nat) : (madeCells #[.bool false, .int .i64 0] (N * 2)).toList = clv (List.replicate N zCl) := by
  apply List.ext_getElem?
  intro k
  by_cases hk : k < N * 2
  · have e : k = (k / 2) * 2 + k % 2 := by omega
    have h3 : k % 2 < 2 := Nat.mod_lt _ (by omega)
    rw [e, clv_at _ (k / 2) (by simp; omega) (k % 2) h3, ← e]
    have hr : (List.replicate N zCl).getD (k / 2) default = zCl := by simp [List.getD, List.getElem?_replicate, show k / 2 < N by omega]
    rw [hr]
    unfold madeCells
    simp only [Array.toList_map, Array.toList_range, List.getElem?_map, List.getElem?_range hk, Option.map_some]
    rcases (show k % 2 = 0 ∨ k % 2 = 1 by omega) with h | h <;> rw [show (#[Value.bool false, .int .i64 0] : Array Value).size = 2 from rfl, h] <;> rfl
  · rw [List.getElem?_eq_none (by simp [madeCells]; omega), List.getElem?_eq_none (by rw [clv_len]; simp; omega)]
theorem make_cells (n : Nat) (hn : n ≤ 4398046511100) (W : World) : (Instr.makeSlice 47 (.int .i64 (n : Int)) (.int .i64 (n : Int))).run Tryz.prog W = .ok (.slice (some ⟨W.heap.size, 0, none⟩) n n) (W.alloc (.cells (madeCells #[.bool false, .int .i64 0] (n * 2)) 73)) := by
  obtain ⟨i0, hi, hz0, hz1, hz2⟩ := info_parts infoCl
  have := run_make (P := Tryz.prog) W 47 73 i0 _ Tryz.underlying47 hi hz0 .i64 .i64 n n (by omega) (by omega) (by rw [hz2]; omega) (by omega)
  rw [hz1] at this
  simpa [Value.cells] using this
/-- A row of cells that fills its block. -/
def Rc (w : World) (g : Nat) (gs : List Cl) : Prop := w.ownsRow g 73 2 (.slice (some ⟨g, 0, none⟩) gs.length gs.length) gs.length (clv gs)
theorem rc_of {w : World} {g : Nat} {gs : List Cl} {cur : Array Value} (h : w.heap[g]? = some (.cells cur 73 (0, 0))) (hc : cur.toList = clv gs) (hl : gs.length ≤ 4398046511100) : Rc w g gs := by
  have hs : cur.size = gs.length * 2 := by rw [← clv_len, ← hc]; simp
  exact ⟨clv_len gs, .inr ⟨g, _, cur, rfl, Nat.le_refl _, h, Nat.le_refl _, by unfold maxLen; omega, hs, by rw [hc, List.take_of_length_le (by rw [clv_len]; omega)]⟩⟩
theorem Rc.block {w : World} {g : Nat} {gs : List Cl} (h : Rc w g gs) : BkP w g (clv gs).toArray 73 := by
  rcases h.2 with ⟨e, _⟩ | ⟨g', cap, cur, e, _, e3, e4, e5, e6, e7⟩
  · cases e
  · injection e with e q1 q2
    injection e with e
    injection e with e
    subst e q2
    have : cur = (clv gs).toArray := by
      apply Array.ext'
      rw [← e7, List.take_of_length_le (by simp; omega)]
    rw [this] at e3
    exact e3
theorem rc_block {w : World} {g : Nat} {gs : List Cl} (h : BkP w g (clv gs).toArray 73) (hl : gs.length ≤ 4398046511100) : Rc w g gs := rc_of h rfl hl
theorem Rc.fc {w : World} {g : Nat} {gs : List Cl} (h : Rc w g gs) (i : Nat) (hi : i < gs.length) : CC w g (i * 2) (gs.getD i default) := by
  refine ⟨?_, ?_⟩
  · rw [World.ownsRow.cellAt h (i * 2) (by omega)]; exact clv_at gs i hi 0 (by omega)
  · rw [World.ownsRow.cellAt h (i * 2 + 1) (by omega)]; exact clv_at gs i hi 1 (by omega)
theorem Rc.set {w : World} {g : Nat} {gs : List Cl} (h : Rc w g gs) (i : Nat) (hi : i < gs.length) (f : Cl) :
    Rc ((w.setCell ⟨g, i * 2, none⟩ (.bool f.h)).setCell ⟨g, i * 2 + 1, none⟩ (.int .i64 f.v)) g (gs.set i f) := by
  have := ((World.ownsRow.stored h (i * 2) (.bool f.h)).1.stored (i * 2 + 1) (.int .i64 f.v)).1
  rw [clv_set gs i f hi] at this
  unfold Rc
  rw [List.length_set]
  exact this
/-- copy(f, l): so many cells as the shorter of the two has. -/
theorem copy_cells (a : Option Addr) (n m cap : Nat) (fs : List Cl) (w : World) (h : RC w a m fs) (hn : n ≤ 4398046511100) :
    ∃ W2, (∀ ty, (Builtin.copy_ #[47, 47] ty #[.slice (some ⟨w.heap.size, 0, none⟩) n n, .slice a m cap]).run Tryz.prog (w.alloc (.cells (madeCells #[.bool false, .int .i64 0] (n * 2)) 73)) = .ok (goInt (Nat.min m n)) W2) ∧ Below w.heap.size w W2 ∧ Rc W2 w.heap.size (fs.take n ++ List.replicate (n - m) zCl) := by
  obtain ⟨i0, hi, hz0, hz1, hz2⟩ := info_parts infoCl
  obtain ⟨h1, h2, h2b, h3⟩ := h
  have hu : Tryz.prog.underlying 47 = some (.slice 73) := Tryz.underlying47
  have hg : (w.alloc (.cells (madeCells #[.bool false, .int .i64 0] (n * 2)) 73)).heap[w.heap.size]? = some (.cells (madeCells #[.bool false, .int .i64 0] (n * 2)) 73 (0, 0)) := by
    show (w.heap.push _)[w.heap.size]? = _
    simp
  rcases h3 with h3 | ⟨b, o, rfl, hb, hc⟩
  · subst h3
    have hz : fs = [] := List.length_eq_zero_iff.1 h1
    subst hz
    refine ⟨_, fun ty => ?_, (Below.refl _ _).alloc (Nat.le_refl _) _, rc_of hg ?_ (by simp; omega)⟩
    · cases a <;> simp [Builtin.copy_, run_underlying hu, Builtin.lenOf, Builtin.firstCells, sizeOf, typeInfo, hi, hz1, storeCells, loadCells, loadCellsFrom]
    · rw [made_clv]; simp
  · obtain ⟨k, hk⟩ : ∃ k, k = Nat.min m n := ⟨_, rfl⟩
    have hkm : k ≤ m := by rw [hk]; exact Nat.min_le_left _ _
    have hkn : k ≤ n := by rw [hk]; exact Nat.min_le_right _ _
    have tk : (fs.take n) = fs.take k := by
      rcases Nat.le_total m n with z | z
      · rw [show k = m by rw [hk]; exact Nat.min_eq_left z, List.take_of_length_le (by omega), List.take_of_length_le (by omega)]
      · rw [show k = n by rw [hk]; exact Nat.min_eq_right z]
    have rest : n - m = n - k := by
      rcases Nat.le_total m n with z | z
      · rw [show k = m by rw [hk]; exact Nat.min_eq_left z]
      · rw [show k = n by rw [hk]; exact Nat.min_eq_right z]; omega
    have hlk : (fs.take k).length = k := by simp; omega
    have hlen : (clv (fs.take k)).length = k * 2 := by rw [clv_len, hlk]
    have hl := run_loadCells_list (P := Tryz.prog) (w.alloc (.cells (madeCells #[.bool false, .int .i64 0] (n * 2)) 73)) ⟨b, o, none⟩ (clv (fs.take k)) (by
      intro j v hj
      have hjn : j < k * 2 := by
        refine Nat.lt_of_not_le fun hc => ?_
        rw [List.getElem?_eq_none (by omega)] at hj
        cases hj
      rw [Go.Addr.add_lit, (((Below.refl w.heap.size w).alloc (Nat.le_refl _) _).cell (p := ⟨b, o + j, none⟩) hb)]
      have e : j = (j / 2) * 2 + j % 2 := by omega
      rw [← hj]
      obtain ⟨p0, p1⟩ := hc (j / 2) (by omega)
      have hat := clv_at (fs.take k) (j / 2) (by omega) (j % 2) (Nat.mod_lt _ (by omega))
      have ge : (fs.take k).getD (j / 2) default = fs.getD (j / 2) default := by simp [List.getD, List.getElem?_take, show j / 2 < k by omega]
      rw [← e, ge] at hat
      rw [hat]
      rcases (show j % 2 = 0 ∨ j % 2 = 1 by omega) with q | q
      · rw [q, show o + j = o + j / 2 * 2 by omega]; exact p0
      · rw [q, show o + j = o + j / 2 * 2 + 1 by omega]; exact p1)
    have hst := run_storeCells_at Tryz.prog w.heap.size 0 73 (clv (fs.take k)) 0 _ _ hg (by rw [hlen, size_madeCells]; omega) (clv_one _)
    rw [hlen] at hl
    refine ⟨((w.alloc (.cells (madeCells #[.bool false, .int .i64 0] (n * 2)) 73)).setRow w.heap.size ((madeCells #[.bool false, .int .i64 0] (n * 2)).toList.take (0 + 0) ++ clv (fs.take k) ++ (madeCells #[.bool false, .int .i64 0] (n * 2)).toList.drop (0 + 0 + (clv (fs.take k)).length)).toArray), fun ty => ?_, ?_, ?_⟩
    rotate_left
    · exact below_setRow ((Below.refl _ _).alloc (Nat.le_refl _) _) (Nat.le_refl _) _
    · refine rc_of (setRow_heap _ _ _ _ _ _ hg) ?_ (by simp; omega)
      have rep : clv (List.replicate n zCl) = clv (List.replicate k zCl) ++ clv (List.replicate (n - k) zCl) := by rw [← clv_app, List.replicate_append_replicate, show k + (n - k) = n by omega]
      rw [made_clv, rep, hlen, tk, rest, clv_app]
      simp only [Nat.add_zero, List.take_zero, List.nil_append, Nat.zero_add]
      rw [List.drop_left' (by rw [clv_len]; simp)]
    · simp [Builtin.copy_, run_underlying hu, Builtin.lenOf, Builtin.firstCells, sizeOf, typeInfo, hi, hz1, ← hk, hl, hst]
set_option maxRecDepth 100000 in
theorem isOdd_any (c : Cl) (w : World) : Calls Tryz.prog 60 #[.agg #[.bool c.h, .int .i64 c.v]] w fun e w' => e = .returned (.bool (!c.h && (c.v != 0))) ∧ Below w.heap.size w w' := by
  have B := Lib.hid (allocBP w (.cells #[.bool c.h, .int .i64 c.v] 73))
  obtain ⟨h, v⟩ := c
  simp only at *
  cases h with
  | true =>
    go_enter Tryz.func60, Tryz.ntmps60
    go_wp2
    go_ret
    exact ⟨rfl, B.out⟩
  | false =>
    go_enter Tryz.func60, Tryz.ntmps60
    go_wp2
    go_ret
    exact ⟨by simp, B.out⟩
def fixC (c : Cl) : Cl := if c.h then c else zCl
end Go.Proofs.YtpfjnnkjoabgbaaGreatDoor
