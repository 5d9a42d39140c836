/-
  VerifyPadded.
-/
import Derived.Test.YteedkcmjhdabeaaDoorMH
import Derived.Test.YteedkcmjhdabeaaDoorME
import Derived.Deep.RegionLaw
namespace Go.Proofs.YteedkcmjhdabeaaDoor
open Go.RowKit
set_option linter.unusedVariables false
set_option linter.unusedSimpArgs false
theorem drewP (w : World) (n : Nat) : Below n w w.drew := ⟨rfl, rfl, rfl, Nat.le_refl _, fun _ _ => rfl⟩
set_option maxRecDepth 100000 in
set_option maxHeartbeats 1600000 in
theorem padded_bad {w : World} {p : Pg} {sg : Int} (hp : PV w p) (hR : Rws w) (hU : Rul w) (hc : (vfyA p).1 ≠ 0 ∨ sg < 0 ∨ (p.days.length : Int) ≤ sg) : Calls Tryd.prog 3 #[p.agg, .int .i64 sg] w fun e w' => e = .returned (.bool true) ∧ Below w.heap.size w w' := by
  have B0 := Lib.hid (p := Below w.heap.size w (w.alloc p.box)) (allocBP _ _)
  have KL := Lib.hid (lives_any (hR.below B0.out) (hU.lat B0.out))
  have KV := Lib.hid (fun V (b : Below w.heap.size w V) => verify_any (hp.later b) (hR.below b) (hU.lat b))
  have PB := Lib.hid (p := BkP (w.alloc p.box) w.heap.size p.arr 26) (heapN _ _)
  have ways : ((vfyA p).1 != 0) = true ∨ (((vfyA p).1 != 0) = false ∧ sg < 0) ∨ (((vfyA p).1 != 0) = false ∧ ¬ sg < 0 ∧ (p.days.length : Int) ≤ sg) := by
    by_cases a : (vfyA p).1 = 0
    · by_cases b : sg < 0
      · exact .inr (.inl ⟨by simpa using a, b⟩)
      · exact .inr (.inr ⟨by simpa using a, b, by rcases hc with q | q | q; exact absurd a q; exact absurd q b; exact q⟩)
    · exact .inl (by simpa using a)
  generalize vfyA p = r at *
  clear hp hR hU hc
  unfold vfV at KV
  unfold Pg.agg at *
  unfold Pg.box at *
  unfold Pg.arr at PB
  obtain ⟨na, nc, names, ua, uc, curs, pa, pc, pool, hor, cells, slots, stack, da, dc, days⟩ := p
  obtain ⟨re, rs, ri, ⟨st, fu, ba, rl, ce⟩⟩ := r
  simp only at *
  rcases ways with ne | ⟨ne, s0⟩ | ⟨ne, s0, s1⟩
  all_goals
    go_enter Tryd.func3, Tryd.ntmps3
    go_wp2_with (first | (go_at_call 5; refine KL.out.mono ?_; rintro e w1 ⟨rfl, h1⟩; have B1 := Lib.hid (B0.out.trans (h1.mono B0.out.size)); have PB1 := Lib.hid (PB.out.lat h1); obtain ⟨x0, x1, x2, x3, x4, x5, x6, x7⟩ := box_all8 PB1.out; clear h1; have Q1 : True := trivial) | (go_at_call 6; have qq := Q1; refine (KV.out w1 B1.out).mono ?_; clear qq Q1; rintro e w2 ⟨rfl, h1⟩; have B2 := Lib.hid (p := Below w.heap.size w (w2.alloc (.cells #[.int .i64 st, .int .i64 fu, .int .i64 ba] 29))) ((B1.out.trans (h1.mono B1.out.size)).alloc (B1.out.trans (h1.mono B1.out.size)).size _); obtain ⟨y0, y1, y2, y3, y4, y5, y6, y7⟩ := box_all8 ((PB1.out.lat h1).lat (allocBP w2 (.cells #[.int .i64 st, .int .i64 fu, .int .i64 ba] 29))); clear h1))
    go_ret
    exact ⟨rfl, B2.out⟩
/-- What stands ahead of the padded code. -/
structure PdR (w V : World) (p : Pg) (N xb qb g cap : Nat) (st fu ba : Int) (q0 q1 q2 : Value) : Prop where
  pb : BkP V w.heap.size p.arr 26
  pr : BkP V xb #[.int .i64 st, .int .i64 fu, .int .i64 ba] 29
  qx : BkP V qb #[q0, q1, q2, .int .i64 p.hor, .int .i64 p.cells, .int .i64 p.slots, .int .i64 (max p.stack 1), .slice (some ⟨g, 0, none⟩) N cap] 26
  ro : V.ownsRow w.heap.size 36 2 (.slice (some ⟨g, 0, none⟩) N cap) N (flatV N (sgV p.days))
  be : Below w.heap.size w V
  lo : w.heap.size ≤ qb
theorem PdR.lat {w V V' : World} {p : Pg} {N xb qb g cap : Nat} {st fu ba : Int} {q0 q1 q2 : Value} (h : PdR w V p N xb qb g cap st fu ba q0 q1 q2) (b : Below V.heap.size V V') : PdR w V' p N xb qb g cap st fu ba q0 q1 q2 :=
  ⟨h.pb.lat b, h.pr.lat b, h.qx.lat b, own_blkG h.ro (fun y hy => b.block y (World.ownsRow.lt h.ro y hy).2), h.be.trans (b.mono h.be.size), h.lo⟩
/-- An append to a new row of instructions leaves it. -/
theorem PdR.grow {w V V' : World} {p : Pg} {N xb qb g cap : Nat} {st fu ba : Int} {q0 q1 q2 : Value} (h : PdR w V p N xb qb g cap st fu ba q0 q1 q2) {v : Value} {n : Nat} {xs : List Value} {B : Nat} (o : V.ownsRow B 38 3 v n xs) (hB : w.heap.size ≤ B) (gr : V.grownBy V' v.ownBlock) : PdR w V' p N xb qb g cap st fu ba q0 q1 q2 :=
  ⟨h.pb.grown gr (fun e => own_neB o h.pb (by decide) e.symm), h.pr.grown gr (fun e => own_neB o h.pr (by decide) e.symm), h.qx.grown gr (fun e => own_neB o h.qx (by decide) e.symm), World.ownsRow.kept h.ro gr (own_neO h.ro o (by decide)), h.be.grown gr h.be.size (fun k e => by have := (World.ownsRow.lt o k e).1; omega), h.lo⟩
def padT : List In := [⟨2, 1, 0⟩, ⟨8, 0, 0⟩, ⟨0, 0, 0⟩]
def padA : Array Value := #[.int .i64 2, .int .i64 1, .int .i64 0, .int .i64 8, .int .i64 0, .int .i64 0, .int .i64 0, .int .i64 0, .int .i64 0]
theorem pad_cells {V : World} {b : Nat} (h : BkP V b padA 38) : ∀ i, i < 3 → ∀ j, j < 3 → V.cell? ⟨b, 0 + i * 3 + j, none⟩ = some ((inW padT i).getD j default) := by
  intro i hi j hj
  rw [h.cell]
  rcases (show i = 0 ∨ i = 1 ∨ i = 2 by omega) with rfl | rfl | rfl <;> rcases (show j = 0 ∨ j = 1 ∨ j = 2 by omega) with rfl | rfl | rfl <;> rfl
theorem flat_pad {c : List In} {n : Nat} (hn : c.length = n) (h : 1 ≤ n) : flatV (n - 1) (inW c) ++ flatV 3 (inW padT) = flatV (n + 2) (inW (padC c)) := by
  have pl := padC_len c (by omega)
  have e : n + 2 = n - 1 + 3 := by omega
  apply List.ext_getElem?
  intro k
  have l1 := flatV_len (k := 3) (inW c) (n - 1) (fun i _ => inW_len c i)
  have l2 := flatV_len (k := 3) (inW padT) 3 (fun i _ => inW_len padT i)
  have l3 := flatV_len (k := 3) (inW (padC c)) (n + 2) (fun i _ => inW_len (padC c) i)
  by_cases b : k < (n + 2) * 3
  · have ek : k = (k / 3) * 3 + k % 3 := by omega
    have i2 : k % 3 < 3 := by omega
    by_cases z : k < (n - 1) * 3
    · rw [List.getElem?_append_left (by rw [l1]; exact z), ek, flatV_at (by omega) _ _ (fun i _ => inW_len c i) _ (by omega) _ i2, flatV_at (by omega) _ _ (fun i _ => inW_len (padC c) i) _ (by omega) _ i2]
      unfold inW
      rw [padC_old c (by omega)]
    · rw [List.getElem?_append_right (by rw [l1]; omega), l1]
      have ek2 : k - (n - 1) * 3 = (k / 3 - (n - 1)) * 3 + k % 3 := by omega
      rw [ek2, flatV_at (by omega) _ _ (fun i _ => inW_len padT i) _ (by omega) _ i2]
      conv => rhs; rw [ek]
      rw [flatV_at (by omega) _ _ (fun i _ => inW_len (padC c) i) _ (by omega) _ i2]
      unfold inW
      have := padC_at c (by omega) (k / 3 - (n - 1)) (by omega)
      rw [hn, show n - 1 + (k / 3 - (n - 1)) = k / 3 by omega] at this
      rw [this]
      rfl
  · rw [List.getElem?_eq_none (by rw [List.length_append, l1, l2]; omega), List.getElem?_eq_none (by rw [l3]; omega)]
end Go.Proofs.YteedkcmjhdabeaaDoor
