import Derived.Test.YtpfjnnkjoabgbaaGreatDoorXBS
import Derived.Test.YtpfjnnkjoabgbaaGreatDoorXBP
import Derived.Test.YtpfjnnkjoabgbaaGreatDoorXBQ
import Derived.Test.YtpfjnnkjoabgbaaGreatDoorXBO
namespace Go.Proofs.YtpfjnnkjoabgbaaGreatDoor
open Go.RowKit
set_option linter.unusedVariables false
set_option linter.unusedSimpArgs false
def TknE (w : World) (p : Pg) (e : Ending) (w' : World) : Prop := e = .returned (.tuple #[.agg #[.int .i64 (vfyA p).2.2.2.stack, .int .i64 (vfyA p).2.2.2.fuel, .int .i64 (vfyA p).2.2.2.back], .bool (decide ((vfyA p).1 = 0))]) ∧ Below w.heap.size w w'
set_option maxRecDepth 100000 in
set_option maxHeartbeats 3200000 in
theorem taken_any {w : World} {p : Pg} (h : PV w p) (hR : Rws w) (hU : Rul w) : Calls Tryz.prog 13 #[p.agg] w fun e w' => TknE w p e w' := by
  obtain ⟨W0, hW0⟩ : ∃ W, (w.alloc p.box).alloc (.cells #[.int .i64 0, .int .i64 0, .int .i64 0] 41) = W := ⟨_, rfl⟩
  have B0 : Below w.heap.size w W0 := by rw [← hW0]; exact (allocBP w p.box).trans ((allocBP (w.alloc p.box) _).mono (by simp))
  have Z0 : BkP W0 (w.heap.size + 1) #[.int .i64 0, .int .i64 0, .int .i64 0] 41 := by
    rw [← hW0]
    have := heapN (w.alloc p.box) (.cells #[.int .i64 0, .int .i64 0, .int .i64 0] 41)
    rw [show (w.alloc p.box).heap.size = w.heap.size + 1 by simp] at this
    exact this
  have P0 : BkP W0 w.heap.size #[.slice p.na p.names.length p.nc, .slice p.ua p.curs.length p.uc, .slice p.pa p.pool.length p.pc, .int .i64 p.hor, .int .i64 p.cells, .int .i64 p.slots, .int .i64 p.stack, .slice p.da p.days.length p.dc] 26 := by rw [← hW0]; exact BkP.lat (heapN w p.box) (allocBP _ _)
  obtain ⟨a0, a1, a2, a3, a4, a5, a6, a7⟩ := box_all8 P0
  have KO := Lib.hid (p := Calls Tryz.prog 11 #[p.agg] W0 fun e w' => ∃ p' : Pg, e = .returned (.agg #[.slice p'.na p'.names.length p'.nc, .slice p'.ua p'.curs.length p'.uc, .slice p'.pa p'.pool.length p'.pc, .int .i64 p'.hor, .int .i64 p'.cells, .int .i64 p'.slots, .int .i64 p'.stack, .slice p'.da p'.days.length p'.dc]) ∧ RowKit.Hid (Calls Tryz.prog 26 #[.agg #[.slice p'.na p'.names.length p'.nc, .slice p'.ua p'.curs.length p'.uc, .slice p'.pa p'.pool.length p'.pc, .int .i64 p'.hor, .int .i64 p'.cells, .int .i64 p'.slots, .int .i64 p'.stack, .slice p'.da p'.days.length p'.dc]] w' fun e2 w2 => e2 = .returned (vfV (vfyA p)) ∧ Below W0.heap.size W0 w2)) ((owned_any (h.later B0)).mono (fun e w' ⟨p', h1, h2, h3, h4⟩ => ⟨p', h1, (verify_any (h4 w' (fun _ _ _ => rfl)) (hR.below (B0.trans (h3.mono B0.size))) (hU.lat (B0.trans (h3.mono B0.size)))).mono (fun e2 w2 q => ⟨by rw [q.1, vfyA_keyM h2], h3.trans (q.2.mono h3.size)⟩)⟩))
  have CL := Lib.hid (p := ∀ V, Below W0.heap.size W0 V → BkP V (w.heap.size + 1) #[.int .i64 0, .int .i64 0, .int .i64 0] 41 ∧ Below w.heap.size w V) (fun V b => ⟨Z0.lat b, B0.trans (b.mono B0.size)⟩)
  have KN := Lib.hid (fun e W => num15_any e W)
  have HW := Lib.hid hW0
  clear B0 Z0 P0 h hR hU hW0
  unfold vfV at KO
  have FE := Lib.hid (p := ∀ V, Below w.heap.size w V → TknE w p (.returned (.tuple #[.agg #[.int .i64 (vfyA p).2.2.2.stack, .int .i64 (vfyA p).2.2.2.fuel, .int .i64 (vfyA p).2.2.2.back], .bool (decide ((vfyA p).1 = 0))])) V) (fun V b => ⟨rfl, b⟩)
  generalize (vfyA p).2.2.2.stack = ns at *
  generalize (vfyA p).2.2.2.fuel = nf at *
  generalize (vfyA p).2.2.2.back = nb at *
  generalize (vfyA p).2.1 = n21 at *
  generalize (vfyA p).2.2.1 = n22 at *
  generalize (vfyA p).1 = en at *
  unfold Pg.agg Pg.box at *
  obtain ⟨na, nc, names, ua, uc, curs, pa, pc, pool, hor, cells, slots, stack, da, dc, days⟩ := p
  simp only at *
  go_enter Tryz.func13, Tryz.ntmps13
  go_wp2_with fail
  go_at_call 11
  rw [HW.out]
  refine KO.out.mono ?_
  rintro e w1 ⟨p', rfl, hq⟩
  go_wp2_with fail
  go_at_call 26
  refine hq.out.mono ?_
  rintro e w2 ⟨rfl, b2⟩
  obtain ⟨W3, hW3⟩ : ∃ W, w2.alloc (.cells #[.int .i64 ns, .int .i64 nf, .int .i64 nb] 41) = W := ⟨_, rfl⟩
  have b3 : Below W0.heap.size W0 W3 := by rw [← hW3]; exact b2.trans ((allocBP w2 _).mono b2.size)
  have q3 : BkP W3 w2.heap.size #[.int .i64 ns, .int .i64 nf, .int .i64 nb] 41 := by rw [← hW3]; exact heapN _ _
  obtain ⟨zb, bw⟩ := CL.out W3 b3
  obtain ⟨y0, y1, y2⟩ := box_all3P q3
  obtain ⟨z0, z1, z2⟩ := box_all3P zb
  have f0 := zb.frozen 0
  have f1 := zb.frozen 1
  have f2 := zb.frozen 2
  have BW := Lib.hid bw
  have H3 := Lib.hid hW3
  clear b2 b3 hW3 bw q3 zb
  go_wp2
  rw [H3.out]
  go_region_with (go_at_call 14; refine (KN.out en _).mono ?_; rintro e w4 ⟨rfl, rfl⟩)
  all_goals
    go_wp2
    refine bodyPost_ret (v := .tuple #[.agg #[.int .i64 ns, .int .i64 nf, .int .i64 nb], .bool (decide (en = 0))]) ?r rfl ?s
    case r => simp [results, Tryz.results13, go_sem, z0, z1, z2, f0, f1, f2]; try rfl
    case s => exact FE.out _ (((BW.out.setCell (by exact Nat.le_succ _) _).setCell (by exact Nat.le_succ _) _).setCell (by exact Nat.le_succ _) _ |>.trans (drew1B2 _ _))
end Go.Proofs.YtpfjnnkjoabgbaaGreatDoor

namespace Go.Proofs.YtpfjnnkjoabgbaaGreatDoor
open Go.RowKit
set_option linter.unusedVariables false
set_option linter.unusedSimpArgs false
end Go.Proofs.YtpfjnnkjoabgbaaGreatDoor

namespace Go.Proofs.YtpfjnnkjoabgbaaGreatDoor
open Go.RowKit
set_option linter.unusedVariables false
set_option linter.unusedSimpArgs false
theorem new_owned {w V : World} {p : Pg} (hv : (vfyA p).1 = 0) (h : PV w p) (hR : Rws w) (hU : Rul w) (b : Below w.heap.size w V) : Calls Tryz.prog 11 #[p.agg] V fun e w' => ∃ p' : Pg, e = .returned (.agg #[.slice p'.na p'.names.length p'.nc, .slice p'.ua p'.curs.length p'.uc, .slice p'.pa p'.pool.length p'.pc, .int .i64 p'.hor, .int .i64 p'.cells, .int .i64 p'.slots, .int .i64 p'.stack, .slice p'.da p'.days.length p'.dc]) ∧ RowKit.Hid (Below V.heap.size V w' ∧ ∀ U, Below w'.heap.size w' U → Calls Tryz.prog 12 #[.agg #[.slice p'.na p'.names.length p'.nc, .slice p'.ua p'.curs.length p'.uc, .slice p'.pa p'.pool.length p'.pc, .int .i64 p'.hor, .int .i64 p'.cells, .int .i64 p'.slots, .int .i64 p'.stack, .slice p'.da p'.days.length p'.dc]] U fun e w2 => ∃ mb q cev D, e = .returned (.tuple #[.pointer (some ⟨mb, 0, none⟩), .int .i64 0]) ∧ RowKit.Hid (q.key = p.key ∧ Below U.heap.size U w2 ∧ McV D w2 mb q (vfyA q).2.2.2 cev (.slice none 0 0) q.born ∧ U.heap.size ≤ mb ∧ (∀ g, cev.ownBlock = some g → U.heap.size ≤ g) ∧ (∀ k, D k → U.heap.size ≤ k))) := by
  refine (owned_any (h.later b)).mono ?_
  rintro e w' ⟨p', rfl, hk, hb, hp⟩
  refine ⟨p', rfl, hb, fun U bU => ?_⟩
  have b' := b.trans (hb.mono b.size)
  have b2 := b'.trans (bU.mono b'.size)
  have hpU : PV U p' := hp U (fun k _ hk2 => bU.block k hk2)
  refine (new_any hpU (hR.below b2) (hU.lat b2)).mono ?_
  intro e w2 q
  have ev := vfyA_keyM hk
  obtain ⟨mb, q', cev, D, rfl, k, m, g1, g2, g3⟩ := q.ok (by rw [ev]; exact hv)
  exact ⟨mb, q', cev, D, rfl, k.trans hk, q.bel, m, g1, g2, g3⟩
/-- The days of a machine that are gone through, from the world w on (ahead of New). -/
structure SlI (w : World) (N mb : Nat) (p' : Pg) (cev : Value) (D : Nat → Prop) (rows : Nat → List Cl) (d : Nat) (fa : Option Addr) (fn fc : Nat) (W : World) : Prop where
  bel : Below w.heap.size w W
  mc : ∃ pav, McV D W mb p' (vfyA p').2.2.2 cev pav (runMs p' (vfyA p').2.2.2.back rows d p'.born).1 ∧ ∀ g, pav.ownBlock = some g → w.heap.size ≤ g
  fl : OwF W N (.slice fa fn fc) (runMs p' (vfyA p').2.2.2.back rows d p'.born).2
  gm : w.heap.size ≤ mb
  gc : ∀ g, cev.ownBlock = some g → w.heap.size ≤ g
  gd : ∀ k, D k → k < N
  go : w.heap.size ≤ N ∧ N ≤ W.heap.size
/-- Behind a day, ahead of the append. -/
structure SlD (w : World) (N mb : Nat) (p' : Pg) (cev : Value) (D : Nat → Prop) (rows : Nat → List Cl) (d : Nat) (fa : Option Addr) (fn fc : Nat) (flv : Value) (W : World) : Prop where
  bel : Below w.heap.size w W
  mc : ∃ pav, McV D W mb p' (vfyA p').2.2.2 cev pav (runMs p' (vfyA p').2.2.2.back rows (d + 1) p'.born).1 ∧ ∀ g, pav.ownBlock = some g → w.heap.size ≤ g
  fl : OwF W N (.slice fa fn fc) (runMs p' (vfyA p').2.2.2.back rows d p'.born).2
  nf : OwF W 0 flv (dayFl p' (runMs p' (vfyA p').2.2.2.back rows d p'.born).1 (rows d))
  ne : Value.ownBlock (.slice fa fn fc) = none ∨ Value.ownBlock (.slice fa fn fc) ≠ flv.ownBlock
  gm : w.heap.size ≤ mb
  gc : ∀ g, cev.ownBlock = some g → w.heap.size ≤ g
  gd : ∀ k, D k → k < N
  go : w.heap.size ≤ N ∧ N ≤ W.heap.size
section
variable {w : World} {N mb : Nat} {p' : Pg} {cev : Value} {D : Nat → Prop} {rows : Nat → List Cl} {d : Nat} {fa : Option Addr} {fn fc : Nat} {W : World}
theorem SlI.lat {W' : World} (h : SlI w N mb p' cev D rows d fa fn fc W) (b : Below W.heap.size W W') : SlI w N mb p' cev D rows d fa fn fc W' := by
  obtain ⟨pav, m, q⟩ := h.mc
  exact ⟨h.bel.trans (b.mono h.bel.size), ⟨pav, m.lat b, q⟩, own_blkG h.fl (fun g hg => b.block g (World.ownsRow.lt h.fl g hg).2), h.gm, h.gc, h.gd, ⟨h.go.1, Nat.le_trans h.go.2 b.size⟩⟩
theorem SlD.lat {flv : Value} {W' : World} (h : SlD w N mb p' cev D rows d fa fn fc flv W) (b : Below W.heap.size W W') : SlD w N mb p' cev D rows d fa fn fc flv W' := by
  obtain ⟨pav, m, q⟩ := h.mc
  exact ⟨h.bel.trans (b.mono h.bel.size), ⟨pav, m.lat b, q⟩, own_blkG h.fl (fun g hg => b.block g (World.ownsRow.lt h.fl g hg).2), own_blkG h.nf (fun g hg => b.block g (World.ownsRow.lt h.nf g hg).2), h.ne, h.gm, h.gc, h.gd, ⟨h.go.1, Nat.le_trans h.go.2 b.size⟩⟩
theorem SlI.day (h : SlI w N mb p' cev D rows d fa fn fc W) {pav : Value} (m : McV D W mb p' (vfyA p').2.2.2 cev pav (runMs p' (vfyA p').2.2.2.back rows d p'.born).1) (gp : ∀ g, pav.ownBlock = some g → w.heap.size ≤ g) (no : ¬ (runMs p' (vfyA p').2.2.2.back rows d p'.born).1.over p'.hor) {e : Ending} {W' : World} (dy : DyE D W mb p' (vfyA p').2.2.2 cev pav (runMs p' (vfyA p').2.2.2.back rows d p'.born).1 (rows d) e W') : ∃ la ln lc, e = .returned (.tuple #[.slice la ln lc, .int .i64 (dayGo p' (runMs p' (vfyA p').2.2.2.back rows d p'.born).1 (rows d)).1, .int .i64 0]) ∧ SlD w N mb p' cev D rows d fa fn fc (.slice la ln lc) W' := by
  obtain ⟨kp, flv, pav', rfl, m', fl', g'⟩ := dy
  obtain ⟨la, lc, rfl⟩ := own_form fl'
  have ty : ∀ y, turnS mb cev pav y → ∃ c u f, W.heap[y]? = some (.cells c u f) ∧ (u = 75 ∨ u = 3 ∨ u = 47) := fun y hy => m.turn hy
  have ne : ∀ t, t ≠ 75 → t ≠ 3 → t ≠ 47 → ∀ y, turnS mb cev pav y → ∃ c u f, W.heap[y]? = some (.cells c u f) ∧ u ≠ t := by
    intro t t1 t2 t3 y hy
    obtain ⟨c, u, f, e, q⟩ := ty y hy
    refine ⟨c, u, f, e, ?_⟩
    rcases q with rfl | rfl | rfl
    · exact Ne.symm t1
    · exact Ne.symm t2
    · exact Ne.symm t3
  have bW : Below w.heap.size W W' := kp.bel (fun k hk => by
    rcases hk with rfl | hk | hk
    · exact h.gm
    · exact h.gc k hk
    · exact gp k hk) h.bel.size
  have st : (runMs p' (vfyA p').2.2.2.back rows (d + 1) p'.born).1 = dayMs p' (vfyA p').2.2.2.back (runMs p' (vfyA p').2.2.2.back rows d p'.born).1 (rows d) := by
    simp only [runMs]
    rw [if_neg no]
  refine ⟨la, _, lc, rfl, ⟨h.bel.trans bW, ⟨pav', by rw [st]; exact m', fun g hg => ?_⟩, own_blkG h.fl (fun g hg => ?_), ownsRow_base fl' (Nat.zero_le _), ?_, h.gm, h.gc, h.gd, ⟨h.go.1, Nat.le_trans h.go.2 kp.size⟩⟩⟩
  · rcases g' g hg with q | q
    · exact gp g q
    · have := h.bel.size; omega
  · rcases h.fl.2 with ⟨z, _⟩ | ⟨g2, cap, cur, z, _, e3, _⟩
    · rw [z] at hg; cases hg
    · rw [z] at hg
      simp only [Value.ownBlock, Option.some.injEq] at hg
      subst hg
      exact keep_ty kp e3 (ne _ (by decide) (by decide) (by decide))
  · cases e1 : Value.ownBlock (.slice fa fn fc) with
    | none => exact .inl rfl
    | some x =>
      right
      intro z
      have a := (World.ownsRow.lt h.fl x e1).2
      have b := (World.ownsRow.lt fl' x z.symm).1
      omega
theorem SlD.next {flv : Value} (h : SlD w N mb p' cev D rows d fa fn fc flv W) (no : ¬ (runMs p' (vfyA p').2.2.2.back rows d p'.born).1.over p'.hor) {W' : World} {fa' : Option Addr} {fn' fc' : Nat} (g : W.grownBy W' (Value.ownBlock (.slice fa fn fc))) (o : OwF W' N (.slice fa' fn' fc') ((runMs p' (vfyA p').2.2.2.back rows d p'.born).2 ++ dayFl p' (runMs p' (vfyA p').2.2.2.back rows d p'.born).1 (rows d))) : SlI w N mb p' cev D rows (d + 1) fa' fn' fc' W' := by
  obtain ⟨pav, m, gp⟩ := h.mc
  have fb : ∀ x, Value.ownBlock (.slice fa fn fc) = some x → N ≤ x ∧ ∃ cur fr, W.heap[x]? = some (.cells cur 54 fr) := by
    intro x hx
    refine ⟨(World.ownsRow.lt h.fl x hx).1, ?_⟩
    rcases h.fl.2 with ⟨z, _⟩ | ⟨g2, cap, cur, z, _, e3, _⟩
    · rw [z] at hx; cases hx
    · rw [z] at hx
      simp only [Value.ownBlock, Option.some.injEq] at hx
      subst hx
      exact ⟨cur, _, e3⟩
  have kp : Kp W W' (fun k => Value.ownBlock (.slice fa fn fc) = some k) := ⟨g.os, g.tape, g.output, g.size, fun k hk hn => g.block k hk (fun z => hn z.symm)⟩
  have st : (runMs p' (vfyA p').2.2.2.back rows (d + 1) p'.born).2 = (runMs p' (vfyA p').2.2.2.back rows d p'.born).2 ++ dayFl p' (runMs p' (vfyA p').2.2.2.back rows d p'.born).1 (rows d) := by
    simp only [runMs]
    rw [if_neg no]
  have bW : Below w.heap.size W W' := kp.bel (fun k hk => Nat.le_trans h.go.1 (fb k hk).1) h.bel.size
  have m1 : McV D W' mb p' (vfyA p').2.2.2 cev pav (runMs p' (vfyA p').2.2.2.back rows (d + 1) p'.born).1 := by
    refine m.keep kp (fun x hx => ?_)
    obtain ⟨gx, cur, fr, e⟩ := fb x hx
    refine ⟨fun z => ?_, fun z => ?_, fun c f z => ?_⟩
    · have := h.gd x z; omega
    · obtain ⟨c, u, f, e2, q⟩ := m.turn z
      have := e.symm.trans e2
      injection this with this
      injection this with _ q2
      rcases q with q | q | q <;> (rw [q] at q2; exact absurd q2 (by decide))
    · have := e.symm.trans z
      injection this with this
      injection this with _ q2
      exact absurd q2 (by decide)
  refine ⟨h.bel.trans bW, ⟨pav, m1, gp⟩, ?_, h.gm, h.gc, h.gd, ⟨h.go.1, Nat.le_trans h.go.2 kp.size⟩⟩
  rw [st]
  exact o
end
end Go.Proofs.YtpfjnnkjoabgbaaGreatDoor

namespace Go.Proofs.YtpfjnnkjoabgbaaGreatDoor
open Go.RowKit
set_option linter.unusedVariables false
set_option linter.unusedSimpArgs false
/-- A machine whose blocks that turn lie from B on. -/
structure MxM (B : Nat) (W : World) (mb : Nat) (q : Pg) (D : Nat → Prop) (cev pav : Value) (s : Ms) : Prop where
  mc : McV D W mb q (vfyA q).2.2.2 cev pav s
  tu : ∀ x, turnS mb cev pav x → B ≤ x
def Apt (D : Nat → Prop) (mb : Nat) (cev pav : Value) (D' : Nat → Prop) (mb' : Nat) (cev' pav' : Value) : Prop := (∀ x, turnS mb cev pav x → ¬ D' x ∧ ¬ turnS mb' cev' pav' x) ∧ (∀ x, turnS mb' cev' pav' x → ¬ D x ∧ ¬ turnS mb cev pav x)
/-- Two machines. -/
structure Tw (w W : World) (mb1 : Nat) (q1 : Pg) (mb2 : Nat) (q2 : Pg) (s1 s2 : Ms) : Prop where
  bel : Below w.heap.size w W
  two : ∃ D1 c1 p1 D2 c2 p2, MxM w.heap.size W mb1 q1 D1 c1 p1 s1 ∧ MxM w.heap.size W mb2 q2 D2 c2 p2 s2 ∧ Apt D1 mb1 c1 p1 D2 mb2 c2 p2
theorem MxM.lat {B : Nat} {W W' : World} {mb : Nat} {q : Pg} {D : Nat → Prop} {cev pav : Value} {s : Ms} (h : MxM B W mb q D cev pav s) (b : Below W.heap.size W W') : MxM B W' mb q D cev pav s := ⟨h.mc.lat b, h.tu⟩
theorem MxM.lt {B : Nat} {W : World} {mb : Nat} {q : Pg} {D : Nat → Prop} {cev pav : Value} {s : Ms} (h : MxM B W mb q D cev pav s) {x : Nat} (hx : turnS mb cev pav x) : x < W.heap.size := by
  obtain ⟨c, t, f, e, _⟩ := h.mc.turn hx
  exact (Array.getElem?_eq_some_iff.1 e).1
/-- A list of truth values. -/
def Hop (w : World) (a : Option Addr) (n : Nat) (l : List Bool) : Prop := n = 0 ∨ ∃ x o, a = some ⟨x, o, none⟩ ∧ x < w.heap.size ∧ ∀ i, i < n → w.cell? ⟨x, o + i, none⟩ = some (.bool (l.getD i default))
theorem Hop.lat {w V : World} {a : Option Addr} {n : Nat} {l : List Bool} (h : Hop w a n l) (b : Below w.heap.size w V) : Hop V a n l := by
  rcases h with h | ⟨x, o, rfl, hx, hc⟩
  · exact .inl h
  · exact .inr ⟨x, o, rfl, Nat.lt_of_lt_of_le hx b.size, fun i hi => (b.cell (p := ⟨x, o + i, none⟩) hx).trans (hc i hi)⟩
theorem hop_of {w : World} {a : Option Addr} {n c : Nat} {l : List Bool} (h : (a = none ∧ n = 0 ∧ c = 0 ∧ l = []) ∨ ∃ x, a = some x ∧ n ≤ c ∧ c ≤ maxLen ∧ l.length = n ∧ ∀ i, i < n → w.cell? (x.add (i * 1)) = some (.bool (l.getD i default))) : Hop w a n l := by
  rcases h with ⟨_, h0, _⟩ | ⟨x, rfl, _, _, _, hc⟩
  · exact .inl h0
  · by_cases h0 : n = 0
    · exact .inl h0
    · have q0 := hc 0 (by omega)
      obtain ⟨b, o, s⟩ := x
      have hs : s = none := by
        have := World.cell?_spot q0
        simpa [Addr.add] using this
      subst hs
      refine .inr ⟨b, o, rfl, ?_, fun i hi => by have := hc i hi; rw [Addr.add_lit, Nat.mul_one] at this; exact this⟩
      have := World.block_lt_of_cell? w _ q0
      rw [Addr.add_lit] at this
      exact this
theorem hop_len {w : World} {a : Option Addr} {n c : Nat} {l : List Bool} (h : (a = none ∧ n = 0 ∧ c = 0 ∧ l = []) ∨ ∃ x, a = some x ∧ n ≤ c ∧ c ≤ maxLen ∧ l.length = n ∧ ∀ i, i < n → w.cell? (x.add (i * 1)) = some (.bool (l.getD i default))) : n ≤ maxLen := by
  rcases h with ⟨_, h0, _⟩ | ⟨x, rfl, h1, h2, _⟩ <;> omega
theorem MsOk.key {p q : Pg} (k : q.key = p.key) {s : Ms} (h : MsOk p (vfyA p).2.2.2 s) : MsOk q (vfyA q).2.2.2 s := by
  have e1 : q.names = p.names := congrArg (fun k => k.1) k
  have e2 : q.hor = p.hor := congrArg (fun k => k.2.2.2.1) k
  have e3 : q.cells = p.cells := congrArg (fun k => k.2.2.2.2.1) k
  rw [vfyA_keyM k]
  exact ⟨h.t0, by rw [e2]; exact h.t1, h.s0, h.s1, by rw [e3]; exact h.ce, h.ci, h.pl, by rw [e1]; exact h.pr, h.f0, h.f1⟩
section
variable {w W : World} {mb1 : Nat} {q1 : Pg} {mb2 : Nat} {q2 : Pg} {s1 s2 : Ms}
theorem Tw.lat {W' : World} (h : Tw w W mb1 q1 mb2 q2 s1 s2) (b : Below W.heap.size W W') : Tw w W' mb1 q1 mb2 q2 s1 s2 := by
  obtain ⟨D1, c1, p1, D2, c2, p2, m1, m2, ap⟩ := h.two
  exact ⟨h.bel.trans (b.mono h.bel.size), D1, c1, p1, D2, c2, p2, m1.lat b, m2.lat b, ap⟩
theorem Tw.swap (h : Tw w W mb1 q1 mb2 q2 s1 s2) : Tw w W mb2 q2 mb1 q1 s2 s1 := by
  obtain ⟨D1, c1, p1, D2, c2, p2, m1, m2, ap⟩ := h.two
  exact ⟨h.bel, D2, c2, p2, D1, c1, p1, m2, m1, ap.2, ap.1⟩
theorem Tw.over (h : Tw w W mb1 q1 mb2 q2 s1 s2) : Calls Tryz.prog 15 #[.pointer (some ⟨mb1, 0, none⟩)] W fun e w' => e = .returned (.bool (decide (s1.over q1.hor))) ∧ Below W.heap.size W w' := by
  obtain ⟨D1, c1, p1, D2, c2, p2, m1, m2, ap⟩ := h.two
  exact over_any m1.mc.box
theorem Tw.ok (h : Tw w W mb1 q1 mb2 q2 s1 s2) : MsOk q1 (vfyA q1).2.2.2 s1 := by
  obtain ⟨D1, c1, p1, D2, c2, p2, m1, m2, ap⟩ := h.two
  exact m1.mc.ok
theorem Tw.state (h : Tw w W mb1 q1 mb2 q2 s1 s2) (hv : (vfyA q1).1 = 0) : Calls Tryz.prog 19 #[.pointer (some ⟨mb1, 0, none⟩)] W fun e w' => CsE W s1.today s1.steps s1.fault s1.day s1.cells s1.past e w' := by
  obtain ⟨D1, c1, p1, D2, c2, p2, m1, m2, ap⟩ := h.two
  exact state_any m1.mc hv
/-- A day of the first one. -/
theorem Tw.day (h : Tw w W mb1 q1 mb2 q2 s1 s2) (hv : (vfyA q1).1 = 0) (no : ¬ s1.over q1.hor) {a : Option Addr} {n c : Nat} {row : List Cl} (hr : RC W a n row) : Calls Tryz.prog 16 #[.pointer (some ⟨mb1, 0, none⟩), .slice a n c] W fun e W' => ∃ la ln lc, e = .returned (.tuple #[.slice la ln lc, .int .i64 (dayGo q1 s1 row).1, .int .i64 0]) ∧ RowKit.Hid (Tw w W' mb1 q1 mb2 q2 (dayMs q1 (vfyA q1).2.2.2.back s1 row) s2 ∧ OwF W' 0 (.slice la ln lc) (dayFl q1 s1 row) ∧ ∀ B v l, OwF W B v l → OwF W' B v l) := by
  obtain ⟨D1, c1, p1, D2, c2, p2, m1, m2, ap⟩ := h.two
  refine (day_any (cap := c) m1.mc hv no hr).mono (fun e W' dy => ?_)
  obtain ⟨kp, flv, pav', rfl, m', fl', g'⟩ := dy
  obtain ⟨la, lc, rfl⟩ := own_form fl'
  have ty : ∀ y, turnS mb1 c1 p1 y → ∃ cc u f, W.heap[y]? = some (.cells cc u f) ∧ (u = 75 ∨ u = 3 ∨ u = 47) := fun y hy => m1.mc.turn hy
  have nF : ∀ y, turnS mb1 c1 p1 y → ∃ cc u f, W.heap[y]? = some (.cells cc u f) ∧ u ≠ 54 := by
    intro y hy
    obtain ⟨cc, u, f, e, q⟩ := ty y hy
    refine ⟨cc, u, f, e, ?_⟩
    rcases q with rfl | rfl | rfl <;> decide
  refine ⟨la, _, lc, rfl, ⟨h.bel.trans (kp.bel (fun k hk => m1.tu k hk) h.bel.size), D1, c1, pav', D2, c2, p2, ⟨m', fun x hx => ?_⟩, ⟨m2.mc.keep kp (fun x hx => ⟨(ap.1 x hx).1, (ap.1 x hx).2, fun cur fr z => ?_⟩), m2.tu⟩, fun x hx => ?_, fun x hx => ⟨(ap.2 x hx).1, fun z => ?_⟩⟩, ownsRow_base fl' (Nat.zero_le _), fun B v l o => own_blkG o (fun g hg => ?_)⟩
  · rcases hx with rfl | hx | hx
    · exact m1.tu _ (.inl rfl)
    · exact m1.tu x (.inr (.inl hx))
    · rcases g' x hx with q | q
      · exact m1.tu x (.inr (.inr q))
      · have := h.bel.size; omega
  · obtain ⟨cc, u, f, e, q⟩ := ty x hx
    have := z.symm.trans e
    injection this with this
    injection this with _ q2
    rcases q with q | q | q <;> (rw [q] at q2; exact absurd q2 (by decide))
  · have old : turnS mb1 c1 p1 x ∨ W.heap.size ≤ x := by
      rcases hx with rfl | hx | hx
      · exact .inl (.inl rfl)
      · exact .inl (.inr (.inl hx))
      · rcases g' x hx with q | q
        · exact .inl (.inr (.inr q))
        · exact .inr q
    rcases old with q | q
    · exact ap.1 x q
    · exact ⟨fun z => by have := m2.mc.dl x z; omega, fun z => by have := m2.lt z; omega⟩
  · have lt := m2.lt hx
    have n1 := (ap.2 x hx).2
    rcases z with rfl | z | z
    · exact n1 (.inl rfl)
    · exact n1 (.inr (.inl z))
    · rcases g' x z with q | q
      · exact n1 (.inr (.inr q))
      · omega
  · rcases o.2 with ⟨z, _⟩ | ⟨g2, cap, cur, z, _, e3, _⟩
    · rw [z] at hg; cases hg
    · rw [z] at hg
      simp only [Value.ownBlock, Option.some.injEq] at hg
      subst hg
      exact keep_ty kp e3 nF
/-- The second one is gone on from a state. -/
theorem Tw.resumed (h : Tw w W mb1 q1 mb2 q2 s1 s2) {p : Pg} {s : Ms} {e : Ending} {W' : World} (r : RsmE W p s e W') : ∃ mb q, e = .returned (.tuple #[.pointer (some ⟨mb, 0, none⟩), .int .i64 0]) ∧ q.key = p.key ∧ Tw w W' mb1 q1 mb q s1 s := by
  obtain ⟨D1, c1, p1, D2, c2, p2, m1, m2, ap⟩ := h.two
  obtain ⟨b, mb, q, cev, pav, D, e, k, m, g1, g2, g3, g4⟩ := r
  have sz := h.bel.size
  have tu : ∀ x, turnS mb cev pav x → W.heap.size ≤ x := by
    intro x hx
    rcases hx with rfl | hx | hx
    · exact g1
    · exact g2 x hx
    · exact g3 x hx
  refine ⟨mb, q, e, k, ⟨h.bel.trans (b.mono sz), D1, c1, p1, D, cev, pav, m1.lat b, ⟨m, fun x hx => Nat.le_trans sz (tu x hx)⟩, fun x hx => ⟨fun z => ?_, fun z => ?_⟩, fun x hx => ⟨fun z => ?_, fun z => ?_⟩⟩⟩
  · have := m1.lt hx; have := g4 x z; omega
  · have := m1.lt hx; have := tu x z; omega
  · have := m1.mc.dl x z; have := tu x hx; omega
  · have := m1.lt z; have := tu x hx; omega
end
/-- Resume of what owned hands over. -/
theorem resume_owned {w V : World} {p : Pg} (hv : (vfyA p).1 = 0) (h : PV w p) (hR : Rws w) (hU : Rul w) (b : Below w.heap.size w V) : Calls Tryz.prog 11 #[p.agg] V fun e w' => ∃ p' : Pg, e = .returned (.agg #[.slice p'.na p'.names.length p'.nc, .slice p'.ua p'.curs.length p'.uc, .slice p'.pa p'.pool.length p'.pc, .int .i64 p'.hor, .int .i64 p'.cells, .int .i64 p'.slots, .int .i64 p'.stack, .slice p'.da p'.days.length p'.dc]) ∧ RowKit.Hid (p'.key = p.key ∧ Below V.heap.size V w' ∧ ∀ U, Below w'.heap.size w' U → ∀ s : Ms, MsOk p (vfyA p).2.2.2 s → (∀ q : Pg, q.key = p.key → AdM q s) → ∀ ca cc ga gc vs, CeR U (.slice ca s.cells.length cc) s.cells → PaV U (.slice ga s.past.length gc) s.past vs → Calls Tryz.prog 23 #[.agg #[.slice p'.na p'.names.length p'.nc, .slice p'.ua p'.curs.length p'.uc, .slice p'.pa p'.pool.length p'.pc, .int .i64 p'.hor, .int .i64 p'.cells, .int .i64 p'.slots, .int .i64 p'.stack, .slice p'.da p'.days.length p'.dc], .agg #[.int .i64 s.today, .int .i64 s.steps, .slice ca s.cells.length cc, .slice ga s.past.length gc, .int .i64 s.fault, .int .i64 s.day]] U fun e w2 => RsmE U p' s e w2) := by
  refine (owned_any (h.later b)).mono ?_
  rintro e w' ⟨p', rfl, hk, hb, hp⟩
  refine ⟨p', rfl, hk, hb, fun U bU s ok ad ca cc ga gc vs hc hpa => ?_⟩
  have b' := b.trans (hb.mono b.size)
  have b2 := b'.trans (bU.mono b'.size)
  have hpU : PV U p' := hp U (fun k _ hk2 => bU.block k hk2)
  exact resume_any hpU (hR.below b2) (hU.lat b2) (by rw [vfyA_keyM hk]; exact hv) (fun q k => ok.key (k.trans hk)) (fun q k => ad q (k.trans hk)) hc hpa
end Go.Proofs.YtpfjnnkjoabgbaaGreatDoor

namespace Go.Proofs.YtpfjnnkjoabgbaaGreatDoor
open Go.RowKit
set_option linter.unusedVariables false
set_option linter.unusedSimpArgs false
theorem dayMs_keyM {p q : Pg} (h : q.key = p.key) (s : Ms) (row : List Cl) : dayMs q (vfyA q).2.2.2.back s row = dayMs p (vfyA p).2.2.2.back s row ∧ dayFl q s row = dayFl p s row := by
  have e1 : q.names = p.names := congrArg (fun k => k.1) h
  unfold dayMs dayFl
  simp only [dayGo_keyM h, e1, vfyA_keyM h, and_self]
section
variable {w W : World} {mb1 : Nat} {q1 : Pg} {mb2 : Nat} {q2 : Pg} {s : Ms}
end
end Go.Proofs.YtpfjnnkjoabgbaaGreatDoor

namespace Go.Proofs.YtpfjnnkjoabgbaaGreatDoor
open Go.RowKit
set_option linter.unusedVariables false
set_option linter.unusedSimpArgs false
/-- A machine. -/
structure On (w W : World) (mb : Nat) (q : Pg) (s : Ms) : Prop where
  bel : Below w.heap.size w W
  one : ∃ D c p, MxM w.heap.size W mb q D c p s
section
variable {w W : World} {mb1 : Nat} {q1 : Pg} {mb2 : Nat} {q2 : Pg} {s : Ms}
theorem On.lat {W' : World} (h : On w W mb1 q1 s) (b : Below W.heap.size W W') : On w W' mb1 q1 s := by
  obtain ⟨D1, c1, p1, m1⟩ := h.one
  exact ⟨h.bel.trans (b.mono h.bel.size), D1, c1, p1, m1.lat b⟩
theorem On.over (h : On w W mb1 q1 s) : Calls Tryz.prog 15 #[.pointer (some ⟨mb1, 0, none⟩)] W fun e w' => e = .returned (.bool (decide (s.over q1.hor))) ∧ Below W.heap.size W w' := by
  obtain ⟨D1, c1, p1, m1⟩ := h.one
  exact over_any m1.mc.box
theorem On.ok (h : On w W mb1 q1 s) : MsOk q1 (vfyA q1).2.2.2 s := by
  obtain ⟨D1, c1, p1, m1⟩ := h.one
  exact m1.mc.ok
theorem On.state (h : On w W mb1 q1 s) (hv : (vfyA q1).1 = 0) : Calls Tryz.prog 19 #[.pointer (some ⟨mb1, 0, none⟩)] W fun e w' => CsE W s.today s.steps s.fault s.day s.cells s.past e w' := by
  obtain ⟨D1, c1, p1, m1⟩ := h.one
  exact state_any m1.mc hv
theorem On.day {p : Pg} (h : On w W mb1 q1 s) (k1 : q1.key = p.key) (hv : (vfyA p).1 = 0) (no : ¬ s.over p.hor) {a : Option Addr} {n c : Nat} {row : List Cl} (hr : RC W a n row) : Calls Tryz.prog 16 #[.pointer (some ⟨mb1, 0, none⟩), .slice a n c] W fun e W' => ∃ la ln lc g, e = .returned (.tuple #[.slice la ln lc, .int .i64 g, .int .i64 0]) ∧ RowKit.Hid (On w W' mb1 q1 (dayMs p (vfyA p).2.2.2.back s row)) := by
  obtain ⟨D1, c1, p1, m1⟩ := h.one
  have hv1 : (vfyA q1).1 = 0 := by rw [vfyA_keyM k1]; exact hv
  have eh1 : q1.hor = p.hor := congrArg (fun k => k.2.2.2.1) k1
  refine (day_any (cap := c) m1.mc hv1 (by rw [eh1]; exact no) hr).mono (fun e W' dy => ?_)
  obtain ⟨kp, flv, pav', rfl, m', fl', g'⟩ := dy
  obtain ⟨la, lc, rfl⟩ := own_form fl'
  rw [(dayMs_keyM k1 s row).1] at m'
  refine ⟨la, _, lc, _, rfl, ⟨h.bel.trans (kp.bel (fun k hk => m1.tu k hk) h.bel.size), D1, c1, pav', m', fun x hx => ?_⟩⟩
  rcases hx with rfl | hx | hx
  · exact m1.tu _ (.inl rfl)
  · exact m1.tu x (.inr (.inl hx))
  · rcases g' x hx with q | q
    · exact m1.tu x (.inr (.inr q))
    · have := h.bel.size; omega
/-- Another one is gone on from a state. -/
theorem On.resumed (h : On w W mb1 q1 s) {p : Pg} {s2 : Ms} {e : Ending} {W' : World} (r : RsmE W p s2 e W') : ∃ mb q, e = .returned (.tuple #[.pointer (some ⟨mb, 0, none⟩), .int .i64 0]) ∧ q.key = p.key ∧ Tw w W' mb1 q1 mb q s s2 := by
  obtain ⟨D1, c1, p1, m1⟩ := h.one
  obtain ⟨b, mb, q, cev, pav, D, e, k, m, g1, g2, g3, g4⟩ := r
  have sz := h.bel.size
  have tu : ∀ x, turnS mb cev pav x → W.heap.size ≤ x := by
    intro x hx
    rcases hx with rfl | hx | hx
    · exact g1
    · exact g2 x hx
    · exact g3 x hx
  refine ⟨mb, q, e, k, ⟨h.bel.trans (b.mono sz), D1, c1, p1, D, cev, pav, m1.lat b, ⟨m, fun x hx => Nat.le_trans sz (tu x hx)⟩, fun x hx => ⟨fun z => ?_, fun z => ?_⟩, fun x hx => ⟨fun z => ?_, fun z => ?_⟩⟩⟩
  · have := m1.lt hx; have := g4 x z; omega
  · have := m1.lt hx; have := tu x z; omega
  · have := m1.mc.dl x z; have := tu x hx; omega
  · have := m1.lt z; have := tu x hx; omega
theorem Tw.one {s2 : Ms} (h : Tw w W mb1 q1 mb2 q2 s s2) : On w W mb1 q1 s := by
  obtain ⟨D1, c1, p1, D2, c2, p2, m1, m2, ap⟩ := h.two
  exact ⟨h.bel, D1, c1, p1, m1⟩
theorem on_born {w4 w5 : World} {D1 : Nat → Prop} {c1 : Value} (b45 : Below w4.heap.size w4 w5) (m1 : McV D1 w5 mb1 q1 (vfyA q1).2.2.2 c1 (.slice none 0 0) q1.born) (g1 : w4.heap.size ≤ mb1) (g2 : ∀ g, c1.ownBlock = some g → w4.heap.size ≤ g) : On w4 w5 mb1 q1 q1.born := by
  refine ⟨b45, D1, c1, _, m1, fun x hx => ?_⟩
  rcases hx with rfl | hx | hx
  · exact g1
  · exact g2 x hx
  · cases hx
end
end Go.Proofs.YtpfjnnkjoabgbaaGreatDoor

namespace Go.Proofs.YtpfjnnkjoabgbaaGreatDoor
open Go.RowKit
set_option linter.unusedVariables false
set_option linter.unusedSimpArgs false
/-- Many blocks, one behind the other. -/
def allocs (w : World) (l : List Obj) : World := l.foldl World.alloc w
theorem allocs_all : ∀ (l : List Obj) (w : World), (allocs w l).heap.size = w.heap.size + l.length ∧ Below w.heap.size w (allocs w l) ∧ ∀ i, i < l.length → (allocs w l).heap[w.heap.size + i]? = l[i]?
  | [], w => ⟨rfl, Below.refl _ _, fun i hi => by simp at hi⟩
  | o :: l, w => by
    obtain ⟨h1, h2, h3⟩ := allocs_all l (w.alloc o)
    have s1 : (w.alloc o).heap.size = w.heap.size + 1 := by simp
    have e : allocs w (o :: l) = allocs (w.alloc o) l := rfl
    rw [e]
    have a1 := allocBP w o
    refine ⟨by rw [h1, s1]; simp; omega, a1.trans (h2.mono a1.size), fun i hi => ?_⟩
    cases i with
    | zero =>
      rw [Nat.add_zero, h2.block w.heap.size (by omega)]
      exact heapN w o
    | succ i =>
      have := h3 i (by simpa using hi)
      rw [s1] at this
      rw [show w.heap.size + (i + 1) = w.heap.size + 1 + i by omega, this]
      rfl
def pfC0 : List In := [⟨3, 0, 0⟩, ⟨5, 0, 0⟩, ⟨0, 0, 0⟩]
def pfC1 : List In := [⟨4, 0, 0⟩, ⟨3, 0, 1⟩, ⟨9, 0, 0⟩, ⟨28, 0, 0⟩, ⟨1, 0, 0⟩, ⟨28, 0, 0⟩, ⟨0, 0, 0⟩]
def pfP (b : Nat) : Pg := ⟨some ⟨b, 0, none⟩, 1, [⟨#[83]⟩], some ⟨b + 1, 0, none⟩, 1, [⟨#[69, 85, 82]⟩], some ⟨b + 2, 0, none⟩, 1, [5], 2, 1, 0, 2, some ⟨b + 6, 0, none⟩, 2, [⟨0, some ⟨b + 4, 0, none⟩, 3, pfC0⟩, ⟨2, some ⟨b + 5, 0, none⟩, 7, pfC1⟩]⟩
def pfR (b : Nat) : List Rw := [⟨some ⟨b + 7, 0, none⟩, 1, 1, [⟨true, 10⟩]⟩, ⟨some ⟨b + 8, 0, none⟩, 1, 1, [⟨true, 20⟩]⟩]
def pfO (b : Nat) : List Obj := [.cells #[.string ⟨#[83]⟩] 9, .cells #[.string ⟨#[69, 85, 82]⟩] 9, .cells #[.int .i64 5] 3, .cells #[.slice (some ⟨b, 0, none⟩) 1 1, .slice (some ⟨b + 1, 0, none⟩) 1 1, .slice (some ⟨b + 2, 0, none⟩) 1 1, .int .i64 2, .int .i64 1, .int .i64 0, .int .i64 2, .slice (some ⟨b + 6, 0, none⟩) 2 2] 26, .cells #[.int .i64 3, .int .i64 0, .int .i64 0, .int .i64 5, .int .i64 0, .int .i64 0, .int .i64 0, .int .i64 0, .int .i64 0] 68, .cells #[.int .i64 4, .int .i64 0, .int .i64 0, .int .i64 3, .int .i64 0, .int .i64 1, .int .i64 9, .int .i64 0, .int .i64 0, .int .i64 28, .int .i64 0, .int .i64 0, .int .i64 1, .int .i64 0, .int .i64 0, .int .i64 28, .int .i64 0, .int .i64 0, .int .i64 0, .int .i64 0, .int .i64 0] 68, .cells #[.int .i64 0, .slice (some ⟨b + 4, 0, none⟩) 3 3, .int .i64 2, .slice (some ⟨b + 5, 0, none⟩) 7 7] 71, .cells #[.bool true, .int .i64 10] 73, .cells #[.bool true, .int .i64 20] 73, .cells #[.slice (some ⟨b + 7, 0, none⟩) 1 1, .slice (some ⟨b + 8, 0, none⟩) 1 1] 47]
theorem i64_sm (z : Int) (h0 : -100 ≤ z) (h1 : z ≤ 100) : i64 z := by
  unfold i64
  simp [Lit.wf, IntKind.min, IntKind.max, IntKind.bits, IntKind.signed]
  omega
theorem hd_sm (b n : Nat) (h : n ≤ 100) : Hd (some ⟨b, 0, none⟩) n n := ⟨(fun e => by cases e), Nat.le_refl _, by unfold maxLen; omega⟩
theorem c0_cell (k : Nat) (hk : k < 3) (j : Nat) (hj : j < 3) : (#[.int .i64 3, .int .i64 0, .int .i64 0, .int .i64 5, .int .i64 0, .int .i64 0, .int .i64 0, .int .i64 0, .int .i64 0] : Array Value)[k * 3 + j]? = some ((icell (pfC0.getD k default)).getD j default) := by
  rcases (show k = 0 ∨ k = 1 ∨ k = 2 by omega) with rfl | rfl | rfl <;> rcases (show j = 0 ∨ j = 1 ∨ j = 2 by omega) with rfl | rfl | rfl <;> rfl
theorem c1_cell (k : Nat) (hk : k < 7) (j : Nat) (hj : j < 3) : (#[.int .i64 4, .int .i64 0, .int .i64 0, .int .i64 3, .int .i64 0, .int .i64 1, .int .i64 9, .int .i64 0, .int .i64 0, .int .i64 28, .int .i64 0, .int .i64 0, .int .i64 1, .int .i64 0, .int .i64 0, .int .i64 28, .int .i64 0, .int .i64 0, .int .i64 0, .int .i64 0, .int .i64 0] : Array Value)[k * 3 + j]? = some ((icell (pfC1.getD k default)).getD j default) := by
  rcases (show k = 0 ∨ k = 1 ∨ k = 2 ∨ k = 3 ∨ k = 4 ∨ k = 5 ∨ k = 6 by omega) with rfl | rfl | rfl | rfl | rfl | rfl | rfl <;> rcases (show j = 0 ∨ j = 1 ∨ j = 2 by omega) with rfl | rfl | rfl <;> rfl
theorem pf_pv (w : World) : PV (allocs w (pfO w.heap.size)) (pfP w.heap.size) ∧ RL (allocs w (pfO w.heap.size)) (some ⟨w.heap.size + 9, 0, none⟩) 2 (pfR w.heap.size) := by
  obtain ⟨_, _, h⟩ := allocs_all (pfO w.heap.size) w
  have b0 : BkP (allocs w (pfO w.heap.size)) w.heap.size _ _ := h 0 (by simp [pfO])
  have b1 : BkP (allocs w (pfO w.heap.size)) (w.heap.size + 1) _ _ := h 1 (by simp [pfO])
  have b2 : BkP (allocs w (pfO w.heap.size)) (w.heap.size + 2) _ _ := h 2 (by simp [pfO])
  have b4 : BkP (allocs w (pfO w.heap.size)) (w.heap.size + 4) _ _ := h 4 (by simp [pfO])
  have b5 : BkP (allocs w (pfO w.heap.size)) (w.heap.size + 5) _ _ := h 5 (by simp [pfO])
  have b6 : BkP (allocs w (pfO w.heap.size)) (w.heap.size + 6) _ _ := h 6 (by simp [pfO])
  have b7 : BkP (allocs w (pfO w.heap.size)) (w.heap.size + 7) _ _ := h 7 (by simp [pfO])
  have b8 : BkP (allocs w (pfO w.heap.size)) (w.heap.size + 8) _ _ := h 8 (by simp [pfO])
  have b9 : BkP (allocs w (pfO w.heap.size)) (w.heap.size + 9) _ _ := h 9 (by simp [pfO])
  refine ⟨⟨⟨hd_sm _ _ (of_decide_eq_true rfl), rfl, of_decide_eq_true rfl, ?_, .inr ⟨_, 0, rfl, b0.lt, ?_⟩⟩, ⟨hd_sm _ _ (of_decide_eq_true rfl), rfl, of_decide_eq_true rfl, ?_, .inr ⟨_, 0, rfl, b1.lt, ?_⟩⟩, ⟨hd_sm _ _ (of_decide_eq_true rfl), rfl, of_decide_eq_true rfl, ?_, .inr ⟨_, 0, rfl, b2.lt, ?_⟩⟩, i64_sm _ (of_decide_eq_true rfl) (of_decide_eq_true rfl), i64_sm _ (of_decide_eq_true rfl) (of_decide_eq_true rfl), i64_sm _ (of_decide_eq_true rfl) (of_decide_eq_true rfl), i64_sm _ (of_decide_eq_true rfl) (of_decide_eq_true rfl), ⟨hd_sm _ _ (of_decide_eq_true rfl), rfl, of_decide_eq_true rfl, ?_, .inr ⟨_, 0, rfl, b6.lt, ?_⟩⟩⟩, ⟨rfl, by omega, ?_, .inr ⟨_, 0, rfl, b9.lt, ?_⟩⟩⟩
  · intro s hs
    rcases List.mem_singleton.1 hs with rfl
    exact of_decide_eq_true rfl
  · intro i hi j hj
    obtain rfl : i = 0 := by simp [pfP] at hi; exact hi
    obtain rfl : j = 0 := by omega
    rw [b0.cell]; rfl
  · intro s hs
    rcases List.mem_singleton.1 hs with rfl
    exact of_decide_eq_true rfl
  · intro i hi j hj
    obtain rfl : i = 0 := by simp [pfP] at hi; exact hi
    obtain rfl : j = 0 := by omega
    rw [b1.cell]; rfl
  · intro s hs
    rcases List.mem_singleton.1 hs with rfl
    exact i64_sm _ (of_decide_eq_true rfl) (of_decide_eq_true rfl)
  · intro i hi j hj
    obtain rfl : i = 0 := by simp [pfP] at hi; exact hi
    obtain rfl : j = 0 := by omega
    rw [b2.cell]; rfl
  · intro s hs
    simp only [pfP, List.mem_cons, List.not_mem_nil, or_false] at hs
    rcases hs with rfl | rfl
    · refine ⟨i64_sm _ (of_decide_eq_true rfl) (of_decide_eq_true rfl), hd_sm _ _ (of_decide_eq_true rfl), rfl, of_decide_eq_true rfl, ?_, .inr ⟨_, 0, rfl, b4.lt, ?_⟩⟩
      · intro i hi
        simp [pfC0] at hi
        rcases hi with rfl | rfl | rfl <;> exact ⟨i64_sm _ (of_decide_eq_true rfl) (of_decide_eq_true rfl), i64_sm _ (of_decide_eq_true rfl) (of_decide_eq_true rfl), i64_sm _ (of_decide_eq_true rfl) (of_decide_eq_true rfl)⟩
      · intro i hi j hj
        rw [b4.cell, Nat.zero_add]
        exact c0_cell i hi j hj
    · refine ⟨i64_sm _ (of_decide_eq_true rfl) (of_decide_eq_true rfl), hd_sm _ _ (of_decide_eq_true rfl), rfl, of_decide_eq_true rfl, ?_, .inr ⟨_, 0, rfl, b5.lt, ?_⟩⟩
      · intro i hi
        simp [pfC1] at hi
        rcases hi with rfl | rfl | rfl | rfl | rfl | rfl | rfl <;> exact ⟨i64_sm _ (of_decide_eq_true rfl) (of_decide_eq_true rfl), i64_sm _ (of_decide_eq_true rfl) (of_decide_eq_true rfl), i64_sm _ (of_decide_eq_true rfl) (of_decide_eq_true rfl)⟩
      · intro i hi j hj
        rw [b5.cell, Nat.zero_add]
        exact c1_cell i hi j hj
  · intro i hi j hj
    have hi : i < 2 := hi
    rcases (show i = 0 ∨ i = 1 by omega) with rfl | rfl <;> rcases (show j = 0 ∨ j = 1 by omega) with rfl | rfl <;> (rw [b6.cell]; rfl)
  · intro r hr
    simp only [pfR, List.mem_cons, List.not_mem_nil, or_false] at hr
    rcases hr with rfl | rfl
    · refine ⟨⟨rfl, of_decide_eq_true rfl, ?_, .inr ⟨_, 0, rfl, b7.lt, fun i hi => ?_⟩⟩, fun z => (by cases z), Nat.le_refl _, (by unfold maxLen; exact of_decide_eq_true rfl)⟩
      · intro c hc
        rcases List.mem_singleton.1 hc with rfl
        rfl
      · obtain rfl : i = 0 := by have hi : i < 1 := hi; omega
        exact ⟨by rw [b7.cell]; rfl, by rw [b7.cell]; rfl⟩
    · refine ⟨⟨rfl, of_decide_eq_true rfl, ?_, .inr ⟨_, 0, rfl, b8.lt, fun i hi => ?_⟩⟩, fun z => (by cases z), Nat.le_refl _, (by unfold maxLen; exact of_decide_eq_true rfl)⟩
      · intro c hc
        rcases List.mem_singleton.1 hc with rfl
        rfl
      · obtain rfl : i = 0 := by have hi : i < 1 := hi; omega
        exact ⟨by rw [b8.cell]; rfl, by rw [b8.cell]; rfl⟩
  · intro i hi
    rcases (show i = 0 ∨ i = 1 by omega) with rfl | rfl <;> (rw [b9.cell]; rfl)
theorem pf_can (b : Nat) : canP (pfP b) := by
  refine ⟨by rfl, ⟨of_decide_eq_true rfl, by rfl, fun i hi => ?_, of_decide_eq_true rfl, by rfl, fun i hi => ?_, of_decide_eq_true rfl, fun i hi => ?_⟩, ⟨fun i hi => ?_, of_decide_eq_true rfl⟩, ⟨fun i hi => ?_, by rfl⟩⟩
  · simp [pfP] at hi
  · simp [pfP] at hi
  · simp [pfP] at hi
  · have hi : i < 2 := hi
    rcases (show i = 0 ∨ i = 1 by omega) with rfl | rfl
    · exact ⟨of_decide_eq_true rfl, of_decide_eq_true rfl⟩
    · exact ⟨of_decide_eq_true rfl, of_decide_eq_true rfl⟩
  · have hi : i < 2 := hi
    rcases (show i = 0 ∨ i = 1 by omega) with rfl | rfl
    · refine ⟨of_decide_eq_true rfl, fun n hn => ?_⟩
      have hn : n < 3 := hn
      rcases (show n = 0 ∨ n = 1 ∨ n = 2 by omega) with rfl | rfl | rfl
      all_goals
        unfold insI inB In.okP
        simp [pfP, pfC0, baA, bbA, baL, bbL]
    · refine ⟨of_decide_eq_true rfl, fun n hn => ?_⟩
      have hn : n < 7 := hn
      rcases (show n = 0 ∨ n = 1 ∨ n = 2 ∨ n = 3 ∨ n = 4 ∨ n = 5 ∨ n = 6 by omega) with rfl | rfl | rfl | rfl | rfl | rfl | rfl
      all_goals
        unfold insI inB In.okP
        simp [pfP, pfC1, baA, bbA, baL, bbL]
set_option maxRecDepth 100000 in
theorem pf_vfy (b : Nat) : vfyA (pfP b) = (0, 0, 0, ⟨2, 10, 1, 0, 1⟩) := by
  unfold vfyA
  rw [if_pos (pf_can b)]
  have e1 : vAll (pfP b).days 2 = (0, 1, 6, ⟨2, 10, 1, 0, 1⟩) := by kernel_rfl
  have e2 : (pfP b).days.length = 2 := rfl
  unfold vfy
  rw [e2, e1, if_neg (by simp), if_pos ⟨rfl, rfl, rfl⟩]
set_option maxRecDepth 100000 in
theorem pf_run (b : Nat) : (runMs (pfP b) 1 (rowsF (pfR b)) 3 (pfP b).born).1.fault = 0 ∧ (runMs (pfP b) 1 (rowsF (pfR b)) 3 (pfP b).born).1.day = 0 ∧ (runMs (pfP b) 1 (rowsF (pfR b)) 3 (pfP b).born).2 = [⟨2, ⟨#[69, 85, 82]⟩, 30⟩, ⟨2, ⟨#[69, 85, 82]⟩, 5⟩] := ⟨by kernel_rfl, by kernel_rfl, by kernel_rfl⟩
set_option maxRecDepth 100000 in
set_option maxHeartbeats 3200000 in
theorem plain15_any {w : World} (hR : Rws w) (hU : Rul w) : Calls Tryz.prog 9 #[] w fun e w' => e = .returned (.bool true) ∧ Below w.heap.size w w' := by
  obtain ⟨_, bA, _⟩ := allocs_all (pfO w.heap.size) w
  obtain ⟨pv, rl⟩ := pf_pv w
  have vf := pf_vfy w.heap.size
  obtain ⟨r1, r2, r3⟩ := pf_run w.heap.size
  have KR := Lib.hid (p := Calls Tryz.prog 10 #[(pfP w.heap.size).agg, .slice (some ⟨w.heap.size + 9, 0, none⟩) 2 2] (allocs w (pfO w.heap.size)) fun e w' => ∃ fa fc, e = .returned (.tuple #[.agg #[.slice fa 2 fc, .int .i64 0, .int .i64 0], .int .i64 0]) ∧ RowKit.Hid (FLm w' fa 2 [⟨2, ⟨#[69, 85, 82]⟩, 30⟩, ⟨2, ⟨#[69, 85, 82]⟩, 5⟩] ∧ Below w.heap.size w w')) ((run_any (rc := 2) pv (hR.below bA) (hU.lat bA) rl).mono (fun e w' q => by
    obtain ⟨fa, fn, fc, rfl, o⟩ := q.ok (by rw [vf])
    have e0 : (vfyA (pfP w.heap.size)).2.2.2.back = 1 := by rw [vf]
    have e1 : ((pfP w.heap.size).hor + 1).toNat = 3 := rfl
    rw [e0, e1, r3] at o
    rw [e0, e1, r1, r2]
    have f := owf_fl o
    have fl : fn = 2 := f.1.symm
    subst fl
    exact ⟨fa, fc, rfl, f, bA.trans (q.bel.mono bA.size)⟩))
  have KN := Lib.hid (fun e W => num15_any e W)
  have KS := Lib.hid (p := ∀ V w1 fa fc, Below w1.heap.size w1 V → FLm w1 fa 2 [⟨2, ⟨#[69, 85, 82]⟩, 30⟩, ⟨2, ⟨#[69, 85, 82]⟩, 5⟩] → Calls Tryz.prog 18 #[.slice fa 2 fc, .slice (some ⟨V.heap.size, 0, none⟩) 2 2] (V.alloc (.cells #[.int .i64 2, .string ⟨#[69, 85, 82]⟩, .int .i64 30, .int .i64 2, .string ⟨#[69, 85, 82]⟩, .int .i64 5] 54)) fun e w' => e = .returned (.bool true) ∧ Below (V.alloc (.cells #[.int .i64 2, .string ⟨#[69, 85, 82]⟩, .int .i64 30, .int .i64 2, .string ⟨#[69, 85, 82]⟩, .int .i64 5] 54)).heap.size (V.alloc (.cells #[.int .i64 2, .string ⟨#[69, 85, 82]⟩, .int .i64 30, .int .i64 2, .string ⟨#[69, 85, 82]⟩, .int .i64 5] 54)) w') (fun V w1 fa fc b f => by
    have al := allocBP V (.cells #[.int .i64 2, .string ⟨#[69, 85, 82]⟩, .int .i64 30, .int .i64 2, .string ⟨#[69, 85, 82]⟩, .int .i64 5] 54)
    have bk : BkP (V.alloc (.cells #[.int .i64 2, .string ⟨#[69, 85, 82]⟩, .int .i64 30, .int .i64 2, .string ⟨#[69, 85, 82]⟩, .int .i64 5] 54)) V.heap.size #[.int .i64 2, .string ⟨#[69, 85, 82]⟩, .int .i64 30, .int .i64 2, .string ⟨#[69, 85, 82]⟩, .int .i64 5] 54 := heapN _ _
    refine sameFl_any fa (some ⟨V.heap.size, 0, none⟩) 2 fc 2 _ _ ((f.later b).later al) ⟨rfl, .inr ⟨V.heap.size, 0, rfl, bk.lt, fun i hi => ?_⟩⟩ (by omega)
    rcases (show i = 0 ∨ i = 1 by omega) with rfl | rfl
    · exact ⟨by rw [bk.cell]; rfl, by rw [bk.cell]; rfl, by rw [bk.cell]; rfl⟩
    · exact ⟨by rw [bk.cell]; rfl, by rw [bk.cell]; rfl, by rw [bk.cell]; rfl⟩)
  clear pv rl vf r1 r2 r3 hR hU bA
  go_enter Tryz.func9, Tryz.ntmps9
  go_wp2_with fail
  go_at_call 10
  refine KR.out.mono ?_
  rintro e w1 ⟨fa, fc, rfl, hq⟩
  obtain ⟨f1, b1⟩ := hq.out
  obtain ⟨W2, hW2⟩ : ∃ W, w1.alloc (.cells #[.slice fa 2 fc, .int .i64 0, .int .i64 0] 32) = W := ⟨_, rfl⟩
  have k1 : BkP W2 w1.heap.size #[.slice fa 2 fc, .int .i64 0, .int .i64 0] 32 := by rw [← hW2]; exact heapN _ _
  have bw2 : Below w1.heap.size w1 W2 := by rw [← hW2]; exact allocBP _ _
  have KS2 := Lib.hid (KS.out W2 w1 fa fc bw2 f1)
  have CL := Lib.hid (p := ∀ V, Below W2.heap.size W2 V → V.cell? ⟨w1.heap.size, 0, none⟩ = some (.slice fa 2 fc) ∧ V.cell? ⟨w1.heap.size, 1, none⟩ = some (.int .i64 0) ∧ Below w.heap.size w V) (fun V b => ⟨by rw [(k1.lat b).cell]; rfl, by rw [(k1.lat b).cell]; rfl, (b1.trans (bw2.mono b1.size)).trans (b.mono (b1.trans (bw2.mono b1.size)).size)⟩)
  obtain ⟨x0, _, _⟩ := CL.out _ (allocBP W2 (.cells #[.int .i64 2, .string ⟨#[69, 85, 82]⟩, .int .i64 30, .int .i64 2, .string ⟨#[69, 85, 82]⟩, .int .i64 5] 54))
  have HW := Lib.hid hW2
  clear hW2 f1 b1 k1 bw2 hq KR KS
  go_upto_region 4 with fail
  rw [HW.out]
  go_wp2_with (first
    | (go_at_call 18; refine KS2.out.mono ?_; rintro e w5 ⟨rfl, b5⟩; obtain ⟨y0, y1, b6⟩ := CL.out w5 ((allocBP W2 _).trans (b5.mono (allocBP W2 _).size)); have B6 := Lib.hid b6; clear b5 b6)
    | (go_at_call 14; refine (KN.out 0 _).mono ?_; rintro e w6 ⟨rfl, rfl⟩))
  go_ret
  exact ⟨rfl, B6.out⟩
end Go.Proofs.YtpfjnnkjoabgbaaGreatDoor
