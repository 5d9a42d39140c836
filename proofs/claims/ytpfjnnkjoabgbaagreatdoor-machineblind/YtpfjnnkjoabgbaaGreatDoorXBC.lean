import Derived.Test.YtpfjnnkjoabgbaaGreatDoorXBB
import Derived.Deep.RegionHeld3
import Derived.Deep.RegionLaw
import Derived.Test.YtpfjnnkjoabgbaaGreatDoorXAE
import Derived.Maps.AppendAt
namespace Go.Proofs.YtpfjnnkjoabgbaaGreatDoor
open Go.RowKit
set_option linter.unusedVariables false
set_option linter.unusedSimpArgs false
set_option maxRecDepth 100000 in
set_option maxHeartbeats 800000 in
theorem zero_deed {K : Kx} {w : World} {steps : Int} {r : Rn} (h : RoE K w steps r) (i : In) {x : Int} {l : List Int} (e : r.st = x :: l) (ha : 0 ≤ i.a) (hb : i.a ≤ 1000000) (hn : r.nx ≤ 1000000) : Calls Tryz.prog 88 #[.pointer (some ⟨K.rb, 0, none⟩), iAgg i] w fun e w' => e = .returned (.int .i64 0) ∧ RoE K w' steps (if x = 0 then { r with nx := r.nx + i.a.toNat, st := l } else { r with st := l }) := by
  have K1 := Lib.hid (mtake_any (h.lat (allocBP w (.cells #[.int .i64 i.o, .int .i64 i.a, .int .i64 i.b] 68))) e)
  have IB := Lib.hid (p := BkP (w.alloc (.cells #[.int .i64 i.o, .int .i64 i.a, .int .i64 i.b] 68)) w.heap.size #[.int .i64 i.o, .int .i64 i.a, .int .i64 i.b] 68) (heapN _ _)
  have KJ := Lib.hid (fun V (hV : RoE K V steps { r with st := l }) => jump_deed hV i ha hb hn)
  clear h e ha hb hn
  unfold iAgg at KJ ⊢
  obtain ⟨io, ia, ib⟩ := i
  simp only at *
  by_cases z : x = 0
  · have z1 : (x == 0) = true := by simpa using z
    rw [if_pos z]
    clear z
    go_enter Tryz.func88, Tryz.ntmps88
    go_wp2_with (first | (go_at_call 109; refine K1.out.mono ?_; rintro e w1 ⟨rfl, h1, s1⟩; have H1 := Lib.hid h1; have I1 := s1 _ _ _ IB.out (by decide); have i0 := I1.cell 0; have i1 := I1.cell 1; have i2 := I1.cell 2; simp only [List.getElem?_toArray, List.getElem?_cons_zero, List.getElem?_cons_succ] at i0 i1 i2; clear h1 s1) | (go_at_call 87; refine (KJ.out w1 H1.out).mono ?_; rintro e w2 ⟨rfl, h1⟩; have H2 := Lib.hid h1; clear h1))
    go_ret
    exact ⟨rfl, H2.out⟩
  · have z1 : (x == 0) = false := by simpa using z
    rw [if_neg z]
    clear z
    go_enter Tryz.func88, Tryz.ntmps88
    go_wp2_with (go_at_call 109; refine K1.out.mono ?_; rintro e w1 ⟨rfl, h1, s1⟩; have H1 := Lib.hid h1; clear h1 s1)
    go_ret
    exact ⟨rfl, H1.out⟩
/-- A slot, an accumulator: where it lies. -/
theorem row_at {w : World} {B : Nat} {v : Value} {l : List Int} (h : OwZ w B v l) {i : Nat} (hi : i < l.length) : ∃ g cap, v = .slice (some ⟨g, 0, none⟩) l.length cap ∧ w.cell? ⟨g, i, none⟩ = some (.int .i64 (l.getD i 0)) := by
  obtain ⟨a, cap, rfl, _, f⟩ := h.form
  obtain ⟨g, rfl, _, _⟩ := f (by intro z; rw [z] at hi; simp at hi)
  exact ⟨g, cap, rfl, h.cell hi⟩
set_option maxRecDepth 100000 in
set_option maxHeartbeats 1600000 in
theorem get_deed {K : Kx} {w : World} {steps : Int} {r : Rn} (h : RoE K w steps r) (i : In) (ha : 0 ≤ i.a) (hi : i.a.toNat < r.sl.length) (hl : r.st.length ≤ 300000) : Calls Tryz.prog 68 #[.pointer (some ⟨K.rb, 0, none⟩), iAgg i] w fun e w' => e = .returned (.int .i64 0) ∧ RoE K w' steps (r.put (r.sl.getD i.a.toNat 0)) := by
  obtain ⟨io, ia, ib⟩ := i
  simp only at *
  obtain ⟨W, hW⟩ : ∃ W, w.alloc (.cells #[.int .i64 io, .int .i64 ia, .int .i64 ib] 68) = W := ⟨_, rfl⟩
  have h1 := h.lat (allocBP w (.cells #[.int .i64 io, .int .i64 ia, .int .i64 ib] 68))
  have i1 := (BkP.cell (heapN w (.cells #[.int .i64 io, .int .i64 ia, .int .i64 ib] 68)) 1)
  rw [hW] at h1 i1
  simp only [List.getElem?_toArray, List.getElem?_cons_zero, List.getElem?_cons_succ] at i1
  obtain ⟨stv, slv, flv, h2⟩ := id h1
  obtain ⟨g, cap, rfl, hc⟩ := row_at h2.sl hi
  have c6 := (run_cells h2).2.2.2.2.2.2.1
  have KP := Lib.hid (fun V (b : Below W.heap.size W V) => mput_any (h1.lat b) (r.sl.getD ia.toNat 0) (h2.r2 _ (getD_mem hi)) (by omega))
  obtain ⟨a, rfl⟩ : ∃ a : Nat, ia = (a : Int) := ⟨ia.toNat, by omega⟩
  simp only [Int.toNat_natCast] at *
  have a0 : ¬ (a : Int) < 0 := by omega
  have a1 : (a : Int) < (r.sl.length : Int) := by omega
  generalize r.sl.getD a 0 = v at *
  have HW := Lib.hid hW
  clear h h1 h2 ha hi hl hW
  unfold iAgg
  simp only at *
  go_enter Tryz.func68, Tryz.ntmps68
  go_wp2
  rw [HW.out]
  go_region_with (go_at_call 107; refine (KP.out _ (by first | exact Below.refl _ _ | exact drew1 _)).mono ?_; rintro e w1 ⟨rfl, h1⟩; have H1 := Lib.hid h1; clear h1)
  all_goals go_wp2
  all_goals go_ret
  all_goals exact ⟨rfl, H1.out⟩
end Go.Proofs.YtpfjnnkjoabgbaaGreatDoor

namespace Go.Proofs.YtpfjnnkjoabgbaaGreatDoor
open Go.RowKit
set_option linter.unusedVariables false
set_option linter.unusedSimpArgs false
theorem mach_cells {K : Kx} {w : World} {stv slv flv : Value} {steps : Int} {r : Rn} (h : RO K w stv slv flv steps r) : w.cell? ⟨K.mb, 1, none⟩ = some (.slice K.p.ua K.p.curs.length K.p.uc) ∧ w.cell? ⟨K.mb, 2, none⟩ = some (.slice K.p.pa K.p.pool.length K.p.pc) ∧ w.cell? ⟨K.mb, 11, none⟩ = some (.int .i64 K.today) ∧ w.cell? ⟨K.mb, 12, none⟩ = some (.int .i64 steps) ∧ w.cell? ⟨K.mb, 13, none⟩ = some K.cev ∧ w.cell? ⟨K.mb, 14, none⟩ = some K.pav := by
  refine ⟨?_, ?_, ?_, ?_, ?_, ?_⟩ <;> (rw [h.mb.cell]; rfl)
set_option maxRecDepth 100000 in
set_option maxHeartbeats 1600000 in
theorem constant_deed {K : Kx} {E : EvM} (hE : KE K E) {w : World} {steps : Int} {r : Rn} (h : RoE K w steps r) (i : In) (ha : 0 ≤ i.a) (hi : i.a.toNat < E.pool.length) (hl : r.st.length ≤ 300000) : Calls Tryz.prog 62 #[.pointer (some ⟨K.rb, 0, none⟩), iAgg i] w fun e w' => e = .returned (.int .i64 0) ∧ RoE K w' steps (r.put (E.pool.getD i.a.toNat 0)) := by
  obtain ⟨io, ia, ib⟩ := i
  simp only at *
  obtain ⟨W, hW⟩ : ∃ W, w.alloc (.cells #[.int .i64 io, .int .i64 ia, .int .i64 ib] 68) = W := ⟨_, rfl⟩
  have h1 := h.lat (allocBP w (.cells #[.int .i64 io, .int .i64 ia, .int .i64 ib] 68))
  have i1 := (BkP.cell (heapN w (.cells #[.int .i64 io, .int .i64 ia, .int .i64 ib] 68)) 1)
  rw [hW] at h1 i1
  simp only [List.getElem?_toArray, List.getElem?_cons_zero, List.getElem?_cons_succ] at i1
  obtain ⟨stv, slv, flv, h2⟩ := id h1
  obtain ⟨x, o, hpa, hc⟩ := hE.pool W h2.on _ hi
  have c0 := (run_cells h2).1
  have c2 := (mach_cells h2).2.1
  rw [hpa, hE.plen] at c2
  have KP := Lib.hid (fun V (b : Below W.heap.size W V) => mput_any (h1.lat b) (E.pool.getD ia.toNat 0) (hE.ip _ (getD_mem hi)) (by omega))
  obtain ⟨a, rfl⟩ : ∃ a : Nat, ia = (a : Int) := ⟨ia.toNat, by omega⟩
  simp only [Int.toNat_natCast] at *
  have a0 : ¬ (a : Int) < 0 := by omega
  have a1 : (a : Int) < (E.pool.length : Int) := by omega
  generalize E.pool.getD a 0 = v at *
  have HW := Lib.hid hW
  clear h h1 h2 ha hi hl hW hE hpa
  unfold iAgg
  simp only at *
  go_enter Tryz.func62, Tryz.ntmps62
  go_wp2
  rw [HW.out]
  go_region_with (go_at_call 107; refine (KP.out _ (by first | exact Below.refl _ _ | exact drew1 _)).mono ?_; rintro e w1 ⟨rfl, h1⟩; have H1 := Lib.hid h1; clear h1)
  all_goals go_wp2
  all_goals go_ret
  all_goals exact ⟨rfl, H1.out⟩
/-- An accumulator: where it lies. -/
theorem ce_at {w : World} {v : Value} {l : List Int} (h : CeR w v l) {i : Nat} (hi : i < l.length) : ∃ g cap, v = .slice (some ⟨g, 0, none⟩) l.length cap ∧ w.cell? ⟨g, i, none⟩ = some (.int .i64 (l.getD i 0)) ∧ w.frozen? ⟨g, i, none⟩ = false := by
  rcases h with ⟨rfl, _⟩ | h
  · simp at hi
  · obtain ⟨g, cap, rfl, q⟩ := row_at h hi
    exact ⟨g, cap, rfl, q, h.frozen i⟩
set_option maxRecDepth 100000 in
set_option maxHeartbeats 1600000 in
theorem load_deed {K : Kx} {w : World} {steps : Int} {r : Rn} (h : RoE K w steps r) (i : In) (ha : 0 ≤ i.a) (hi : i.a.toNat < r.ce.length) (hl : r.st.length ≤ 300000) : Calls Tryz.prog 65 #[.pointer (some ⟨K.rb, 0, none⟩), iAgg i] w fun e w' => e = .returned (.int .i64 0) ∧ RoE K w' steps (r.put (r.ce.getD i.a.toNat 0)) := by
  obtain ⟨io, ia, ib⟩ := i
  simp only at *
  obtain ⟨W, hW⟩ : ∃ W, w.alloc (.cells #[.int .i64 io, .int .i64 ia, .int .i64 ib] 68) = W := ⟨_, rfl⟩
  have h1 := h.lat (allocBP w (.cells #[.int .i64 io, .int .i64 ia, .int .i64 ib] 68))
  have i1 := (BkP.cell (heapN w (.cells #[.int .i64 io, .int .i64 ia, .int .i64 ib] 68)) 1)
  rw [hW] at h1 i1
  simp only [List.getElem?_toArray, List.getElem?_cons_zero, List.getElem?_cons_succ] at i1
  obtain ⟨stv, slv, flv, h2⟩ := id h1
  obtain ⟨g, cap, hpa, hc, _⟩ := ce_at h2.ce hi
  have c0 := (run_cells h2).1
  have c2 := (mach_cells h2).2.2.2.2.1
  rw [hpa] at c2
  have KP := Lib.hid (fun V (b : Below W.heap.size W V) => mput_any (h1.lat b) (r.ce.getD ia.toNat 0) (h2.r3 _ (getD_mem hi)) (by omega))
  obtain ⟨a, rfl⟩ : ∃ a : Nat, ia = (a : Int) := ⟨ia.toNat, by omega⟩
  simp only [Int.toNat_natCast] at *
  have a0 : ¬ (a : Int) < 0 := by omega
  have a1 : (a : Int) < (r.ce.length : Int) := by omega
  generalize r.ce.getD a 0 = v at *
  have HW := Lib.hid hW
  clear h h1 h2 ha hi hl hW hpa
  unfold iAgg
  simp only at *
  go_enter Tryz.func65, Tryz.ntmps65
  go_wp2
  rw [HW.out]
  go_region_with (go_at_call 107; refine (KP.out _ (by first | exact Below.refl _ _ | exact drew1 _)).mono ?_; rintro e w1 ⟨rfl, h1⟩; have H1 := Lib.hid h1; clear h1)
  all_goals go_wp2
  all_goals go_ret
  all_goals exact ⟨rfl, H1.out⟩
theorem OwZ.set {w : World} {B g cap n : Nat} {l : List Int} (h : OwZ w B (.slice (some ⟨g, 0, none⟩) n cap) l) {i : Nat} (hi : i < l.length) (x : Int) : OwZ (w.setCell ⟨g, i, none⟩ (.int .i64 x)) B (.slice (some ⟨g, 0, none⟩) n cap) (l.set i x) := by
  rcases h.2 with ⟨e, _⟩ | ⟨g', cap', cur, e, e2, e3, e4, e5, e6, e7⟩
  · injection e with e; cases e
  · injection e with e en ec
    injection e with e
    injection e with e
    subst e en ec
    refine ⟨by rw [zcs_len]; simp, .inr ⟨g, cap, cur.set! i (.int .i64 x), by rw [List.length_set], e2, ?_, by rw [List.length_set]; exact e4, e5, by simpa using e6, ?_⟩⟩
    · have := BkP.set2 (w := w) (b := g) (cs := cur) (t := 3) e3 i (.int .i64 x) (by omega)
      exact this
    · rw [List.length_set]
      have : zcs (l.set i x) = (zcs l).set i (.int .i64 x) := by simp [zcs]
      rw [this, ← e7, Array.set!_eq_setIfInBounds, Array.toList_setIfInBounds, List.take_set]
/-- An accumulator is set. -/
theorem ro_cell {K : Kx} {w : World} {stv slv flv : Value} {steps : Int} {r : Rn} (h : RO K w stv slv flv steps r) {g cap i : Nat} (hv : K.cev = .slice (some ⟨g, 0, none⟩) r.ce.length cap) (hi : i < r.ce.length) (x : Int) (hx : inR x) : RO K (w.setCell ⟨g, i, none⟩ (.int .i64 x)) stv slv flv steps { r with ce := r.ce.set i x } := by
  have ob : K.cev.ownBlock = some g := by rw [hv]; rfl
  have hc : OwZ w 0 K.cev r.ce := by
    rcases h.ce with ⟨q, _⟩ | q
    · rw [q] at hi; simp at hi
    · exact q
  have gB := h.cB g ob
  have gm : g ≠ K.mb := fun e => own_neB hc h.mb (by decide) (by rw [ob, e])
  have keep : ∀ {t : TypeId} {k : Nat} {u : Value} {n : Nat} {xs : List Value}, w.ownsRow K.B t k u n xs → (w.setCell ⟨g, i, none⟩ (.int .i64 x)).ownsRow K.B t k u n xs := fun q => own_blkG q (fun y hy => bk_block (by have := (World.ownsRow.lt q y hy).1; omega))
  refine ⟨h.os, h.tape, h.out, by rw [set_size]; exact h.sz, fun k hk => (bk_block (fun z => h.dc g ob (by rw [← z]; exact hk))).trans (h.fr k hk), h.rb.other _ _ _ (by have := h.rB; omega), h.rB, h.mb.other _ _ _ gm, h.mB, keep h.st, keep h.sl, keep h.fl, h.ap, .inr ?_, h.cB, h.r1, h.r2, ?_, h.dl, h.dr, h.dm, h.dc, h.d1, h.d2, h.d3⟩
  · rw [hv] at hc ⊢
    exact hc.set hi x
  · intro y hy
    rcases List.mem_or_eq_of_mem_set hy with q | q
    · exact h.r3 y q
    · rw [q]; exact hx
end Go.Proofs.YtpfjnnkjoabgbaaGreatDoor

namespace Go.Proofs.YtpfjnnkjoabgbaaGreatDoor
open Go.RowKit
set_option linter.unusedVariables false
set_option linter.unusedSimpArgs false
set_option maxRecDepth 100000 in
set_option maxHeartbeats 3200000 in
theorem store_deed {K : Kx} {w : World} {steps : Int} {r : Rn} (h : RoE K w steps r) (i : In) (ha : 0 ≤ i.a) (hi : i.a.toNat < r.ce.length) {x : Int} {l : List Int} (e : r.st = x :: l) : Calls Tryz.prog 66 #[.pointer (some ⟨K.rb, 0, none⟩), iAgg i] w fun e w' => e = .returned (.int .i64 0) ∧ RoE K w' steps { r with ce := r.ce.set i.a.toNat x, st := l } := by
  obtain ⟨io, ia, ib⟩ := i
  simp only at *
  obtain ⟨W, hW⟩ : ∃ W, w.alloc (.cells #[.int .i64 io, .int .i64 ia, .int .i64 ib] 68) = W := ⟨_, rfl⟩
  have h1 := h.lat (allocBP w (.cells #[.int .i64 io, .int .i64 ia, .int .i64 ib] 68))
  have IB : BkP (w.alloc (.cells #[.int .i64 io, .int .i64 ia, .int .i64 ib] 68)) w.heap.size #[.int .i64 io, .int .i64 ia, .int .i64 ib] 68 := heapN _ _
  rw [hW] at h1 IB
  have i1 := IB.cell 1
  simp only [List.getElem?_toArray, List.getElem?_cons_zero, List.getElem?_cons_succ] at i1
  obtain ⟨stv, slv, flv, h2⟩ := id h1
  obtain ⟨g, cap, hpa, hc, _⟩ := ce_at h2.ce hi
  have c0 := (run_cells h2).1
  have c2 := (mach_cells h2).2.2.2.2.1
  rw [hpa] at c2
  have rx : inR x := h2.r1 x (by rw [e]; simp)
  have KT := Lib.hid (fun V (b : Below W.heap.size W V) => mtake_any (h1.lat b) e)
  obtain ⟨a, rfl⟩ : ∃ a : Nat, ia = (a : Int) := ⟨ia.toNat, by omega⟩
  simp only [Int.toNat_natCast] at *
  have AF := Lib.hid (p := ∀ V w1, Below W.heap.size W V → RoE K w1 steps { r with st := l } → Sty V w1 → w1.cell? ⟨K.rb, 0, none⟩ = some (.pointer (some ⟨K.mb, 0, none⟩)) ∧ w1.cell? ⟨K.mb, 13, none⟩ = some (.slice (some ⟨g, 0, none⟩) r.ce.length cap) ∧ w1.cell? ⟨w.heap.size, 1, none⟩ = some (.int .i64 (a : Int)) ∧ w1.cell? ⟨g, a, none⟩ = some (.int .i64 (r.ce.getD a 0)) ∧ w1.frozen? ⟨g, a, none⟩ = false ∧ ∀ V2, Below w1.heap.size w1 V2 → RoE K (V2.setCell ⟨g, a, none⟩ (.int .i64 x)) steps { r with ce := r.ce.set a x, st := l }) (fun V w1 b hr s => by
    obtain ⟨stv, slv, flv, q⟩ := hr
    have ib := (s _ _ _ (IB.lat b) (by decide)).cell 1
    simp only [List.getElem?_toArray, List.getElem?_cons_zero, List.getElem?_cons_succ] at ib
    have cc := q.ce
    obtain ⟨g', cap', hp', hc', hf'⟩ := ce_at cc hi
    simp only at hp'
    have m := (mach_cells q).2.2.2.2.1
    rw [hpa] at hp' m
    injection hp' with p1 p2 p3
    injection p1 with p1
    injection p1 with p1
    subst p1
    exact ⟨(run_cells q).1, m, ib, hc', hf', fun V2 b2 => ⟨_, _, _, ro_cell (r := { r with st := l }) (q.lat b2) hpa hi x rx⟩⟩)
  have a0 : ¬ (a : Int) < 0 := by omega
  have a1 : (a : Int) < (r.ce.length : Int) := by omega
  have HW := Lib.hid hW
  clear h h1 h2 ha hi hW hpa IB rx e
  unfold iAgg
  simp only at *
  go_enter Tryz.func66, Tryz.ntmps66
  go_wp2
  rw [HW.out]
  go_region_with (go_at_call 109; refine (KT.out _ (by first | exact Below.refl _ _ | exact drew1 _)).mono ?_; rintro e w1 ⟨rfl, h1, s1⟩; obtain ⟨y0, y1, y2, y3, y4, y5⟩ := AF.out _ w1 (by first | exact Below.refl _ _ | exact drew1 _) h1 s1; have Y5 := Lib.hid y5; clear h1 s1 y5)
  all_goals go_wp2
  all_goals go_ret
  all_goals first
    | exact ⟨rfl, Y5.out _ (Below.refl _ _)⟩
    | exact ⟨rfl, Y5.out _ (drew1 _)⟩
end Go.Proofs.YtpfjnnkjoabgbaaGreatDoor

namespace Go.Proofs.YtpfjnnkjoabgbaaGreatDoor
open Go.RowKit
set_option linter.unusedVariables false
set_option linter.unusedSimpArgs false
theorem drew1B2 (w : World) (n : Nat) : Below n w w.drew := ⟨rfl, rfl, rfl, Nat.le_refl _, fun _ _ => rfl⟩
theorem adr (W : World) (o : Obj) : Below W.heap.size W (W.alloc o).drew := (allocBP W o).trans (drew1B2 _ _)
theorem below_cell {w V : World} (b : Below w.heap.size w V) {a : Addr} {v : Value} (h : w.cell? a = some v) : V.cell? a = some v := (b.cell (World.block_lt_of_cell? w a h)).trans h
set_option maxRecDepth 100000 in
set_option maxHeartbeats 1600000 in
theorem seen_any {K : Kx} {E : EvM} (hE : KE K E) {w : World} {steps : Int} {r : Rn} (h : RoE K w steps r) (b i : Nat) (hb : b ≤ E.past.length) (hi : i < (E.seen b).length) (hp : E.past.length ≤ 100000) : ∃ y u z, ∀ V, Below w.heap.size w V → (Calls Tryz.prog 108 #[.pointer (some ⟨K.rb, 0, none⟩), .int .i64 (b : Int)] V fun e w' => e = .returned (.slice (some ⟨y, u, none⟩) (E.seen b).length z) ∧ w' = V) ∧ V.cell? ⟨y, u + i * 2, none⟩ = some (.bool ((E.seen b).getD i default).h) ∧ V.cell? ⟨y, u + i * 2 + 1, none⟩ = some (.int .i64 ((E.seen b).getD i default).v) := by
  obtain ⟨stv, slv, flv, h⟩ := h
  obtain ⟨d0, _, _, _, d4, _, _, _⟩ := run_cells h
  have d14 := (mach_cells h).2.2.2.2.2
  by_cases b0 : b = 0
  · subst b0
    have es : E.seen 0 = E.row := by unfold EvM.seen; rw [if_pos rfl]
    rw [es] at hi ⊢
    obtain ⟨x, o, c, hr, q1, q2⟩ := hE.row w h.on i hi
    refine ⟨x, o, c, fun V bV => ⟨?_, below_cell bV q1, below_cell bV q2⟩⟩
    rw [hr] at d4
    have c4 := below_cell bV d4
    clear h hE hi hb hp q1 q2 hr es d14 d0 d4 bV
    go_enter Tryz.func108, Tryz.ntmps108
    go_wp2
    go_ret
    exact ⟨rfl, rfl⟩
  · have es : E.seen b = E.past.getD (E.past.length - b) [] := by unfold EvM.seen; rw [if_neg b0]
    rw [es] at hi ⊢
    obtain ⟨x, o, c, y, u, z, hr, q0, q1, q2⟩ := hE.past w h.on (E.past.length - b) (by omega) i hi
    refine ⟨y, u, z, fun V bV => ⟨?_, below_cell bV q1, below_cell bV q2⟩⟩
    rw [hr] at d14
    obtain ⟨d, hd⟩ : ∃ d, E.past.length - b = d := ⟨_, rfl⟩
    rw [hd] at q0 ⊢
    have ew : IntKind.i64.wrap ((E.past.length : Int) - (b : Int)) = (d : Int) := by simp [IntKind.wrap, IntKind.bits, IntKind.signed]; omega
    have e0 : ¬ (d : Int) < 0 := by omega
    have e1 : (d : Int) < (E.past.length : Int) := by omega
    have bz : ((b : Int) == 0) = false := by simp; omega
    have c0 := below_cell bV d0
    have c14 := below_cell bV d14
    have cq := below_cell bV q0
    clear h hE hi hb hp q1 q2 hr es d4 hd b0 d0 d14 q0 bV
    generalize (E.past.getD d []).length = n at *
    generalize E.past.length = m at *
    go_enter Tryz.func108, Tryz.ntmps108
    go_wp2
    go_ret
    exact ⟨rfl, rfl⟩
set_option maxRecDepth 100000 in
set_option maxHeartbeats 3200000 in
theorem observe_deed {K : Kx} {E : EvM} (hE : KE K E) {w : World} {steps : Int} {r : Rn} (h : RoE K w steps r) (i : In) (ha : 0 ≤ i.a) (hb : 0 ≤ i.b) (hb2 : i.b.toNat ≤ E.past.length) (hi : i.a.toNat < (E.seen i.b.toNat).length) (hp : E.past.length ≤ 100000) (hl : r.st.length ≤ 300000) : Calls Tryz.prog 64 #[.pointer (some ⟨K.rb, 0, none⟩), iAgg i] w fun e w' => e = .returned (.int .i64 (if ((E.seen i.b.toNat).getD i.a.toNat default).h then 0 else 3)) ∧ RoE K w' steps (if ((E.seen i.b.toNat).getD i.a.toNat default).h then r.put ((E.seen i.b.toNat).getD i.a.toNat default).v else r) := by
  obtain ⟨io, ia, ib⟩ := i
  simp only at *
  obtain ⟨W, hW⟩ : ∃ W, w.alloc (.cells #[.int .i64 io, .int .i64 ia, .int .i64 ib] 68) = W := ⟨_, rfl⟩
  have h1 := h.lat (allocBP w (.cells #[.int .i64 io, .int .i64 ia, .int .i64 ib] 68))
  have IB : BkP (w.alloc (.cells #[.int .i64 io, .int .i64 ia, .int .i64 ib] 68)) w.heap.size #[.int .i64 io, .int .i64 ia, .int .i64 ib] 68 := heapN _ _
  rw [hW] at h1 IB
  have i1 := IB.cell 1
  have i2 := IB.cell 2
  simp only [List.getElem?_toArray, List.getElem?_cons_zero, List.getElem?_cons_succ] at i1 i2
  obtain ⟨a, rfl⟩ : ∃ a : Nat, ia = (a : Int) := ⟨ia.toNat, by omega⟩
  obtain ⟨b, rfl⟩ : ∃ b : Nat, ib = (b : Int) := ⟨ib.toNat, by omega⟩
  simp only [Int.toNat_natCast] at *
  have inv : inR ((E.seen b).getD a default).v := by
    have q := getD_mem (d := default) hi
    unfold EvM.seen at q ⊢
    split
    · rename_i z; rw [if_pos z] at q; exact hE.ir _ q
    · rename_i z
      rw [if_neg z] at q
      exact hE.ia _ (getD_mem (by omega)) _ q
  obtain ⟨y, u, z, KS0⟩ := seen_any hE h1 b a hb2 hi hp
  have KS := Lib.hid KS0
  clear KS0
  have KPU := Lib.hid (fun V (b' : Below W.heap.size W V) => mput_any (h1.lat b') ((E.seen b).getD a default).v inv (by omega))
  have HR := Lib.hid (fun V (b' : Below W.heap.size W V) => h1.lat b')
  have a0 : ¬ (a : Int) < 0 := by omega
  have a1 : (a : Int) < ((E.seen b).length : Int) := by omega
  have HW := Lib.hid hW
  have IBH := Lib.hid IB
  clear h h1 ha hb hb2 hi hp hl hE inv hW IB
  unfold iAgg
  generalize (E.seen b).length = n at *
  obtain ⟨cv, hcv⟩ : ∃ v, ((E.seen b).getD a default).v = v := ⟨_, rfl⟩
  rw [hcv] at KPU KS ⊢
  clear hcv
  by_cases hch : ((E.seen b).getD a default).h = true
  · rw [if_pos hch, if_pos hch]
    rw [hch] at KS
    clear hch
    obtain ⟨_, q1', q2'⟩ := KS.out W (Below.refl _ _)
    have n1 := World.new_ne W ⟨y, u + a * 2, none⟩ q1'
    have n2 := World.new_ne W ⟨w.heap.size, 1, none⟩ i1
    simp only at n1 n2
    go_enter Tryz.func64, Tryz.ntmps64
    go_wp2
    rw [HW.out]
    go_region_held3 (fun w' => w'.cell? ⟨w.heap.size, 1, none⟩ = some (.int .i64 (a : Int)) ∧ w'.cell? ⟨w.heap.size, 2, none⟩ = some (.int .i64 (b : Int)) ∧ w'.cell? ⟨y, u + a * 2, none⟩ = some (.bool true) ∧ w'.cell? ⟨y, u + a * 2 + 1, none⟩ = some (.int .i64 cv))
      (go_keep)
      (first | (go_at_call 108; refine (KS.out _ (by first | exact Below.refl _ _ | exact drew1 _ | exact allocBP _ _ | exact (allocBP W _).trans (drew1B2 _ _))).1.mono ?_; rintro e w1 ⟨rfl, rfl⟩))
    all_goals go_wp2_with (go_at_call 107; refine (KPU.out _ (by first | exact adr _ _ | exact allocBP _ _)).mono ?_; rintro e w2 ⟨rfl, h1⟩; have H1 := Lib.hid h1; clear h1)
    all_goals go_ret
    all_goals exact ⟨rfl, H1.out⟩
  · rw [if_neg hch, if_neg hch]
    have hf : ((E.seen b).getD a default).h = false := by simpa using hch
    rw [hf] at KS
    clear hch hf
    obtain ⟨_, q1', q2'⟩ := KS.out W (Below.refl _ _)
    have n1 := World.new_ne W ⟨y, u + a * 2, none⟩ q1'
    have n2 := World.new_ne W ⟨w.heap.size, 1, none⟩ i1
    simp only at n1 n2
    go_enter Tryz.func64, Tryz.ntmps64
    go_wp2
    rw [HW.out]
    go_region_held3 (fun w' => w'.cell? ⟨w.heap.size, 1, none⟩ = some (.int .i64 (a : Int)) ∧ w'.cell? ⟨w.heap.size, 2, none⟩ = some (.int .i64 (b : Int)) ∧ w'.cell? ⟨y, u + a * 2, none⟩ = some (.bool false) ∧ w'.cell? ⟨y, u + a * 2 + 1, none⟩ = some (.int .i64 cv))
      (go_keep)
      (first | (go_at_call 108; refine (KS.out _ (by first | exact Below.refl _ _ | exact drew1 _ | exact allocBP _ _ | exact (allocBP W _).trans (drew1B2 _ _))).1.mono ?_; rintro e w1 ⟨rfl, rfl⟩))
    all_goals go_wp2
    all_goals go_ret
    all_goals first
      | exact ⟨rfl, HR.out _ (allocBP _ _)⟩
      | exact ⟨rfl, HR.out _ (adr _ _)⟩
end Go.Proofs.YtpfjnnkjoabgbaaGreatDoor

namespace Go.Proofs.YtpfjnnkjoabgbaaGreatDoor
open Go.RowKit
set_option linter.unusedVariables false
set_option linter.unusedSimpArgs false
/-- The run's flows are another row. -/
theorem RO.flows {K : Kx} {w : World} {stv slv flv : Value} {steps : Int} {r : Rn} (h : RO K w stv slv flv steps r) {w' : World} (g : w.grownBy w' flv.ownBlock) {fv : Value} {l : List Fl} (hs : OwF w' K.B fv l) (hb : flv.ownBlock = fv.ownBlock ∨ (∃ H, w.heap.size ≤ H ∧ fv.ownBlock = some H)) : RO K (w'.setCell ⟨K.rb, 7, none⟩ fv) stv slv fv steps { r with fl := l } := by
  have hB : ∀ k, flv.ownBlock = some k → K.B ≤ k := fun k e => (World.ownsRow.lt h.fl k e).1
  have nr : some K.rb ≠ flv.ownBlock := fun e => own_neB h.fl h.rb (by decide) e.symm
  obtain ⟨g1, g2, g3, g4, g5, g6, g7, g8⟩ := h.grow g hB h.d3 nr
  have s1 : OwZ w' K.B stv r.st.reverse := h.st.grown g (own_neO h.st h.fl (by decide))
  have s2 : OwZ w' K.B slv r.sl := h.sl.grown g (own_neO h.sl h.fl (by decide))
  have x1 := g6.set2 7 fv (by simp [rArr])
  have rw_ : ∀ {t : TypeId} {k : Nat} {u : Value} {n : Nat} {xs : List Value} {C : Nat}, w'.ownsRow C t k u n xs → t ≠ 83 → (w'.setCell ⟨K.rb, 7, none⟩ fv).ownsRow C t k u n xs := fun q ht => own_blkG q (fun g hg => bk_block (fun z => own_neB q g6 ht (by rw [hg, z])))
  refine ⟨g1, g2, g3, by rw [set_size]; exact g4, fun k hk => (bk_block (fun z => h.dr (by rw [← z]; exact hk))).trans (g5 k hk), by simpa [rArr] using x1, h.rB, g7.other _ _ _ (by have := h.mB; have := h.rB; omega), h.mB, rw_ s1 (by decide), rw_ s2 (by decide), rw_ hs (by decide), h.ap, ?_, h.cB, h.r1, h.r2, h.r3, h.dl, h.dr, h.dm, h.dc, h.d1, h.d2, ?_⟩
  · rcases g8 with q | q
    · exact .inl q
    · exact .inr (rw_ q (by decide))
  · intro y hy hd
    rcases hb with q | ⟨H, q1, q2⟩
    · rw [← q] at hy; exact h.d3 y hy hd
    · rw [q2] at hy
      injection hy with hy
      have := h.dl y hd
      have := h.sz
      omega
/-- A flow is appended, where the order is drawn. -/
theorem step_fl {ops : Array Oper} {o : Oper} {a : Act} {K : Act → World → Prop} {Q : Exit → Act → World → Prop} {E : Prop} (w : World) (hgd : o.guard = none) (s x : Operand)
    (ho : o.op = .call { callee := .builtin .append, args := #[s, x], argTypes := #[29, 29] }) (B : Nat) (v : Value) (l : List Fl) (f : Fl) (hs : a.eval s = v)
    (hown : OwF w B v l) (hx : a.eval x = .slice (some ⟨w.heap.size, 0, none⟩) 1 1) (hl : l.length ≤ 1000000000) (hb : B ≤ w.heap.size)
    (h : ∀ g cap w', OwF w' B (.slice (some ⟨g, 0, none⟩) (l.length + 1) cap) (l ++ [f]) → (w.alloc (.cells #[.int .i64 f.d, .string f.c, .int .i64 f.a] 54)).grownBy w' v.ownBlock → (v.ownBlock = some g ∨ g = w.heap.size + 1) → K (a.put o.dst (.slice (some ⟨g, 0, none⟩) (l.length + 1) cap)) w') :
    if Region.wanted o (yielded ops a.tmps) = true then Oper.wp Tryz.prog o a (w.alloc (.cells #[.int .i64 f.d, .string f.c, .int .i64 f.a] 54)) K Q else E := by
  obtain ⟨i0, hi, hz0, hz1, hz2⟩ := info_parts infoFo
  refine step_append_lies _ hgd s x 29 ho B 54 i0 (.agg #[.int .i64 0, .string ⟨#[]⟩, .int .i64 0]) 3 32 Tryz.underlying29 hi hz0 hz1 hz2 rfl (by decide) v _ _ hs (World.ownsRow.alloc hown _) ⟨w.heap.size, 0, none⟩ 1 1 (fo3 f) hx rfl ?_ ?_ (by omega) (by unfold maxLen; omega) (by omega) (by simp; omega) (w.heap.size + 1) (by simp) (fun g cap w' h1 h2 h3 _ => h g cap w' ?_ h2 h3)
  · intro j u hj
    match j, hj with
    | 0, hj => simp [fo3] at hj; subst hj; simp [Addr.add]
    | 1, hj => simp [fo3] at hj; subst hj; simp [Addr.add]
    | 2, hj => simp [fo3] at hj; subst hj; simp [Addr.add]
  · intro u hu
    simp [fo3] at hu
    rcases hu with rfl | rfl | rfl <;> rfl
  · unfold OwF
    rw [focs_append, List.length_append]
    exact h1
end Go.Proofs.YtpfjnnkjoabgbaaGreatDoor

namespace Go.Proofs.YtpfjnnkjoabgbaaGreatDoor
open Go.RowKit
set_option linter.unusedVariables false
set_option linter.unusedSimpArgs false
theorem zeroCells_int (m : Nat) : Builtin.zeroCells #[.int .i64 0] m = (zcs (List.replicate m 0)).toArray := by
  apply Array.ext'
  unfold Builtin.zeroCells zcs
  simp
  apply List.ext_getElem (by simp)
  intro i h1 h2
  simp [Nat.mod_one]
theorem run_zeros_room {w : World} {g n cap m : Nat} {cur : Array Value} (ty : TypeId) (hg : w.heap[g]? = some (.cells cur 3 (0, 0))) (hroom : n + m ≤ cap) (hs : cur.size = cap) (hm : 0 < m) (hb : m ≤ 100000000) :
    (Builtin.append_ #[23, 3] ty #[.slice (some ⟨g, 0, none⟩) n cap, .int .i64 (m : Int)]).run Tryz.prog w = .ok (.slice (some ⟨g, 0, none⟩) (n + m) cap) (w.setRow g (cur.toList.take n ++ zcs (List.replicate m 0) ++ cur.toList.drop (n + m)).toArray) := by
  obtain ⟨i0, hi, hz0, hz1, hz2⟩ := info_parts infoZ
  have ht := Tryz.underlying23
  have hI := Tryz.underlying3
  have hw : IntKind.i64.wrap (m : Int) = (m : Int) := by simp [IntKind.wrap, IntKind.bits, IntKind.signed]; omega
  have h0 : ¬ ((m : Int) < 0) := by omega
  have h48 : ¬ (281474976710656 < (m : Int) * 8) := by omega
  have hm0 : m ≠ 0 := by omega
  have hst := run_storeCells_at Tryz.prog g n 3 (zcs (List.replicate m 0)) 0 cur w hg (by simp [zcs]; omega) (zcs_one _)
  simp only [Nat.add_zero] at hst
  have len : (zcs (List.replicate m 0)).length = m := by simp [zcs]
  rw [len] at hst
  simp [Builtin.append_, run_underlying ht, run_underlying hI, sizeOf, typeInfo, zeroValue, hi, hz0, hz1, hz2, asInt, asIntOf, hw, h0, h48, hm0, hroom, Addr.add_lit, Value.cells, zeroCells_int, hst]
theorem run_zeros_grow {w : World} {n cap m : Nat} {base : Option Addr} {olds : List Value} (ty : TypeId) (hold : (Builtin.firstCells 1 n (.slice base n cap)).run Tryz.prog w.drew = .ok olds.toArray w.drew) (hg : cap < n + m) (hm : 0 < m) (hb : n + m ≤ 100000000) :
    (Builtin.append_ #[23, 3] ty #[.slice base n cap, .int .i64 (m : Int)]).run Tryz.prog w = .ok (.slice (some ⟨w.heap.size, 0, none⟩) (n + m) (grownCap w (n + m) cap 3)) (w.drew.alloc (.cells ((olds ++ zcs (List.replicate m 0)).toArray ++ Builtin.zeroCells #[.int .i64 0] (grownCap w (n + m) cap 3 - (n + m))) 3)) := by
  obtain ⟨i0, hi, hz0, hz1, hz2⟩ := info_parts infoZ
  have ht := Tryz.underlying23
  have hI := Tryz.underlying3
  have hw : IntKind.i64.wrap (m : Int) = (m : Int) := by simp [IntKind.wrap, IntKind.bits, IntKind.signed]; omega
  have h0 : ¬ ((m : Int) < 0) := by omega
  have h48 : ¬ (281474976710656 < (m : Int) * 8) := by omega
  have hm0 : m ≠ 0 := by omega
  have hn : ¬ (n + m ≤ cap) := by omega
  have h63 : ¬ (9223372036854775807 < ((n : Int) + (m : Int))) := by omega
  have fits := growslice_fits (need := n + m) (old := cap) (bytes := 8) hg (by omega)
  have h48' : ¬ (281474976710656 < Builtin.nextslicecap (n + m) cap * 8) := by omega
  simp [Builtin.append_, run_underlying ht, run_underlying hI, sizeOf, typeInfo, zeroValue, hi, hz0, hz1, hz2, asInt, asIntOf, hw, h0, h48, hm0, hn, h63, h48', Question.forced, Value.cells, hold, newRow, grownCap, zeroCells_int]
theorem run_zeros_own {w : World} {B : Nat} {v : Value} {l : List Int} {m : Nat} (ty : TypeId) (hown : OwZ w B v l) (hm : 0 < m) (hb : l.length + m ≤ 100000000) (hB : B ≤ w.heap.size) :
    ∃ g cap w', (Builtin.append_ #[23, 3] ty #[v, .int .i64 (m : Int)]).run Tryz.prog w = .ok (.slice (some ⟨g, 0, none⟩) (l.length + m) cap) w' ∧ OwZ w' B (.slice (some ⟨g, 0, none⟩) (l.length + m) cap) (l ++ List.replicate m 0) ∧ w.grownBy w' v.ownBlock ∧ (v.ownBlock = some g ∨ g = w.heap.size) := by
  have len : (l ++ List.replicate m 0).length = l.length + m := by simp
  have grown : ∀ (old : Nat), old < l.length + m → ∀ (row : Option Nat),
      OwZ (w.drew.alloc (.cells ((zcs l ++ zcs (List.replicate m 0)).toArray ++ Builtin.zeroCells #[.int .i64 0] (grownCap w (l.length + m) old 3 - (l.length + m))) 3)) B (.slice (some ⟨w.heap.size, 0, none⟩) (l.length + m) (grownCap w (l.length + m) old 3)) (l ++ List.replicate m 0) ∧
      w.grownBy (w.drew.alloc (.cells ((zcs l ++ zcs (List.replicate m 0)).toArray ++ Builtin.zeroCells #[.int .i64 0] (grownCap w (l.length + m) old 3 - (l.length + m))) 3)) row := by
    intro old ho row
    have hge := grownCap_ge w (l.length + m) old 3
    have hcm : grownCap w (l.length + m) old 3 ≤ maxLen := grownCap_le_maxLen w (l.length + m) old 3 (by unfold maxLen; omega)
    refine ⟨⟨by rw [zcs_len]; omega, .inr ⟨w.heap.size, _, _, by rw [len], hB, heap_alloc_new w.drew _, by rw [len]; exact hge, hcm, ?_, ?_⟩⟩, ⟨rfl, rfl, rfl, by simp, fun k hk _ => (allocBP w.drew _).block k hk⟩⟩
    · simp [size_zeroCells, zcs]
      omega
    · rw [len, Nat.mul_one, zcs_append]
      have e : (zcs l ++ zcs (List.replicate m 0)).length = l.length + m := by simp [zcs]
      rw [← e, Array.toList_append]
      exact List.take_left
  rcases hown.2 with ⟨rfl, h0⟩ | ⟨g, cap, cur, rfl, hbg, hg, hnc, hcm, hcs, htake⟩
  · have hl : l = [] := List.length_eq_zero_iff.1 h0
    subst hl
    have hr := run_zeros_grow (w := w) (n := 0) (cap := 0) (m := m) (base := none) (olds := []) ty (run_firstCells_none (P := Tryz.prog) w.drew 1 0 0 0) (by omega) hm (by simpa using hb)
    obtain ⟨g1, g2⟩ := grown 0 (by simp; omega) (Value.ownBlock (.slice none 0 0))
    exact ⟨_, _, _, hr, g1, g2, .inr rfl⟩
  · by_cases hroom : l.length + m ≤ cap
    · have hr := run_zeros_room (w := w) (g := g) (n := l.length) (cap := cap) (m := m) (cur := cur) ty hg hroom (by omega) hm (by omega)
      refine ⟨g, cap, _, hr, ⟨by rw [zcs_len]; omega, .inr ⟨g, cap, _, by rw [len], hbg, setRow_heap w g cur _ 3 _ hg, by rw [len]; exact hroom, hcm, ?_, ?_⟩⟩, ⟨rfl, rfl, rfl, by simp, fun k _ hk => setRow_other w g k _ (fun e => hk (by simp [Value.ownBlock, e]))⟩, .inl rfl⟩
      · simp only [List.size_toArray, List.length_append, List.length_take, List.length_drop, Array.length_toList, zcs_len, List.length_replicate]
        omega
      · rw [len, Nat.mul_one, zcs_append]
        rw [Nat.mul_one] at htake
        rw [htake]
        have e : (zcs l ++ zcs (List.replicate m 0)).length = l.length + m := by simp [zcs]
        rw [← e]
        exact List.take_left
    · have holds : ∀ j u, (zcs l)[j]? = some u → w.drew.cell? ((⟨g, 0, none⟩ : Addr).add j) = some u := World.ownsRow.cells (w := w) (g := g) hown rfl
      have hr := run_zeros_grow (w := w) (n := l.length) (cap := cap) (m := m) (base := some ⟨g, 0, none⟩) (olds := zcs l) ty (run_firstCells_some (P := Tryz.prog) w.drew 1 l.length ⟨g, 0, none⟩ l.length cap (zcs l) (by rw [zcs_len]; omega) holds) (by omega) hm hb
      obtain ⟨g1, g2⟩ := grown cap (by omega) (Value.ownBlock (.slice (some ⟨g, 0, none⟩) l.length cap))
      exact ⟨_, _, _, hr, g1, g2, .inr rfl⟩
/-- At the operation, for the walk. -/
theorem wp_zeros {ops : Array Oper} {rest : List Oper} {o : Oper} {a : Act} {Q : Exit → Act → World → Prop} (w : World) (hgd : o.guard = none) (s y : Operand)
    (ho : o.op = .call { callee := .builtin .append, args := #[s, y], argTypes := #[23, 3] }) (B : Nat) (v : Value) (l : List Int) (m : Nat) (hs : a.eval s = v) (hy : a.eval y = .int .i64 (m : Int))
    (hown : OwZ w B v l) (hm : 0 < m) (hb : l.length + m ≤ 100000000) (hB : B ≤ w.heap.size)
    (h : ∀ g cap w', OwZ w' B (.slice (some ⟨g, 0, none⟩) (l.length + m) cap) (l ++ List.replicate m 0) → w.grownBy w' v.ownBlock → (v.ownBlock = some g ∨ g = w.heap.size) → wpList Tryz.prog ops Q rest (a.put o.dst (.slice (some ⟨g, 0, none⟩) (l.length + m) cap)) w') : wpList Tryz.prog ops Q (o :: rest) a w := by
  obtain ⟨g, cap, w', hr, h1, h2, h3⟩ := run_zeros_own (w := w) (m := m) o.type hown hm hb hB
  refine wpList_plain hgd fun K hK => ?_
  unfold Oper.wp execOp
  simp only [ho, resolve, invoke, builtin, Sem.run_bind, Sem.run_pure, Result.andThen_ok, List.map_toArray, List.map_cons, List.map_nil, hs, hy, hr]
  exact hK _ _ (h g cap w' h1 h2 h3)
end Go.Proofs.YtpfjnnkjoabgbaaGreatDoor

namespace Go.Proofs.YtpfjnnkjoabgbaaGreatDoor
open Go.RowKit
set_option linter.unusedVariables false
set_option linter.unusedSimpArgs false
/-- The run's slots are another row. -/
theorem RO.slots {K : Kx} {w : World} {stv slv flv : Value} {steps : Int} {r : Rn} (h : RO K w stv slv flv steps r) {w' : World} (g : w.grownBy w' slv.ownBlock) {sv : Value} {l : List Int} (hs : OwZ w' K.B sv l) (hb : slv.ownBlock = sv.ownBlock ∨ (∃ H, w.heap.size ≤ H ∧ sv.ownBlock = some H)) (hr : ∀ x ∈ l, inR x) : RO K (w'.setCell ⟨K.rb, 6, none⟩ sv) stv sv flv steps { r with sl := l } := by
  have hB : ∀ k, slv.ownBlock = some k → K.B ≤ k := fun k e => (h.sl.own k e).1
  have nr : some K.rb ≠ slv.ownBlock := fun e => own_neB h.sl h.rb (by decide) e.symm
  obtain ⟨g1, g2, g3, g4, g5, g6, g7, g8⟩ := h.grow g hB h.d2 nr
  have s1 : OwZ w' K.B stv r.st.reverse := h.st.grown g h.ap
  have f2 : OwF w' K.B flv r.fl := World.ownsRow.kept h.fl g (own_neO h.fl h.sl (by decide))
  have x1 := g6.set2 6 sv (by simp [rArr])
  have rw_ : ∀ {t : TypeId} {k : Nat} {u : Value} {n : Nat} {xs : List Value} {C : Nat}, w'.ownsRow C t k u n xs → t ≠ 83 → (w'.setCell ⟨K.rb, 6, none⟩ sv).ownsRow C t k u n xs := fun q ht => own_blkG q (fun g hg => bk_block (fun z => own_neB q g6 ht (by rw [hg, z])))
  refine ⟨g1, g2, g3, by rw [set_size]; exact g4, fun k hk => (bk_block (fun z => h.dr (by rw [← z]; exact hk))).trans (g5 k hk), by simpa [rArr] using x1, h.rB, g7.other _ _ _ (by have := h.mB; have := h.rB; omega), h.mB, rw_ s1 (by decide), rw_ hs (by decide), rw_ f2 (by decide), ?_, ?_, h.cB, h.r1, hr, h.r3, h.dl, h.dr, h.dm, h.dc, h.d1, ?_, h.d3⟩
  · rcases hb with q | ⟨H, q1, q2⟩
    · rw [← q]; exact h.ap
    · cases e : stv.ownBlock with
      | none => exact .inl rfl
      | some x =>
        right
        rw [q2]
        intro z
        injection z with z
        have := (h.st.own x e).2
        omega
  · rcases g8 with q | q
    · exact .inl q
    · exact .inr (rw_ q (by decide))
  · intro y hy hd
    rcases hb with q | ⟨H, q1, q2⟩
    · rw [← q] at hy; exact h.d2 y hy hd
    · rw [q2] at hy
      injection hy with hy
      have := h.dl y hd
      have := h.sz
      omega
/-- A slot is set. -/
theorem ro_slot {K : Kx} {w : World} {stv flv : Value} {steps : Int} {r : Rn} {g cap i : Nat} (h : RO K w stv (.slice (some ⟨g, 0, none⟩) r.sl.length cap) flv steps r) (hi : i < r.sl.length) (x : Int) (hx : inR x) : RO K (w.setCell ⟨g, i, none⟩ (.int .i64 x)) stv (.slice (some ⟨g, 0, none⟩) r.sl.length cap) flv steps { r with sl := r.sl.set i x } := by
  have ob : Value.ownBlock (.slice (some ⟨g, 0, none⟩) r.sl.length cap) = some g := rfl
  have gB := (h.sl.own g rfl).1
  have gr : g ≠ K.rb := fun e => own_neB h.sl h.rb (by decide) (by rw [ob, e])
  have bo : ∀ {t : TypeId} {k : Nat} {u : Value} {n : Nat} {xs : List Value} {C : Nat}, w.ownsRow C t k u n xs → u.ownBlock ≠ some g → (w.setCell ⟨g, i, none⟩ (.int .i64 x)).ownsRow C t k u n xs := fun q ne => own_blkG q (fun y hy => bk_block (fun z => ne (by rw [hy, z])))
  have sg : stv.ownBlock ≠ some g := by
    rcases h.ap with q | q
    · rw [q]; simp
    · exact q
  have fg : flv.ownBlock ≠ some g := by
    rcases own_neO h.fl h.sl (by decide) with q | q
    · rw [q]; simp
    · exact q
  have len : (r.sl.set i x).length = r.sl.length := by simp
  refine ⟨h.os, h.tape, h.out, by rw [set_size]; exact h.sz, fun k hk => (bk_block (fun z => h.d2 g rfl (by rw [← z]; exact hk))).trans (h.fr k hk), h.rb.other _ _ _ gr, h.rB, h.mb.other _ _ _ (by have := h.mB; omega), h.mB, bo h.st sg, ?_, bo h.fl fg, h.ap, ?_, h.cB, h.r1, ?_, h.r3, h.dl, h.dr, h.dm, h.dc, h.d1, h.d2, h.d3⟩
  · exact h.sl.set hi x
  · rcases h.ce with q | q
    · exact .inl q
    · exact .inr (bo q (fun e => by have := h.cB g e; omega))
  · intro y hy
    rcases List.mem_or_eq_of_mem_set hy with q | q
    · exact h.r2 y q
    · rw [q]; exact hx
end Go.Proofs.YtpfjnnkjoabgbaaGreatDoor
