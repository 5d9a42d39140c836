import Derived.Test.YtpfjnnkjoabgbaaGreatDoorXBE
import Derived.Test.YtpfjnnkjoabgbaaGreatDoorXBF
namespace Go.Proofs.YtpfjnnkjoabgbaaGreatDoor
open Go.RowKit
set_option linter.unusedVariables false
set_option linter.unusedSimpArgs false
/-- The run's slots are another row. -/
theorem RO.slots {K : Kx} {w : World} {stv slv flv : Value} {steps : Int} {r : Rn} (h : RO K w stv slv flv steps r) {w' : World} (g : w.grownBy w' slv.ownBlock) {sv : Value} {l : List Int} (hs : OwZ w' K.B sv l) (hb : slv.ownBlock = sv.ownBlock ∨ (∃ H, w.heap.size ≤ H ∧ sv.ownBlock = some H)) (hr : ∀ x ∈ l, inR x) : RO K (w'.setCell ⟨K.rb, 6, none⟩ sv) stv sv flv steps { r with sl := l } := by
  have hB : ∀ k, slv.ownBlock = some k → K.B ≤ k := fun k e => (h.sl.own k e).1
  have nr : some K.rb ≠ slv.ownBlock := fun e => own_neB h.sl h.rb (by decide) e.symm
  obtain ⟨g1, g2, g3, g4, g5, g6, g7, g8⟩ := h.grow g hB h.d2 nr
  have s1 : OwZ w' K.B stv r.st.reverse := h.st.grown g h.ap
  have f2 : OwF w' K.B flv r.fl := World.ownsRow.kept h.fl g (own_neO h.fl h.sl (by decide))
  have x1 := g6.set2 6 sv (by simp [rArr])
  have rw_ : ∀ {t : TypeId} {k : Nat} {u : Value} {n : Nat} {xs : List Value} {C : Nat}, w'.ownsRow C t k u n xs → t ≠ 83 → (w'.setCell ⟨K.rb, 6, none⟩ sv).ownsRow C t k u n xs := fun q ht => own_blkG q (fun g hg => bk_block (fun z => own_neB q g6 ht (by rw [hg, z])))
  refine ⟨g1, g2, g3, by rw [set_size]; exact g4, fun k hk => (bk_block (fun z => h.dr (by rw [← z]; exact hk))).trans (g5 k hk), by simpa [rArr] using x1, h.rB, g7.other _ _ _ (by have := h.mB; have := h.rB; omega), h.mB, rw_ s1 (by decide), rw_ hs (by decide), rw_ f2 (by decide), ?_, ?_, h.cB, h.r1, hr, h.r3, h.dl, h.dr, h.dm, h.dc, h.d1, ?_, h.d3⟩
  · rcases hb with q | ⟨H, q1, q2⟩
    · rw [← q]; exact h.ap
    · cases e : stv.ownBlock with
      | none => exact .inl rfl
      | some x =>
        right
        rw [q2]
        intro z
        injection z with z
        have := (h.st.own x e).2
        omega
  · rcases g8 with q | q
    · exact .inl q
    · exact .inr (rw_ q (by decide))
  · intro y hy hd
    rcases hb with q | ⟨H, q1, q2⟩
    · rw [← q] at hy; exact h.d2 y hy hd
    · rw [q2] at hy
      injection hy with hy
      have := h.dl y hd
      have := h.sz
      omega
/-- A slot is set. -/
theorem ro_slot {K : Kx} {w : World} {stv flv : Value} {steps : Int} {r : Rn} {g cap i : Nat} (h : RO K w stv (.slice (some ⟨g, 0, none⟩) r.sl.length cap) flv steps r) (hi : i < r.sl.length) (x : Int) (hx : inR x) : RO K (w.setCell ⟨g, i, none⟩ (.int .i64 x)) stv (.slice (some ⟨g, 0, none⟩) r.sl.length cap) flv steps { r with sl := r.sl.set i x } := by
  have ob : Value.ownBlock (.slice (some ⟨g, 0, none⟩) r.sl.length cap) = some g := rfl
  have gB := (h.sl.own g rfl).1
  have gr : g ≠ K.rb := fun e => own_neB h.sl h.rb (by decide) (by rw [ob, e])
  have bo : ∀ {t : TypeId} {k : Nat} {u : Value} {n : Nat} {xs : List Value} {C : Nat}, w.ownsRow C t k u n xs → u.ownBlock ≠ some g → (w.setCell ⟨g, i, none⟩ (.int .i64 x)).ownsRow C t k u n xs := fun q ne => own_blkG q (fun y hy => bk_block (fun z => ne (by rw [hy, z])))
  have sg : stv.ownBlock ≠ some g := by
    rcases h.ap with q | q
    · rw [q]; simp
    · exact q
  have fg : flv.ownBlock ≠ some g := by
    rcases own_neO h.fl h.sl (by decide) with q | q
    · rw [q]; simp
    · exact q
  have len : (r.sl.set i x).length = r.sl.length := by simp
  refine ⟨h.os, h.tape, h.out, by rw [set_size]; exact h.sz, fun k hk => (bk_block (fun z => h.d2 g rfl (by rw [← z]; exact hk))).trans (h.fr k hk), h.rb.other _ _ _ gr, h.rB, h.mb.other _ _ _ (by have := h.mB; omega), h.mB, bo h.st sg, ?_, bo h.fl fg, h.ap, ?_, h.cB, h.r1, ?_, h.r3, h.dl, h.dr, h.dm, h.dc, h.d1, h.d2, h.d3⟩
  · exact h.sl.set hi x
  · rcases h.ce with q | q
    · exact .inl q
    · exact .inr (bo q (fun e => by have := h.cB g e; omega))
  · intro y hy
    rcases List.mem_or_eq_of_mem_set hy with q | q
    · exact h.r2 y q
    · rw [q]; exact hx
end Go.Proofs.YtpfjnnkjoabgbaaGreatDoor

namespace Go.Proofs.YtpfjnnkjoabgbaaGreatDoor
open Go.RowKit
set_option linter.unusedVariables false
set_option linter.unusedSimpArgs false
theorem drewN2 (V : World) (q : Nat) : Below V.heap.size V (V.drew.drewN q) := ⟨rfl, rfl, rfl, Nat.le_refl _, fun _ _ => rfl⟩
/-- What stands ahead of the slot's store. -/
theorem keep_now {K : Kx} {w : World} {steps : Int} {r : Rn} {io ib : Int} {a bx : Nat} (h : RoE K w steps r) (IB : BkP w bx #[.int .i64 io, .int .i64 (a : Int), .int .i64 ib] 68) (hi : a < r.sl.length) {x : Int} {l : List Int} (e : r.st = x :: l) :
    ∃ g cap, ∀ V, Below w.heap.size w V → V.cell? ⟨K.rb, 6, none⟩ = some (.slice (some ⟨g, 0, none⟩) r.sl.length cap) ∧ V.cell? ⟨bx, 1, none⟩ = some (.int .i64 (a : Int)) ∧ V.cell? ⟨g, a, none⟩ = some (.int .i64 (r.sl.getD a 0)) ∧ V.frozen? ⟨g, a, none⟩ = false ∧ RoE K (V.setCell ⟨g, a, none⟩ (.int .i64 x)) steps { r with sl := r.sl.set a x } := by
  obtain ⟨stv, slv, flv, h⟩ := h
  obtain ⟨g, cap, hs, hc⟩ := row_at h.sl hi
  subst hs
  refine ⟨g, cap, fun V b => ?_⟩
  have q := h.lat b
  refine ⟨(run_cells q).2.2.2.2.2.2.1, ?_, q.sl.cell hi, q.sl.frozen a, ⟨_, _, _, ro_slot q hi x (q.r1 x (by rw [e]; simp))⟩⟩
  rw [(IB.lat b).cell]
  rfl
set_option maxRecDepth 100000 in
set_option maxHeartbeats 3200000 in
theorem keep_old {K : Kx} {w : World} {steps : Int} {r : Rn} (h : RoE K w steps r) (i : In) (ha : 0 ≤ i.a) (hi : i.a.toNat < r.sl.length) (hn : r.sl.length ≤ 1000000) {x : Int} {l : List Int} (e : r.st = x :: l) : Calls Tryz.prog 67 #[.pointer (some ⟨K.rb, 0, none⟩), iAgg i] w fun e w' => e = .returned (.int .i64 0) ∧ RoE K w' steps { r with sl := r.sl.set i.a.toNat x } := by
  obtain ⟨io, ia, ib⟩ := i
  simp only at *
  obtain ⟨W, hW⟩ : ∃ W, w.alloc (.cells #[.int .i64 io, .int .i64 ia, .int .i64 ib] 68) = W := ⟨_, rfl⟩
  have h1 := h.lat (allocBP w (.cells #[.int .i64 io, .int .i64 ia, .int .i64 ib] 68))
  have IB : BkP (w.alloc (.cells #[.int .i64 io, .int .i64 ia, .int .i64 ib] 68)) w.heap.size #[.int .i64 io, .int .i64 ia, .int .i64 ib] 68 := heapN _ _
  rw [hW] at h1 IB
  obtain ⟨a, rfl⟩ : ∃ a : Nat, ia = (a : Int) := ⟨ia.toNat, by omega⟩
  simp only [Int.toNat_natCast] at *
  obtain ⟨g, cap, KN0⟩ := keep_now h1 IB hi e
  have KN := Lib.hid KN0
  have KT := Lib.hid (fun V (b : Below W.heap.size W V) => top_any (h1.lat b) e)
  obtain ⟨y0, y1, y2, y3, _⟩ := KN0 W (Below.refl _ _)
  have a0 : ¬ (a : Int) < 0 := by omega
  have a1 : (a : Int) < (r.sl.length : Int) := by omega
  have ew : IntKind.i64.wrap ((a : Int) + 1) = (a : Int) + 1 := by simp [IntKind.wrap, IntKind.bits, IntKind.signed]; omega
  have ew2 : IntKind.i64.wrap ((a : Int) + 1 - (r.sl.length : Int)) = (a : Int) + 1 - (r.sl.length : Int) := by simp [IntKind.wrap, IntKind.bits, IntKind.signed]; omega
  have ms : ¬ 0 < (a : Int) + 1 - (r.sl.length : Int) := by omega
  have HW := Lib.hid hW
  clear h h1 ha hi hW IB e KN0
  unfold iAgg
  simp only at *
  go_enter Tryz.func67, Tryz.ntmps67
  go_wp2
  rw [HW.out]
  go_quiet (fail)
  go_wp2
  obtain ⟨V, hV, bV⟩ : ∃ V, W.drewN _ = V ∧ Below W.heap.size W V := ⟨_, rfl, drewB _ _⟩
  rw [hV]
  clear hV y0 y1 y2 y3
  obtain ⟨y0, y1, y2, y3, _⟩ := KN.out V bV
  have KT2 := Lib.hid (fun V2 (b : Below V.heap.size V V2) => KT.out V2 (bV.trans (b.mono bV.size)))
  have KN2 := Lib.hid (fun V2 (b : Below V.heap.size V V2) => KN.out V2 (bV.trans (b.mono bV.size)))
  clear KT KN bV
  go_region_with (go_at_call 110; refine (KT2.out V.drew (drew1 V)).mono ?_; rintro e w1 ⟨rfl, q, hw⟩; obtain ⟨z0, z1, z2, z3, z4⟩ := KN2.out w1 (by rw [hw]; exact drewN2 V q); have Z4 := Lib.hid z4; clear z4 hw)
  all_goals go_wp2
  all_goals go_ret
  all_goals exact ⟨rfl, Z4.out⟩
/-- The row of slots has grown. -/
theorem keep_grown {K : Kx} {w w1 : World} {stv slv flv : Value} {steps : Int} {r : Rn} {m g cap : Nat} (h : RO K w stv slv flv steps r) (o : OwZ w1 K.B (.slice (some ⟨g, 0, none⟩) (r.sl.length + m) cap) (r.sl ++ List.replicate m 0)) (gr : w.grownBy w1 slv.ownBlock) (q : slv.ownBlock = some g ∨ g = w.heap.size) {bx : Nat} {cs : Array Value} (IB : BkP w bx cs 68) :
    w1.cell? ⟨K.rb, 6, none⟩ = some slv ∧ w1.frozen? ⟨K.rb, 6, none⟩ = false ∧ RoE K (w1.setCell ⟨K.rb, 6, none⟩ (.slice (some ⟨g, 0, none⟩) (r.sl.length + m) cap)) steps { r with sl := r.sl ++ List.replicate m 0 } ∧ BkP (w1.setCell ⟨K.rb, 6, none⟩ (.slice (some ⟨g, 0, none⟩) (r.sl.length + m) cap)) bx cs 68 := by
  have k : BkP w1 K.rb (rArr K stv slv flv r) 83 := h.rb.grown gr (fun e => own_neB h.sl h.rb (by decide) e.symm)
  have ib : BkP w1 bx cs 68 := IB.grown gr (fun e => own_neB h.sl IB (by decide) e.symm)
  refine ⟨by rw [k.cell]; rfl, k.frozen 6, ⟨stv, _, flv, h.slots gr o ?_ ?_⟩, ib.other _ _ _ (bk_ne k ib (by decide))⟩
  · rcases q with z | z
    · exact .inl z
    · exact .inr ⟨w.heap.size, Nat.le_refl _, by rw [z]; rfl⟩
  · intro y hy
    rcases List.mem_append.1 hy with z | z
    · exact h.r2 y z
    · rw [List.eq_of_mem_replicate z]; exact ⟨by omega, by omega⟩
set_option maxRecDepth 100000 in
set_option maxHeartbeats 3200000 in
theorem keep_new {K : Kx} {w : World} {steps : Int} {r : Rn} (h : RoE K w steps r) (i : In) (ha : 0 ≤ i.a) (ha2 : i.a ≤ 1000000) (hi : r.sl.length ≤ i.a.toNat) {x : Int} {l : List Int} (e : r.st = x :: l) : Calls Tryz.prog 67 #[.pointer (some ⟨K.rb, 0, none⟩), iAgg i] w fun e w' => e = .returned (.int .i64 0) ∧ RoE K w' steps { r with sl := (r.sl ++ List.replicate (i.a.toNat + 1 - r.sl.length) 0).set i.a.toNat x } := by
  obtain ⟨io, ia, ib⟩ := i
  simp only at *
  obtain ⟨W, hW⟩ : ∃ W, w.alloc (.cells #[.int .i64 io, .int .i64 ia, .int .i64 ib] 68) = W := ⟨_, rfl⟩
  have h1 := h.lat (allocBP w (.cells #[.int .i64 io, .int .i64 ia, .int .i64 ib] 68))
  have IB : BkP (w.alloc (.cells #[.int .i64 io, .int .i64 ia, .int .i64 ib] 68)) w.heap.size #[.int .i64 io, .int .i64 ia, .int .i64 ib] 68 := heapN _ _
  rw [hW] at h1 IB
  obtain ⟨a, rfl⟩ : ∃ a : Nat, ia = (a : Int) := ⟨ia.toNat, by omega⟩
  simp only [Int.toNat_natCast] at *
  obtain ⟨stv, slv, flv, h2⟩ := id h1
  obtain ⟨sa, sc, hslv, _, _⟩ := h2.sl.form
  have c6 := (run_cells h2).2.2.2.2.2.2.1
  have i1 := IB.cell 1
  simp only [List.getElem?_toArray, List.getElem?_cons_zero, List.getElem?_cons_succ] at i1
  obtain ⟨m, hm⟩ : ∃ m, a + 1 - r.sl.length = m := ⟨_, rfl⟩
  rw [hm]
  have GR := Lib.hid (fun V (b : Below W.heap.size W V) w1 g cap o gr q => keep_grown (w1 := w1) (m := m) (g := g) (cap := cap) (h2.lat b) o gr q (IB.lat b))
  have OW := Lib.hid (fun V (b : Below W.heap.size W V) => (h2.lat b).sl)
  have HB := Lib.hid (fun V (b : Below W.heap.size W V) => (h2.lat b).BB)
  have KT := Lib.hid (p := ∀ V, RoE K V steps { r with sl := r.sl ++ List.replicate m 0 } → Calls Tryz.prog 110 #[.pointer (some ⟨K.rb, 0, none⟩)] V fun e w' => e = .returned (.int .i64 x) ∧ ∃ q, w' = V.drewN q) (fun V h => top_any (r := { r with sl := r.sl ++ List.replicate m 0 }) h e)
  have KN := Lib.hid (fun V bx (h : RoE K V steps { r with sl := r.sl ++ List.replicate m 0 }) (ib' : BkP V bx #[.int .i64 io, .int .i64 (a : Int), .int .i64 ib] 68) => keep_now (r := { r with sl := r.sl ++ List.replicate m 0 }) h ib' (by simp only [List.length_append, List.length_replicate]; omega) e)
  have len : (r.sl ++ List.replicate m 0).length = a + 1 := by simp; omega
  simp only at KN
  rw [len] at KN
  have a0 : ¬ (a : Int) < 0 := by omega
  have a1 : (a : Int) < ((a + 1 : Nat) : Int) := by omega
  have ew : IntKind.i64.wrap ((a : Int) + 1) = (a : Int) + 1 := by simp [IntKind.wrap, IntKind.bits, IntKind.signed]; omega
  have ew2 : IntKind.i64.wrap ((a : Int) + 1 - (r.sl.length : Int)) = (m : Int) := by simp [IntKind.wrap, IntKind.bits, IntKind.signed]; omega
  have ms : 0 < m := by omega
  have ms2 : 0 < (m : Int) := by omega
  have mb : r.sl.length + m ≤ 100000000 := by omega
  have HW := Lib.hid hW
  subst hslv
  clear h h1 h2 ha ha2 hW IB e hm hi
  unfold iAgg
  generalize hs : r.sl.length = sn at *
  have SN := Lib.hid hs
  clear hs
  simp only at *
  go_enter Tryz.func67, Tryz.ntmps67
  go_wp2
  rw [HW.out]
  go_quiet (fail)
  obtain ⟨V, hV, bV⟩ : ∃ V, W.drewN _ = V ∧ Below W.heap.size W V := ⟨_, rfl, drewB _ _⟩
  rw [hV]
  clear hV
  have d6 := below_cell bV c6
  have dI := below_cell bV i1
  have OV := Lib.hid (OW.out V bV)
  have BV := Lib.hid (HB.out V bV)
  have GV := Lib.hid (GR.out V bV)
  have MB := Lib.hid (p := r.sl.length + m ≤ 100000000) (by rw [SN.out]; exact mb)
  clear c6 i1 OW HB GR bV mb
  go_wp2_with (at_builtin; refine wp_zeros _ rfl _ _ rfl K.B (.slice sa sn sc) r.sl m rfl rfl OV.out ms MB.out BV.out ?_; intro g cap w1 o1 g1 q1; obtain ⟨e1, e2, e3, e4⟩ := GV.out w1 g cap (by rw [SN.out] at o1; exact o1) g1 q1; have E3 := Lib.hid e3; have E4 := Lib.hid e4; rw [SN.out]; clear o1 g1 q1 e3 e4)
  obtain ⟨U, hU⟩ : ∃ U, w1.setCell ⟨K.rb, 6, none⟩ (.slice (some ⟨g, 0, none⟩) (sn + m) cap) = U := ⟨_, rfl⟩
  rw [hU] at E3 E4 ⊢
  clear hU e1 e2 d6 dI
  obtain ⟨g', cap', KU0⟩ := KN.out U _ E3.out E4.out
  have KU := Lib.hid KU0
  obtain ⟨y0, y1, y2, y3, _⟩ := KU0 U (Below.refl _ _)
  have KT2 := Lib.hid (KT.out U.drew (E3.out.lat (drew1 U)))
  clear KU0 KT KN E3 E4
  go_region_with (go_at_call 110; refine KT2.out.mono ?_; rintro e w2 ⟨rfl, q, hw⟩; obtain ⟨z0, z1, z2, z3, z4⟩ := KU.out w2 (by rw [hw]; exact drewN2 U q); have Z4 := Lib.hid z4; clear z4 hw)
  all_goals go_wp2
  all_goals go_ret
  all_goals exact ⟨rfl, Z4.out⟩
end Go.Proofs.YtpfjnnkjoabgbaaGreatDoor
