import Derived.Test.YtjbbbejadhojlaaDoorXBJ
import Derived.Test.YtjbbbejadhojlaaDoorXBK
namespace Go.Proofs.YtjbbbejadhojlaaDoor
open Go.RowKit
set_option linter.unusedVariables false
set_option linter.unusedSimpArgs false
theorem hdP_key (p : Pg) (gn gc gp gd : Nat) (cg : Nat → Nat) : (hdP p gn gc gp gd cg (fun d => (p.days.getD d default).code)).key = p.key := by
  refine key_eq rfl rfl rfl rfl rfl rfl rfl ?_
  have l2 : (hdP p gn gc gp gd cg (fun d => (p.days.getD d default).code)).days.length = p.days.length := by show ((List.range p.days.length).map _).length = _; simp
  refine keys_eq l2 (fun e he => ?_)
  have he : e < p.days.length := by rw [← l2]; exact he
  have : (hdP p gn gc gp gd cg (fun d => (p.days.getD d default).code)).days.getD e default = ⟨(p.days.getD e default).day, some ⟨cg e, 0, none⟩, (p.days.getD e default).code.length + 3, (p.days.getD e default).code⟩ := by
    show ((List.range p.days.length).map _).getD e default = _
    simp [he]
  rw [this]
  rfl
/-- The law is at work: its boxes, what was handed over. -/
structure ExI (w W0 : World) (p : Pg) (gn gc gp gd : Nat) (cg : Nat → Nat) (cd : Nat → List In) (x3 : Nat) (W : World) : Prop where
  bw : Below W0.heap.size W0 W
  pb : BkP W w.heap.size p.arr 26
  ib : BkP W x3 (hdA p gn gc gp gd) 26
  xg : W0.heap.size ≤ x3
  hn : HnP W W0.heap.size p gn gc gp gd cg cd
section
variable {w W0 : World} {p : Pg} {gn gc gp gd : Nat} {cg : Nat → Nat} {cd : Nat → List In} {x3 : Nat} {W : World}
theorem ExI.lat {W' : World} (h : ExI w W0 p gn gc gp gd cg cd x3 W) (b : Below W.heap.size W W') : ExI w W0 p gn gc gp gd cg cd x3 W' := ⟨h.bw.trans (b.mono h.bw.size), h.pb.lat b, h.ib.lat b, h.xg, h.hn.lat b⟩
/-- A box of another kind is written. -/
theorem ExI.far (h : ExI w W0 p gn gc gp gd cg cd x3 W) {x : Nat} {cs : Array Value} (hx : BkP W x cs 29) (hg : W0.heap.size ≤ x) (d0 d1 d2 : Value) : ExI w W0 p gn gc gp gd cg cd x3 (set3 W x 0 d0 d1 d2) := by
  have ne : ∀ {u : Nat} {cs : Array Value} {t : TypeId}, BkP W u cs t → t ≠ 29 → u ≠ x := fun {u cs t} bk ht z => bk_ne hx bk (fun q => ht q.symm) z.symm
  have kk : ∀ {u : Nat} {cs : Array Value} {t : TypeId}, BkP W u cs t → t ≠ 29 → BkP (set3 W x 0 d0 d1 d2) u cs t := fun {u cs t} bk ht => (set3_far (ne bk ht)).trans bk
  refine ⟨?_, kk h.pb (by decide), kk h.ib (by decide), h.xg, ⟨kk h.hn.bn (by decide), kk h.hn.bc (by decide), kk h.hn.bp (by decide), kk h.hn.bd (by decide), fun d hd => ⟨kk (h.hn.bi d hd).1 (by decide), (h.hn.bi d hd).2⟩, h.hn.lo, h.hn.inj⟩⟩
  unfold set3
  exact ((h.bw.setCell (by exact hg) _).setCell (by exact hg) _).setCell (by exact hg) _
end
theorem code_i64 {w : World} {p : Pg} (hp : PV w p) : ∀ d, d < p.days.length → ∀ i ∈ (p.days.getD d default).code, i64 i.o ∧ i64 i.a ∧ i64 i.b := fun d hd => (hp.days.2.2.2.1 _ (sg_mem hd)).2.2.2.2.1
theorem cdR_i64 {w : World} {p : Pg} (hp : PV w p) : ∀ d, d < p.days.length → ∀ i ∈ cdR p p.days.length d, i64 i.o ∧ i64 i.a ∧ i64 i.b := fun d hd i hi => by
  unfold cdR at hi
  rw [if_pos hd] at hi
  exact code_i64 hp d hd i (List.mem_reverse.1 hi)
end Go.Proofs.YtjbbbejadhojlaaDoor

namespace Go.Proofs.YtjbbbejadhojlaaDoor
open Go.RowKit
set_option linter.unusedVariables false
set_option linter.unusedSimpArgs false
set_option maxRecDepth 100000 in
set_option maxHeartbeats 6400000 in
theorem verifyExact_any {w : World} {p : Pg} (hp : PV w p) (hR : Rws w) (hU : Rul w) : Calls Tryd.prog 3 #[p.agg] w fun e w' => e = .returned (.bool true) ∧ Below w.heap.size w w' := by
  obtain ⟨W0, hW0⟩ : ∃ W, w.alloc p.box = W := ⟨_, rfl⟩
  have B0 : Below w.heap.size w W0 := by rw [← hW0]; exact allocBP _ _
  have Q0 : BkP W0 w.heap.size p.arr 26 := by rw [← hW0]; exact heapN _ _
  have hp0 := hp.later B0
  have R0 := hR.below B0
  have U0 := hU.lat B0
  have KH := Lib.hid (handProgram_any hp0)
  have BW := Lib.hid (p := ∀ V, Below W0.heap.size W0 V → Below w.heap.size w V) (fun V bb => B0.trans (bb.mono B0.size))
  have KR := Lib.hid (p := ∀ V, Below W0.heap.size W0 V → Calls Tryd.prog 7 #[p.agg] V fun e w' => e = .returned (vfV (vfyA p)) ∧ Below V.heap.size V w') (fun V bb => refVerify_any (hp0.later bb))
  have KV := Lib.hid (p := ∀ V gn gc gp gd cg, Below W0.heap.size W0 V → HnP V W0.heap.size p gn gc gp gd cg (fun d => (p.days.getD d default).code) → Calls Tryd.prog 6 #[.agg (hdA p gn gc gp gd)] V fun e w' => e = .returned (vfV (vfyA p)) ∧ Below V.heap.size V w') (fun V gn gc gp gd cg bb hn => by
    have q := verify_any (hn.pv (hp0.later bb) (code_i64 hp0)) (R0.below bb) (U0.lat bb)
    rw [hdP_agg, vfyA_keyV (hdP_key p gn gc gp gd cg)] at q
    exact q)
  have KK := Lib.hid (p := ∀ V gn gc gp gd cg, Below W0.heap.size W0 V → HnP V W0.heap.size p gn gc gp gd cg (fun d => (p.days.getD d default).code) → Calls Tryd.prog 8 #[.agg (hdA p gn gc gp gd), p.agg] V fun e w' => e = .returned (.bool true) ∧ Below V.heap.size V w') (fun V gn gc gp gd cg bb hn => by
    have q := keptProgram_yes (hp0.later bb) hn
    rw [hdP_agg] at q
    exact q)
  have KT := Lib.hid (p := ∀ V gn gc gp gd cg, Below W0.heap.size W0 V → HnP V W0.heap.size p gn gc gp gd cg (fun d => (p.days.getD d default).code) → Calls Tryd.prog 9 #[.agg (hdA p gn gc gp gd), p.agg] V fun e w' => TuE W0 V p gn gc gp gd cg e w') (fun V gn gc gp gd cg bb hn => by
    have q := turned_any hp0 bb hn
    rw [hdP_agg] at q
    exact q)
  have K2 := Lib.hid (p := ∀ V gn gc gp gd cg, Below W0.heap.size W0 V → HnP V W0.heap.size p gn gc gp gd cg (cdR p p.days.length) → Calls Tryd.prog 6 #[.agg (hdA p gn gc gp gd)] V fun e w' => e = .returned (vfV (vfyA (hdP p gn gc gp gd cg (cdR p p.days.length)))) ∧ Below V.heap.size V w') (fun V gn gc gp gd cg bb hn => by
    have q := verify_any (hn.pv (hp0.later bb) (cdR_i64 hp0)) (R0.below bb) (U0.lat bb)
    rw [hdP_agg] at q
    exact q)
  have HW := Lib.hid hW0
  have QQ := Lib.hid (p := ∀ V, Below W0.heap.size W0 V → BkP V w.heap.size p.arr 26) (fun V bb => Q0.lat bb)
  obtain ⟨r, hr⟩ : ∃ r, vfyA p = r := ⟨_, rfl⟩
  rw [hr] at KR KV
  clear hp hR hU hW0 B0 Q0 hp0 R0 U0 hr
  unfold Pg.agg at *
  unfold Pg.box at *
  unfold vfV hdA at *
  unfold Pg.arr at *
  obtain ⟨na, nc, names, ua, uc, curs, pa, pc, pool, hor, cells, slots, stack, da, dc, days⟩ := p
  simp only at *
  obtain ⟨bx0, bx1, bx2, bx3, bx4, bx5, bx6, bx7⟩ := box_all8 (QQ.out W0 (Below.refl _ _))
  go_enter Tryd.func3, Tryd.ntmps3
  go_upto_region 1 with fail
  rw [HW.out]
  go_cut [3] (fun v wx => ∃ x3 gn gc gp gd cg, v = .pointer (some ⟨x3, 0, none⟩) ∧ RowKit.Hid (ExI w W0 ⟨na, nc, names, ua, uc, curs, pa, pc, pool, hor, cells, slots, stack, da, dc, days⟩ gn gc gp gd cg (fun d => (days.getD d default).code) x3 wx))
  case first =>
    go_wp2_with (go_at_call 5; refine KH.out.mono ?_; rintro e w1 ⟨gn, gc, gp, gd, cg, hq, hn, bb⟩; rw [hdP_agg] at hq; simp only at hq; subst hq; have E1 := Lib.hid (And.intro hn bb); clear hn bb)
    go_meet
    case rel =>
      obtain ⟨hn, bb⟩ := E1.out
      have al := allocBP w1 (.cells #[.slice (some ⟨gn, 0, none⟩) names.length (names.length + 3), .slice (some ⟨gc, 0, none⟩) curs.length (curs.length + 3), .slice (some ⟨gp, 0, none⟩) pool.length (pool.length + 3), .int .i64 hor, .int .i64 cells, .int .i64 slots, .int .i64 stack, .slice (some ⟨gd, 0, none⟩) days.length (days.length + 3)] 26)
      exact ⟨w1.heap.size, gn, gc, gp, gd, cg, rfl, bb.trans (al.mono bb.size), QQ.out _ (bb.trans (al.mono bb.size)), heapN _ _, bb.size, hn.lat al⟩
  case rest =>
    obtain ⟨x3, gn, gc, gp, gd, cg, rfl, hq⟩ := hcut
    clear bx0 bx1 bx2 bx3 bx4 bx5 bx6 bx7 KH
    have E1 := hq.out
    have HE := Lib.hid E1
    obtain ⟨y0, y1, y2, y3, y4, y5, y6, y7⟩ := box_all8 E1.ib
    have K := Lib.hid (KV.out wc gn gc gp gd cg E1.bw E1.hn)
    clear E1 hq
    go_upto_region 2 with fail
    go_cut [4, 5, 6, 7] (fun v4 v5 v6 v7 wx => ∃ x4, v4 = .pointer (some ⟨x4, 0, none⟩) ∧ v5 = .int .i64 (r.2.1 : Int) ∧ v6 = .int .i64 (r.2.2.1 : Int) ∧ v7 = .int .i64 r.1 ∧ RowKit.Hid (ExI w W0 ⟨na, nc, names, ua, uc, curs, pa, pc, pool, hor, cells, slots, stack, da, dc, days⟩ gn gc gp gd cg (fun d => (days.getD d default).code) x3 wx ∧ BkP wx x4 #[.int .i64 r.2.2.2.stack, .int .i64 r.2.2.2.fuel, .int .i64 r.2.2.2.back] 29 ∧ W0.heap.size ≤ x4))
    case first =>
      go_wp2_with (go_at_call 6; refine K.out.mono ?_; rintro e w2 ⟨rfl, bb⟩; have E2 := Lib.hid bb; clear bb)
      go_meet
      case rel =>
        have e2 := HE.out.lat E2.out
        have al := allocBP w2 (.cells #[.int .i64 r.2.2.2.stack, .int .i64 r.2.2.2.fuel, .int .i64 r.2.2.2.back] 29)
        exact ⟨w2.heap.size, rfl, rfl, rfl, rfl, e2.lat al, heapN _ _, e2.bw.size⟩
    case rest =>
      obtain ⟨x4, rfl, rfl, rfl, rfl, hq⟩ := hcut
      obtain ⟨E2, P4⟩ := hq.out
      clear y0 y1 y2 y3 y4 y5 y6 y7 K HE hq
      have HE := Lib.hid (And.intro E2 P4)
      obtain ⟨y0, y1, y2, y3, y4, y5, y6, y7⟩ := box_all8 E2.pb
      have K := Lib.hid (KR.out wc E2.bw)
      clear E2 P4
      go_upto_region 3 with fail
      go_cut [8, 9, 10, 11] (fun v4 v5 v6 v7 wx => ∃ x8, v4 = .pointer (some ⟨x8, 0, none⟩) ∧ v5 = .int .i64 (r.2.1 : Int) ∧ v6 = .int .i64 (r.2.2.1 : Int) ∧ v7 = .int .i64 r.1 ∧ RowKit.Hid (ExI w W0 ⟨na, nc, names, ua, uc, curs, pa, pc, pool, hor, cells, slots, stack, da, dc, days⟩ gn gc gp gd cg (fun d => (days.getD d default).code) x3 wx ∧ (BkP wx x4 #[.int .i64 r.2.2.2.stack, .int .i64 r.2.2.2.fuel, .int .i64 r.2.2.2.back] 29 ∧ W0.heap.size ≤ x4) ∧ (BkP wx x8 #[.int .i64 r.2.2.2.stack, .int .i64 r.2.2.2.fuel, .int .i64 r.2.2.2.back] 29 ∧ W0.heap.size ≤ x8) ∧ x4 ≠ x8))
      case first =>
        go_wp2_with (go_at_call 7; refine K.out.mono ?_; rintro e w2 ⟨rfl, bb⟩; have E2 := Lib.hid bb; clear bb)
        go_meet
        case rel =>
          have e2 := HE.out.1.lat E2.out
          have p4 := HE.out.2.1.lat E2.out
          have al := allocBP w2 (.cells #[.int .i64 r.2.2.2.stack, .int .i64 r.2.2.2.fuel, .int .i64 r.2.2.2.back] 29)
          exact ⟨w2.heap.size, rfl, rfl, rfl, rfl, e2.lat al, ⟨p4.lat al, HE.out.2.2⟩, ⟨heapN _ _, e2.bw.size⟩, by have := p4.lt; omega⟩
      case rest =>
        obtain ⟨x8, rfl, rfl, rfl, rfl, hq⟩ := hcut
        obtain ⟨E2, P4, P8, n48⟩ := hq.out
        have x8g := P8.2
        clear y0 y1 y2 y3 y4 y5 y6 y7 K HE hq
        have HE := Lib.hid (And.intro E2 (And.intro P4 P8))
        obtain ⟨y0, y1, y2, y3, y4, y5, y6, y7⟩ := box_all8 E2.pb
        obtain ⟨z0, z1, z2, z3, z4, z5, z6, z7⟩ := box_all8 E2.ib
        have K := Lib.hid (KK.out wc gn gc gp gd cg E2.bw E2.hn)
        clear E2 P4 P8
        go_upto_region 4 with fail
        go_cut [12] (fun v wx => v = .bool true ∧ RowKit.Hid (ExI w W0 ⟨na, nc, names, ua, uc, curs, pa, pc, pool, hor, cells, slots, stack, da, dc, days⟩ gn gc gp gd cg (fun d => (days.getD d default).code) x3 wx ∧ (BkP wx x4 #[.int .i64 r.2.2.2.stack, .int .i64 r.2.2.2.fuel, .int .i64 r.2.2.2.back] 29 ∧ W0.heap.size ≤ x4) ∧ (BkP wx x8 #[.int .i64 r.2.2.2.stack, .int .i64 r.2.2.2.fuel, .int .i64 r.2.2.2.back] 29 ∧ W0.heap.size ≤ x8)))
        case first =>
          go_wp2_with (go_at_call 8; refine K.out.mono ?_; rintro e w2 ⟨rfl, bb⟩; have E2 := Lib.hid bb; clear bb)
          go_meet
          case rel => exact ⟨rfl, HE.out.1.lat E2.out, ⟨HE.out.2.1.1.lat E2.out, HE.out.2.1.2⟩, ⟨HE.out.2.2.1.lat E2.out, HE.out.2.2.2⟩⟩
        case rest =>
          obtain ⟨rfl, hq⟩ := hcut
          obtain ⟨E2, P4, P8⟩ := hq.out
          clear y0 y1 y2 y3 y4 y5 y6 y7 z0 z1 z2 z3 z4 z5 z6 z7 K HE hq
          have HE := Lib.hid (And.intro E2 (And.intro P4 P8))
          obtain ⟨y0, y1, y2, y3, y4, y5, y6, y7⟩ := box_all8 E2.pb
          obtain ⟨z0, z1, z2, z3, z4, z5, z6, z7⟩ := box_all8 E2.ib
          obtain ⟨a0, a1, a2⟩ := boxV3 P4.1
          obtain ⟨b0, b1, b2⟩ := boxV3 P8.1
          have K := Lib.hid (KT.out wc gn gc gp gd cg E2.bw E2.hn)
          clear E2 P4 P8
          go_upto_region 7 with fail
          clear a0 a1 a2 b0 b1 b2
          go_cut [13] (fun v wx => ∃ x13, ∃ q : Pg, v = .pointer (some ⟨x13, 0, none⟩) ∧ RowKit.Hid (ExI w W0 ⟨na, nc, names, ua, uc, curs, pa, pc, pool, hor, cells, slots, stack, da, dc, days⟩ gn gc gp gd cg (cdR ⟨na, nc, names, ua, uc, curs, pa, pc, pool, hor, cells, slots, stack, da, dc, days⟩ days.length) x3 wx ∧ (BkP wx x4 #[.int .i64 r.2.2.2.stack, .int .i64 r.2.2.2.fuel, .int .i64 r.2.2.2.back] 29 ∧ W0.heap.size ≤ x4) ∧ (BkP wx x8 #[.int .i64 r.2.2.2.stack, .int .i64 r.2.2.2.fuel, .int .i64 r.2.2.2.back] 29 ∧ W0.heap.size ≤ x8) ∧ BkP wx x13 #[.slice q.na q.names.length q.nc, .slice q.ua q.curs.length q.uc, .slice q.pa q.pool.length q.pc, .int .i64 q.hor, .int .i64 q.cells, .int .i64 q.slots, .int .i64 q.stack, .slice q.da q.days.length q.dc] 26 ∧ vfyA q = vfyA (hdP ⟨na, nc, names, ua, uc, curs, pa, pc, pool, hor, cells, slots, stack, da, dc, days⟩ gn gc gp gd cg (cdR ⟨na, nc, names, ua, uc, curs, pa, pc, pool, hor, cells, slots, stack, da, dc, days⟩ days.length)) ∧ ∃ M, x4 < M ∧ x8 < M ∧ ∀ V, Below W0.heap.size W0 V → wx.heap.size ≤ V.heap.size → (∀ u, M ≤ u → u < wx.heap.size → V.heap[u]? = wx.heap[u]?) → PV V q))
          case first =>
            go_wp2_with (go_at_call 9; refine K.out.mono ?_; rintro e w2 ⟨q, hqq, h1, h2, h3, h4, h5⟩; unfold Pg.agg at hqq; subst hqq; have E2 := Lib.hid (And.intro h1 (And.intro h2 (And.intro h3 (And.intro h4 h5)))); clear h1 h2 h3 h4 h5)
            go_meet
            case rel =>
              obtain ⟨h1, h2, h3, h4, h5⟩ := E2.out
              obtain ⟨e2, p4, p8⟩ := HE.out
              have ne : ∀ {u : Nat} {cs : Array Value} {t : TypeId}, BkP wc u cs t → t ≠ 51 → BkP w2 u cs t := fun {u cs t} bk ht => (h5 u bk.lt (fun d hd z => bk_ne (e2.hn.bi d hd).1 bk (fun q => ht q.symm) z.symm)).trans bk
              have al := allocBP w2 (.cells #[.slice q.na q.names.length q.nc, .slice q.ua q.curs.length q.uc, .slice q.pa q.pool.length q.pc, .int .i64 q.hor, .int .i64 q.cells, .int .i64 q.slots, .int .i64 q.stack, .slice q.da q.days.length q.dc] 26)
              have ex : ExI w W0 ⟨na, nc, names, ua, uc, curs, pa, pc, pool, hor, cells, slots, stack, da, dc, days⟩ gn gc gp gd cg (cdR ⟨na, nc, names, ua, uc, curs, pa, pc, pool, hor, cells, slots, stack, da, dc, days⟩ days.length) x3 w2 := ⟨e2.bw.trans h4, ne e2.pb (by decide), ne e2.ib (by decide), e2.xg, h3⟩
              exact ⟨w2.heap.size, q, rfl, ex.lat al, ⟨(ne p4.1 (by decide)).lat al, p4.2⟩, ⟨(ne p8.1 (by decide)).lat al, p8.2⟩, heapN _ _, vfyA_keyV h2, wc.heap.size, p4.1.lt, p8.1.lt, fun V bV sV kV => h1 V ⟨bV.os.trans e2.bw.os.symm, bV.tape.trans e2.bw.tape.symm, bV.output.trans e2.bw.output.symm, Nat.le_trans (Nat.le_trans h4.size al.size) sV, fun u hu => (bV.block u hu).trans (e2.bw.block u hu).symm⟩ (Nat.le_trans al.size sV) (fun u h1 h2 => (kV u h1 (by have := al.size; omega)).trans (al.block u h2))⟩
          case rest =>
            obtain ⟨x13, q, rfl, hq⟩ := hcut
            obtain ⟨E3, P4, P8, P13, ev, M, m4, m8, pq⟩ := hq.out
            clear y0 y1 y2 y3 y4 y5 y6 y7 z0 z1 z2 z3 z4 z5 z6 z7 K HE hq KT KK KV KR
            obtain ⟨z0, z1, z2, z3, z4, z5, z6, z7⟩ := box_all8 E3.ib
            have K := K2.out wc gn gc gp gd cg E3.bw E3.hn
            rw [← ev] at K
            have KQ := Lib.hid (p := ∀ V, PV V q → Calls Tryd.prog 7 #[.agg #[.slice q.na q.names.length q.nc, .slice q.ua q.curs.length q.uc, .slice q.pa q.pool.length q.pc, .int .i64 q.hor, .int .i64 q.cells, .int .i64 q.slots, .int .i64 q.stack, .slice q.da q.days.length q.dc]] V fun e w' => e = .returned (vfV (vfyA q)) ∧ Below V.heap.size V w') (fun V h => refVerify_any h)
            obtain ⟨r', hr'⟩ : ∃ r', vfyA q = r' := ⟨_, rfl⟩
            rw [hr'] at K KQ
            have KA := Lib.hid K
            unfold vfV at KQ
            have ST := Lib.hid (p := ∀ V, Below wc.heap.size wc V → (V.cell? ⟨x4, 0, none⟩ = some (.int .i64 r.2.2.2.stack) ∧ V.cell? ⟨x4, 1, none⟩ = some (.int .i64 r.2.2.2.fuel) ∧ V.cell? ⟨x4, 2, none⟩ = some (.int .i64 r.2.2.2.back)) ∧ (V.frozen? ⟨x4, 0, none⟩ = false ∧ V.frozen? ⟨x4, 1, none⟩ = false ∧ V.frozen? ⟨x4, 2, none⟩ = false) ∧ RowKit.Hid (ExI w W0 ⟨na, nc, names, ua, uc, curs, pa, pc, pool, hor, cells, slots, stack, da, dc, days⟩ gn gc gp gd cg (cdR ⟨na, nc, names, ua, uc, curs, pa, pc, pool, hor, cells, slots, stack, da, dc, days⟩ days.length) x3 (set3 V x4 0 (.int .i64 r'.2.2.2.stack) (.int .i64 r'.2.2.2.fuel) (.int .i64 r'.2.2.2.back)) ∧ BkP (set3 V x4 0 (.int .i64 r'.2.2.2.stack) (.int .i64 r'.2.2.2.fuel) (.int .i64 r'.2.2.2.back)) x4 #[.int .i64 r'.2.2.2.stack, .int .i64 r'.2.2.2.fuel, .int .i64 r'.2.2.2.back] 29 ∧ BkP (set3 V x4 0 (.int .i64 r'.2.2.2.stack) (.int .i64 r'.2.2.2.fuel) (.int .i64 r'.2.2.2.back)) x8 #[.int .i64 r.2.2.2.stack, .int .i64 r.2.2.2.fuel, .int .i64 r.2.2.2.back] 29 ∧ BkP (set3 V x4 0 (.int .i64 r'.2.2.2.stack) (.int .i64 r'.2.2.2.fuel) (.int .i64 r'.2.2.2.back)) x13 #[.slice q.na q.names.length q.nc, .slice q.ua q.curs.length q.uc, .slice q.pa q.pool.length q.pc, .int .i64 q.hor, .int .i64 q.cells, .int .i64 q.slots, .int .i64 q.stack, .slice q.da q.days.length q.dc] 26 ∧ PV (set3 V x4 0 (.int .i64 r'.2.2.2.stack) (.int .i64 r'.2.2.2.fuel) (.int .i64 r'.2.2.2.back)) q)) (fun V bb => by
              have e3 := E3.lat bb
              have p4 := P4.1.lat bb
              have ex := e3.far p4 P4.2 (.int .i64 r'.2.2.2.stack) (.int .i64 r'.2.2.2.fuel) (.int .i64 r'.2.2.2.back)
              refine ⟨boxV3 p4, ⟨p4.frozen 0, p4.frozen 1, p4.frozen 2⟩, ex, ?_, (set3_far (Ne.symm n48)).trans (P8.1.lat bb), (set3_far (fun z => bk_ne p4 (P13.lat bb) (by decide) z.symm)).trans (P13.lat bb), pq _ ex.bw ?_ (fun u h1 h2 => (set3_far (by omega)).trans (bb.block u h2))⟩
              · have := set3_blk (o := 0) (d0 := .int .i64 r'.2.2.2.stack) (d1 := .int .i64 r'.2.2.2.fuel) (d2 := .int .i64 r'.2.2.2.back) p4 (by simp)
                simpa using this
              · have := bb.size
                unfold set3
                simpa using this)
            clear E3 P4 P8 P13 pq ev K hr'
            go_upto_region 8 with fail
            go_cut [5, 6, 7] (fun v5 v6 v7 wx => v5 = .int .i64 (r'.2.1 : Int) ∧ v6 = .int .i64 (r'.2.2.1 : Int) ∧ v7 = .int .i64 r'.1 ∧ RowKit.Hid (ExI w W0 ⟨na, nc, names, ua, uc, curs, pa, pc, pool, hor, cells, slots, stack, da, dc, days⟩ gn gc gp gd cg (cdR ⟨na, nc, names, ua, uc, curs, pa, pc, pool, hor, cells, slots, stack, da, dc, days⟩ days.length) x3 wx ∧ BkP wx x4 #[.int .i64 r'.2.2.2.stack, .int .i64 r'.2.2.2.fuel, .int .i64 r'.2.2.2.back] 29 ∧ BkP wx x8 #[.int .i64 r.2.2.2.stack, .int .i64 r.2.2.2.fuel, .int .i64 r.2.2.2.back] 29 ∧ BkP wx x13 #[.slice q.na q.names.length q.nc, .slice q.ua q.curs.length q.uc, .slice q.pa q.pool.length q.pc, .int .i64 q.hor, .int .i64 q.cells, .int .i64 q.slots, .int .i64 q.stack, .slice q.da q.days.length q.dc] 26 ∧ PV wx q))
            case first =>
              go_wp2_with (go_at_call 6; refine KA.out.mono ?_; rintro e w2 ⟨rfl, bb⟩; obtain ⟨⟨s0, s1, s2⟩, ⟨f0, f1, f2⟩, SX⟩ := ST.out w2 bb; clear bb)
              go_meet
              case rel => exact ⟨rfl, rfl, rfl, SX.out⟩
            case rest =>
              obtain ⟨rfl, rfl, rfl, hq⟩ := hcut
              obtain ⟨E4, P4, P8, P13, pq⟩ := hq.out
              clear z0 z1 z2 z3 z4 z5 z6 z7 KA ST hq
              obtain ⟨z0, z1, z2, z3, z4, z5, z6, z7⟩ := box_all8 P13
              have KA := Lib.hid (KQ.out wc pq)
              have ST := Lib.hid (p := ∀ V, Below wc.heap.size wc V → (V.cell? ⟨x8, 0, none⟩ = some (.int .i64 r.2.2.2.stack) ∧ V.cell? ⟨x8, 1, none⟩ = some (.int .i64 r.2.2.2.fuel) ∧ V.cell? ⟨x8, 2, none⟩ = some (.int .i64 r.2.2.2.back)) ∧ (V.frozen? ⟨x8, 0, none⟩ = false ∧ V.frozen? ⟨x8, 1, none⟩ = false ∧ V.frozen? ⟨x8, 2, none⟩ = false) ∧ RowKit.Hid (Below w.heap.size w (set3 V x8 0 (.int .i64 r'.2.2.2.stack) (.int .i64 r'.2.2.2.fuel) (.int .i64 r'.2.2.2.back)) ∧ BkP (set3 V x8 0 (.int .i64 r'.2.2.2.stack) (.int .i64 r'.2.2.2.fuel) (.int .i64 r'.2.2.2.back)) x4 #[.int .i64 r'.2.2.2.stack, .int .i64 r'.2.2.2.fuel, .int .i64 r'.2.2.2.back] 29 ∧ BkP (set3 V x8 0 (.int .i64 r'.2.2.2.stack) (.int .i64 r'.2.2.2.fuel) (.int .i64 r'.2.2.2.back)) x8 #[.int .i64 r'.2.2.2.stack, .int .i64 r'.2.2.2.fuel, .int .i64 r'.2.2.2.back] 29)) (fun V bb => by
                have e3 := E4.lat bb
                have p8 := P8.lat bb
                have ex := e3.far p8 x8g (.int .i64 r'.2.2.2.stack) (.int .i64 r'.2.2.2.fuel) (.int .i64 r'.2.2.2.back)
                refine ⟨boxV3 p8, ⟨p8.frozen 0, p8.frozen 1, p8.frozen 2⟩, BW.out _ ex.bw, (set3_far n48).trans (P4.lat bb), ?_⟩
                have := set3_blk (o := 0) (d0 := .int .i64 r'.2.2.2.stack) (d1 := .int .i64 r'.2.2.2.fuel) (d2 := .int .i64 r'.2.2.2.back) p8 (by simp)
                simpa using this)
              clear E4 P4 P8 P13 pq
              go_upto_region 9 with fail
              go_cut [9, 10, 11] (fun v5 v6 v7 wx => v5 = .int .i64 (r'.2.1 : Int) ∧ v6 = .int .i64 (r'.2.2.1 : Int) ∧ v7 = .int .i64 r'.1 ∧ RowKit.Hid (Below w.heap.size w wx ∧ BkP wx x4 #[.int .i64 r'.2.2.2.stack, .int .i64 r'.2.2.2.fuel, .int .i64 r'.2.2.2.back] 29 ∧ BkP wx x8 #[.int .i64 r'.2.2.2.stack, .int .i64 r'.2.2.2.fuel, .int .i64 r'.2.2.2.back] 29))
              case first =>
                go_wp2_with (go_at_call 7; refine KA.out.mono ?_; rintro e w2 ⟨rfl, bb⟩; obtain ⟨⟨s0, s1, s2⟩, ⟨f0, f1, f2⟩, SX⟩ := ST.out w2 bb; clear bb)
                go_meet
                case rel => exact ⟨rfl, rfl, rfl, SX.out⟩
              case rest =>
                obtain ⟨rfl, rfl, rfl, hq⟩ := hcut
                obtain ⟨bl, P4, P8⟩ := hq.out
                have BL := Lib.hid bl
                obtain ⟨a0, a1, a2⟩ := boxV3 P4
                obtain ⟨b0, b1, b2⟩ := boxV3 P8
                clear hq bl P4 P8 z0 z1 z2 z3 z4 z5 z6 z7
                go_wp2
                go_ret
                exact ⟨by simp, BL.out⟩
end Go.Proofs.YtjbbbejadhojlaaDoor
