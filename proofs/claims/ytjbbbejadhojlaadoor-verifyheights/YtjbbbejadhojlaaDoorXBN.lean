import Derived.Test.YtjbbbejadhojlaaDoorXBM
namespace Go.Proofs.YtjbbbejadhojlaaDoor
open Go.RowKit
set_option linter.unusedVariables false
set_option linter.unusedSimpArgs false
set_option maxRecDepth 100000 in
set_option maxHeartbeats 12800000 in
theorem verifyHeights_any {w : World} {p : Pg} {sg : Int} (hp : PV w p) (hR : Rws w) (hU : Rul w) : Calls Tryd.prog 4 #[p.agg, .int .i64 sg] w fun e w' => e = .returned (.bool true) ∧ Below w.heap.size w w' := by
  obtain ⟨W0, hW0⟩ : ∃ W, w.alloc p.box = W := ⟨_, rfl⟩
  have B0 : Below w.heap.size w W0 := by rw [← hW0]; exact allocBP _ _
  have Q0 : BkP W0 w.heap.size p.arr 26 := by rw [← hW0]; exact heapN _ _
  have hp0 := hp.later B0
  have R0 := hR.below B0
  have U0 := hU.lat B0
  have KH := Lib.hid (handProgram_any hp0)
  have BW := Lib.hid (p := ∀ V, Below W0.heap.size W0 V → Below w.heap.size w V) (fun V bb => B0.trans (bb.mono B0.size))
  obtain ⟨n, hn⟩ : ∃ n, (hLs p sg).length = n := ⟨_, rfl⟩
  have KR := Lib.hid (p := ∀ V, Below W0.heap.size W0 V → Calls Tryd.prog 11 #[p.agg, .int .i64 sg] V fun e w' => ∃ a c, e = .returned (.tuple #[.slice a n c, .int .i64 (hEr p sg)]) ∧ RowKit.Hid (OwZ w' V.heap.size (.slice a n c) (intsN (hLs p sg)) ∧ Below V.heap.size V w')) (fun V bb => (refHeightsQ_any (hp0.later bb)).mono (fun e w' z => by
    obtain ⟨a, m, c, z1, ⟨z2, _⟩, z3⟩ := z
    have : m = n := by
      have := own_len z2
      rw [intsN_len, hn] at this
      exact this
    subst this
    exact ⟨a, c, z1, z2, z3⟩))
  have KV := Lib.hid (p := ∀ V gn gc gp gd cg, Below W0.heap.size W0 V → HnP V W0.heap.size p gn gc gp gd cg (fun d => (p.days.getD d default).code) → Calls Tryd.prog 10 #[.agg (hdA p gn gc gp gd), .int .i64 sg] V fun e w' => ∃ a c, e = .returned (.tuple #[.slice a n c, .int .i64 (hEr p sg)]) ∧ RowKit.Hid (RwN w' V.heap.size a n c (hLs p sg) ∧ Below V.heap.size V w')) (fun V gn gc gp gd cg bb hh => by
    have q := heightsQ_any (sg := sg) (hh.pv (hp0.later bb) (code_i64 hp0)) (R0.below bb) (U0.lat bb)
    rw [hdP_agg, (hEr_key (hdP_key p gn gc gp gd cg) sg).1, (hEr_key (hdP_key p gn gc gp gd cg) sg).2] at q
    refine q.mono (fun e w' z => ?_)
    obtain ⟨a, m, c, z1, z2, z3⟩ := z
    have : m = n := by rw [← z2.1, hn]
    subst this
    exact ⟨a, c, z1, z2, z3⟩)
  have KK := Lib.hid (p := ∀ V gn gc gp gd cg, Below W0.heap.size W0 V → HnP V W0.heap.size p gn gc gp gd cg (fun d => (p.days.getD d default).code) → Calls Tryd.prog 8 #[.agg (hdA p gn gc gp gd), p.agg] V fun e w' => e = .returned (.bool true) ∧ Below V.heap.size V w') (fun V gn gc gp gd cg bb hh => by
    have q := keptProgram_yes (hp0.later bb) hh
    rw [hdP_agg] at q
    exact q)
  have KT := Lib.hid (p := ∀ V gn gc gp gd cg, Below W0.heap.size W0 V → HnP V W0.heap.size p gn gc gp gd cg (fun d => (p.days.getD d default).code) → Calls Tryd.prog 9 #[.agg (hdA p gn gc gp gd), p.agg] V fun e w' => TuE W0 V p gn gc gp gd cg e w') (fun V gn gc gp gd cg bb hh => by
    have q := turned_any hp0 bb hh
    rw [hdP_agg] at q
    exact q)
  have K2 := Lib.hid (p := ∀ V gn gc gp gd cg, Below W0.heap.size W0 V → HnP V W0.heap.size p gn gc gp gd cg (cdR p p.days.length) → Calls Tryd.prog 10 #[.agg (hdA p gn gc gp gd), .int .i64 sg] V fun e w' => ∃ a m c, e = .returned (.tuple #[.slice a m c, .int .i64 (hEr (hdP p gn gc gp gd cg (cdR p p.days.length)) sg)]) ∧ RwN w' V.heap.size a m c (hLs (hdP p gn gc gp gd cg (cdR p p.days.length)) sg) ∧ Below V.heap.size V w') (fun V gn gc gp gd cg bb hh => by
    have q := heightsQ_any (sg := sg) (hh.pv (hp0.later bb) (cdR_i64 hp0)) (R0.below bb) (U0.lat bb)
    rw [hdP_agg] at q
    exact q)
  have HW := Lib.hid hW0
  have QQ := Lib.hid (p := ∀ V, Below W0.heap.size W0 V → BkP V w.heap.size p.arr 26) (fun V bb => Q0.lat bb)
  obtain ⟨L, hL⟩ : ∃ L, hLs p sg = L := ⟨_, rfl⟩
  obtain ⟨er, her⟩ : ∃ er, hEr p sg = er := ⟨_, rfl⟩
  rw [hL, her] at KR KV
  rw [hL] at hn
  clear hp hR hU hW0 B0 Q0 hp0 R0 U0 hL her
  unfold Pg.agg at *
  unfold Pg.box at *
  unfold hdA at *
  unfold Pg.arr at *
  obtain ⟨na, nc, names, ua, uc, curs, pa, pc, pool, hor, cells, slots, stack, da, dc, days⟩ := p
  simp only at *
  obtain ⟨bx0, bx1, bx2, bx3, bx4, bx5, bx6, bx7⟩ := box_all8 (QQ.out W0 (Below.refl _ _))
  go_enter Tryd.func4, Tryd.ntmps4
  go_upto_region 1 with fail
  rw [HW.out]
  go_cut [5] (fun v wx => ∃ x3 gn gc gp gd cg, v = .pointer (some ⟨x3, 0, none⟩) ∧ RowKit.Hid (ExI w W0 ⟨na, nc, names, ua, uc, curs, pa, pc, pool, hor, cells, slots, stack, da, dc, days⟩ gn gc gp gd cg (fun d => (days.getD d default).code) x3 wx))
  case first =>
    go_wp2_with (go_at_call 5; refine KH.out.mono ?_; rintro e w1 ⟨gn, gc, gp, gd, cg, hq, hn', bb⟩; rw [hdP_agg] at hq; simp only at hq; subst hq; have E1 := Lib.hid (And.intro hn' bb); clear hn' bb)
    go_meet
    case rel =>
      obtain ⟨hn', bb⟩ := E1.out
      have al := allocBP w1 (.cells #[.slice (some ⟨gn, 0, none⟩) names.length (names.length + 3), .slice (some ⟨gc, 0, none⟩) curs.length (curs.length + 3), .slice (some ⟨gp, 0, none⟩) pool.length (pool.length + 3), .int .i64 hor, .int .i64 cells, .int .i64 slots, .int .i64 stack, .slice (some ⟨gd, 0, none⟩) days.length (days.length + 3)] 26)
      exact ⟨w1.heap.size, gn, gc, gp, gd, cg, rfl, bb.trans (al.mono bb.size), QQ.out _ (bb.trans (al.mono bb.size)), heapN _ _, bb.size, hn'.lat al⟩
  case rest =>
    obtain ⟨x3, gn, gc, gp, gd, cg, rfl, hq⟩ := hcut
    clear bx0 bx1 bx2 bx3 bx4 bx5 bx6 bx7 KH
    obtain ⟨W1, hW1⟩ : ∃ W, wc = W := ⟨_, rfl⟩
    rw [hW1] at hq
    have E1 := Lib.hid (p := ∀ V, Below W1.heap.size W1 V → ExI w W0 ⟨na, nc, names, ua, uc, curs, pa, pc, pool, hor, cells, slots, stack, da, dc, days⟩ gn gc gp gd cg (fun d => (days.getD d default).code) x3 V) (fun V bb => hq.out.lat bb)
    obtain ⟨y0, y1, y2, y3, y4, y5, y6, y7⟩ := box_all8 (E1.out W1 (Below.refl _ _)).ib
    have K := Lib.hid (KV.out W1 gn gc gp gd cg (E1.out W1 (Below.refl _ _)).bw (E1.out W1 (Below.refl _ _)).hn)
    clear hq
    rw [hW1]
    clear hW1
    go_upto_region 2 with fail
    go_cut [6, 7] (fun v6 v7 wx => ∃ aa ca, v6 = .slice aa n ca ∧ v7 = .int .i64 er ∧ RowKit.Hid (Below W1.heap.size W1 wx ∧ RwN wx W1.heap.size aa n ca L))
    case first =>
      go_wp2_with (go_at_call 10; refine K.out.mono ?_; rintro e w2 ⟨aa, ca, rfl, q2⟩; have E2 := Lib.hid q2.out; clear q2)
      go_meet
      case rel => exact ⟨aa, ca, rfl, rfl, E2.out.2, E2.out.1⟩
    case rest =>
      obtain ⟨aa, ca, rfl, rfl, hq⟩ := hcut
      clear y0 y1 y2 y3 y4 y5 y6 y7 K
      obtain ⟨W2, hW2⟩ : ∃ W, wc = W := ⟨_, rfl⟩
      rw [hW2] at hq
      have B12 := Lib.hid hq.out.1
      have RA := Lib.hid hq.out.2
      have ex := E1.out W2 hq.out.1
      obtain ⟨y0, y1, y2, y3, y4, y5, y6, y7⟩ := box_all8 ex.ib
      have K := Lib.hid (KV.out W2 gn gc gp gd cg ex.bw ex.hn)
      clear hq ex
      rw [hW2]
      clear hW2
      go_upto_region 3 with fail
      go_cut [8] (fun v8 wx => ∃ at' ct, v8 = .slice at' n ct ∧ RowKit.Hid (Below W2.heap.size W2 wx ∧ RwN wx W2.heap.size at' n ct L))
      case first =>
        go_wp2_with (go_at_call 10; refine K.out.mono ?_; rintro e w2 ⟨at', ct, rfl, q2⟩; have E2 := Lib.hid q2.out; clear q2)
        go_meet
        case rel => exact ⟨at', ct, rfl, E2.out.2, E2.out.1⟩
      case rest =>
        obtain ⟨at', ct, rfl, hq⟩ := hcut
        clear y0 y1 y2 y3 y4 y5 y6 y7 K
        obtain ⟨W3, hW3⟩ : ∃ W, wc = W := ⟨_, rfl⟩
        rw [hW3] at hq
        have B23 := Lib.hid hq.out.1
        have RT := Lib.hid hq.out.2
        have B13 := Lib.hid (B12.out.trans (B23.out.mono B12.out.size))
        have ex := E1.out W3 B13.out
        obtain ⟨y0, y1, y2, y3, y4, y5, y6, y7⟩ := box_all8 ex.pb
        have K := Lib.hid (KR.out W3 ex.bw)
        clear hq ex
        rw [hW3]
        clear hW3
        go_upto_region 4 with fail
        go_cut [10, 11] (fun v8 v9 wx => ∃ ab cb, v8 = .slice ab n cb ∧ v9 = .int .i64 er ∧ RowKit.Hid (Below W3.heap.size W3 wx ∧ OwZ wx W3.heap.size (.slice ab n cb) (intsN L)))
        case first =>
          go_wp2_with (go_at_call 11; refine K.out.mono ?_; rintro e w2 ⟨ab, cb, rfl, q2⟩; have E2 := Lib.hid q2.out; clear q2)
          go_meet
          case rel => exact ⟨ab, cb, rfl, rfl, E2.out.2, E2.out.1⟩
        case rest =>
          obtain ⟨ab, cb, rfl, rfl, hq⟩ := hcut
          clear y0 y1 y2 y3 y4 y5 y6 y7 K
          obtain ⟨W4, hW4⟩ : ∃ W, wc = W := ⟨_, rfl⟩
          rw [hW4] at hq
          have B34 := Lib.hid hq.out.1
          have OB := Lib.hid hq.out.2
          have B14 := Lib.hid (B13.out.trans (B34.out.mono B13.out.size))
          have B24 := Lib.hid (B23.out.trans (B34.out.mono B23.out.size))
          have SA := Lib.hid (p := ∀ V, Below W4.heap.size W4 V → StkL V aa n L) (fun V bb => ((RA.out.lat B24.out).lat bb).stk)
          have SF := Lib.hid (p := ∀ V, Below W4.heap.size W4 V → StkL V at' n L) (fun V bb => ((RT.out.lat B34.out).lat bb).stk)
          have SB := Lib.hid (p := ∀ V, Below W4.heap.size W4 V → StkL V ab n L) (fun V bb => (OB.out.lat bb).stk.1)
          have nb := RA.out.2.1
          have ex := E1.out W4 B14.out
          obtain ⟨y0, y1, y2, y3, y4, y5, y6, y7⟩ := box_all8 ex.ib
          obtain ⟨z0, z1, z2, z3, z4, z5, z6, z7⟩ := box_all8 ex.pb
          have K := Lib.hid (KK.out W4 gn gc gp gd cg ex.bw ex.hn)
          clear hq ex
          rw [hW4]
          clear hW4
          go_upto_region 5 with fail
          go_cut [12] (fun v wx => v = .bool true ∧ RowKit.Hid (Below W4.heap.size W4 wx))
          case first =>
            go_wp2_with (go_at_call 8; refine K.out.mono ?_; rintro e w2 ⟨rfl, bb⟩; have E2 := Lib.hid bb; clear bb)
            go_meet
            case rel => exact ⟨rfl, E2.out⟩
          case rest =>
            obtain ⟨rfl, hq⟩ := hcut
            clear y0 y1 y2 y3 y4 y5 y6 y7 z0 z1 z2 z3 z4 z5 z6 z7 K
            have BC := Lib.hid hq.out
            clear hq
            go_upto_region 6 with fail
            go_cut [63] (fun v wx => v = .bool false ∧ RowKit.Hid (Below W4.heap.size W4 wx))
            case first =>
              go_wp2_with fail
              go_at_call 12
              refine (sameInts_yes (l := L) (SA.out _ BC.out) (SB.out _ BC.out) nb).mono ?_
              rintro e w6 ⟨rfl, h6⟩
              have BD := Lib.hid (BC.out.trans (h6.mono BC.out.size))
              clear h6
              go_wp2_with fail
              go_at_call 12
              refine (sameInts_yes (l := L) (SF.out _ BD.out) (SB.out _ BD.out) nb).mono ?_
              rintro e w7 ⟨rfl, h7⟩
              have BE := Lib.hid (BD.out.trans (h7.mono BD.out.size))
              clear h7
              go_wp2
              go_meet
              case rel => exact ⟨rfl, BE.out⟩
            case rest =>
              obtain ⟨rfl, hq⟩ := hcut
              clear BC
              obtain ⟨W5, hW5⟩ : ∃ W, wc = W := ⟨_, rfl⟩
              rw [hW5] at hq ⊢
              have B45 := Lib.hid hq.out
              have B15 := Lib.hid (B14.out.trans (B45.out.mono B14.out.size))
              have B25 := Lib.hid (B24.out.trans (B45.out.mono B24.out.size))
              have TW := Lib.hid (p := ∀ V : World, (∀ u, W2.heap.size ≤ u → u < W5.heap.size → V.heap[u]? = W5.heap[u]?) → StkL V at' n L ∧ StkL V ab n L) (fun V q => by
                have b35 := B34.out.trans (B45.out.mono B34.out.size)
                refine ⟨(RwN.blk (RT.out.lat b35) (fun hb h1 h2 => q hb h1 h2)).stk, (OwZ.blk (OB.out.lat B45.out) (fun g hg => ?_)).stk.1⟩
                have := (OB.out.lat B45.out).own g hg
                exact q g (by have := B23.out.size; omega) this.2)
              have A0 := Lib.hid (p := KpH W1 W5 W2.heap.size W5 ∧ AWr W5 W1.heap.size W2.heap.size aa n ca L 0) ⟨⟨B15.out, Nat.le_refl _, fun _ _ _ => rfl⟩, RA.out.wr.lat B25.out⟩
              clear hq hW5 SA SF SB
              go_wp2
              go_loopw [13] (fun t wr => ∃ k : Nat, k ≤ n ∧ t = .int .i64 (k : Int) ∧ RowKit.Hid (KpH W1 W5 W2.heap.size wr ∧ AWr wr W1.heap.size W2.heap.size aa n ca L k)) (fun t _ => n - (intOf t).toNat)
              case atStart => exact ⟨0, by omega, rfl, A0.out⟩
              case round =>
                clear A0
                rename World => wr
                obtain ⟨k, hk, rfl, hH⟩ := hrel
                obtain ⟨hK, hA⟩ := hH.out
                by_cases hlt : k < n
                · have kc : (k : Int) < (n : Int) := by omega
                  have k0 : ¬ (k : Int) < 0 := by omega
                  have ks : IntKind.i64.wrap ((k : Int) + 1) = (k : Int) + 1 := by simp [IntKind.wrap, IntKind.bits, IntKind.signed]; omega
                  rcases hA.2 with ⟨_, z, _⟩ | ⟨hb, rfl, e2, e3, e4, e5⟩
                  · omega
                  · have cl : wr.cell? ⟨hb, k, none⟩ = some (.int .i64 (L.getD k 0 : Int)) := by rw [e5.cell, mixA_at _ _ _ _ _ hlt, if_neg (by omega)]
                    have fz := e5.frozen k
                    have NX := Lib.hid (p := KpH W1 W5 W2.heap.size (wr.setCell ⟨hb, k, none⟩ (.int .i64 (-5))) ∧ AWr (wr.setCell ⟨hb, k, none⟩ (.int .i64 (-5))) W1.heap.size W2.heap.size (some ⟨hb, 0, none⟩) n ca L (k + 1)) ⟨⟨hK.be.setCell (by exact e3) _, by have := hK.sz; simpa using this, fun u h1 h2 => (bk_blockG (by omega)).trans (hK.kp u h1 h2)⟩, hA.1, .inr ⟨hb, rfl, e2, e3, e4, by
                      have q := e5.set2 k (.int .i64 (-5)) (by rw [mixA_size]; exact hlt)
                      have e := mixA_set (fun _ => .int .i64 (-5)) (fun j => .int .i64 (L.getD j 0 : Int)) k n
                      rw [e] at q
                      exact q⟩⟩
                    clear hH hK hA e5
                    generalize L.getD k 0 = lk at *
                    go_wp2
                    refine ⟨⟨k + 1, by omega, by go_num, NX.out⟩, ?_⟩
                    simp [intOf]
                    omega
                · obtain rfl : n = k := by omega
                  obtain ⟨W6, hW6⟩ : ∃ W, wr = W := ⟨_, rfl⟩
                  rw [hW6] at hK hA ⊢
                  have K6 := Lib.hid hK
                  have A6 := Lib.hid hA
                  clear hH hK hA hW6
                  go_wp2
                  go_loopw [14, 15] (fun v t wr => ∃ (i : Nat) (v14 : Value), v14 = v ∧ i ≤ 70 ∧ t = .int .i64 (i : Int) ∧ RowKit.Hid (Below W6.heap.size W6 wr ∧ GrV wr W6.heap.size aa n ca i v14)) (fun _ t _ => 70 - (intOf t).toNat)
                  case atStart => exact ⟨0, _, rfl, by omega, rfl, Below.refl _ _, .inl ⟨rfl, rfl⟩⟩
                  case round =>
                    rename World => wr
                    obtain ⟨i, v14, rfl, hi, rfl, hH⟩ := hrel
                    obtain ⟨hB, hG⟩ := hH.out
                    by_cases hlt : i < 70
                    · have kc : (i : Int) < 70 := by omega
                      have k0 : ¬ (i : Int) < 0 := by omega
                      have ks : IntKind.i64.wrap ((i : Int) + 1) = (i : Int) + 1 := by simp [IntKind.wrap, IntKind.bits, IntKind.signed]; omega
                      have al := allocBP wr (.cells #[.int .i64 (-6)] 3)
                      have NN : ∃ v' w', RowKit.Hid (∀ ty, (Builtin.append_ #[23, 23] ty #[v14, .slice (some ⟨wr.heap.size, 0, none⟩) 1 1]).run Tryd.prog (wr.alloc (.cells #[.int .i64 (-6)] 3)) = .ok v' w') ∧ RowKit.Hid (Below W6.heap.size W6 w' ∧ GrV w' W6.heap.size aa n ca (i + 1) v') := by
                        rcases hG with ⟨rfl, rfl⟩ | ⟨hi0, o⟩
                        · obtain ⟨v', w', r, q⟩ := grow_first ((A6.out.lat hB).lat al) (heapN _ _)
                          have hs : W6.heap.size ≤ (wr.alloc (.cells #[.int .i64 (-6)] 3)).heap.size := Nat.le_trans hB.size al.size
                          exact ⟨v', w', r, (hB.trans (al.mono hB.size)).trans (q.out.2.mono hs), .inr ⟨by omega, q.out.1.later (Below.refl _ _) hs⟩⟩
                        · obtain ⟨v', w', r, q⟩ := grow_more (o.lat al) (by omega) (Nat.le_trans hB.size al.size) (heapN _ _)
                          exact ⟨v', w', r, (hB.trans (al.mono hB.size)).trans q.out.2, .inr ⟨by omega, q.out.1⟩⟩
                      obtain ⟨v', w', R, q⟩ := NN
                      clear hH hB hG al
                      go_wp2_with (at_builtin; refine wp_app_runR rfl _ _ 23 rfl _ _ _ w' rfl rfl R.out ?_)
                      refine ⟨⟨i + 1, v', rfl, by omega, by go_num, q.out⟩, ?_⟩
                      simp [intOf]
                      omega
                    · obtain rfl : i = 70 := by omega
                      rcases hG with ⟨z, _⟩ | ⟨_, og⟩
                      · omega
                      · obtain ⟨ag, cg', rfl, _, ne⟩ := og.form
                        rw [grL_len] at og ⊢
                        obtain ⟨gg, rfl, g1, g2⟩ := ne (by intro z; have := congrArg List.length z; rw [grL_len] at this; simp at this)
                        obtain ⟨W7, hW7⟩ : ∃ W, wr = W := ⟨_, rfl⟩
                        rw [hW7] at hB og g2 ⊢
                        have B67 := Lib.hid hB
                        have OG := Lib.hid og
                        have K7 := Lib.hid (K6.out.lat hB)
                        have A7 := Lib.hid (A6.out.lat hB)
                        have ex := E1.out W7 K7.out.be
                        obtain ⟨y0, y1, y2, y3, y4, y5, y6, y7⟩ := box_all8 ex.ib
                        have K := Lib.hid (KV.out W7 gn gc gp gd cg ex.bw ex.hn)
                        obtain ⟨N, hN⟩ : ∃ N, n + 70 = N := ⟨_, rfl⟩
                        rw [hN]
                        have HN := Lib.hid hN
                        clear hH hB og hW7 ex hN
                        go_upto_region 17 with fail
                        go_cut [16, 17] (fun v6 v7 wx => ∃ ac cc, v6 = .slice ac n cc ∧ v7 = .int .i64 er ∧ RowKit.Hid (Below W7.heap.size W7 wx ∧ StkL wx ac n L))
                        case first =>
                          go_wp2_with (go_at_call 10; refine K.out.mono ?_; rintro e w2 ⟨ac, cc, rfl, q2⟩; have E2 := Lib.hid q2.out; clear q2)
                          go_meet
                          case rel => exact ⟨ac, cc, rfl, rfl, E2.out.2, E2.out.1.stk⟩
                        case rest =>
                          obtain ⟨ac, cc, rfl, rfl, hq⟩ := hcut
                          clear y0 y1 y2 y3 y4 y5 y6 y7 K
                          obtain ⟨W8, hW8⟩ : ∃ W, wc = W := ⟨_, rfl⟩
                          rw [hW8] at hq ⊢
                          have B78 := Lib.hid hq.out.1
                          have SC := Lib.hid hq.out.2
                          clear hq hW8
                          have GC := Lib.hid (p := ∀ V, Below W7.heap.size W7 V → ∀ k, k < N → V.cell? ⟨gg, k, none⟩ = some (.int .i64 (if k < n then -5 else -6))) (fun V bb k hk => by
                            have c := (OG.out.lat bb).cell (i := k) (by rw [grL_len, HN.out]; exact hk)
                            rw [grL_at (by rw [HN.out]; exact hk)] at c
                            exact c)
                          have AC := Lib.hid (p := ∀ V, Below W7.heap.size W7 V → ∀ k, k < n → ∃ hb, aa = some ⟨hb, 0, none⟩ ∧ V.cell? ⟨hb, k, none⟩ = some (.int .i64 (-5))) (fun V bb k hk => by
                            rcases (A7.out.lat bb).2 with ⟨_, z, _⟩ | ⟨hb, e1, e2, e3, e4, e5⟩
                            · omega
                            · exact ⟨hb, e1, by rw [e5.cell, mixA_at _ _ _ _ _ hk, if_pos hk]⟩)
                          have hN2 := HN.out
                          go_wp2
                          go_loopw [18] (fun t wr => ∃ k : Nat, k ≤ N ∧ t = .int .i64 (k : Int) ∧ RowKit.Hid (Below W8.heap.size W8 wr)) (fun t _ => N - (intOf t).toNat)
                          case atStart => exact ⟨0, by omega, rfl, Below.refl _ _⟩
                          case round =>
                            rename World => wr
                            obtain ⟨k, hk, rfl, hH⟩ := hrel
                            by_cases hlt : k < N
                            · have kc : (k : Int) < (N : Int) := by omega
                              have k0 : ¬ (k : Int) < 0 := by omega
                              have ks : IntKind.i64.wrap ((k : Int) + 1) = (k : Int) + 1 := by simp [IntKind.wrap, IntKind.bits, IntKind.signed]; omega
                              have b7w := B78.out.trans (hH.out.mono B78.out.size)
                              have gcell := GC.out wr b7w k hlt
                              have NX := Lib.hid hH.out
                              by_cases hm : k < n
                              · obtain ⟨hb, rfl, acell⟩ := AC.out wr b7w k hm
                                rw [if_pos hm] at gcell
                                have km : (k : Int) < (n : Int) := by omega
                                have km3 : decide (k < n) = true := decide_eq_true hm
                                have kg : ¬ (n : Int) ≤ (k : Int) := by omega
                                have kg2 : ¬ n ≤ k := by omega
                                have kg3 : decide (n ≤ k) = false := decide_eq_false kg2
                                clear hH b7w
                                go_wp2
                                refine ⟨⟨k + 1, by omega, by go_num, NX.out⟩, ?_⟩
                                simp [intOf]
                                omega
                              · rw [if_neg hm] at gcell
                                have km : ¬ (k : Int) < (n : Int) := by omega
                                have km3 : decide (k < n) = false := decide_eq_false hm
                                have kg : (n : Int) ≤ (k : Int) := by omega
                                have kg2 : n ≤ k := by omega
                                have kg3 : decide (n ≤ k) = true := decide_eq_true kg2
                                clear hH b7w
                                go_wp2
                                refine ⟨⟨k + 1, by omega, by go_num, NX.out⟩, ?_⟩
                                simp [intOf]
                                omega
                            · obtain rfl : N = k := by omega
                              have B8w := Lib.hid hH.out
                              have B7w := Lib.hid (B78.out.trans (hH.out.mono B78.out.size))
                              have TK := Lib.hid (p := ∀ V, Below W7.heap.size W7 V → StkL V at' n L ∧ StkL V ab n L) (fun V bb => TW.out V (K7.out.lat bb).kp)
                              have SCV := Lib.hid (p := ∀ V, Below W8.heap.size W8 V → StkL V ac n L) (fun V bb => ⟨SC.out.1, SC.out.2.lat bb⟩)
                              clear hH
                              go_upto_region 23 with fail
                              go_cut [138] (fun v wx => v = .bool false ∧ RowKit.Hid (Below W8.heap.size W8 wx))
                              case first =>
                                go_wp2_with fail
                                go_at_call 12
                                refine (sameInts_yes (l := L) (SCV.out _ B8w.out) (TK.out _ B7w.out).2 nb).mono ?_
                                rintro e w6 ⟨rfl, h6⟩
                                have BD := Lib.hid (B8w.out.trans (h6.mono B8w.out.size))
                                have BD7 := Lib.hid (B7w.out.trans (h6.mono B7w.out.size))
                                clear h6
                                go_wp2_with fail
                                go_at_call 12
                                refine (sameInts_yes (l := L) (TK.out _ BD7.out).1 (TK.out _ BD7.out).2 nb).mono ?_
                                rintro e w7 ⟨rfl, h7⟩
                                have BE := Lib.hid (BD.out.trans (h7.mono BD.out.size))
                                clear h7
                                go_wp2
                                go_meet
                                case rel => exact ⟨rfl, BE.out⟩
                              case rest =>
                                obtain ⟨rfl, hq⟩ := hcut
                                clear B8w B7w
                                obtain ⟨W9, hW9⟩ : ∃ W, wc = W := ⟨_, rfl⟩
                                rw [hW9] at hq ⊢
                                have B79 := B78.out.trans (hq.out.mono B78.out.size)
                                have K9 := Lib.hid (K7.out.lat B79)
                                have ex := E1.out W9 K9.out.be
                                have EX9 := Lib.hid ex
                                obtain ⟨y0, y1, y2, y3, y4, y5, y6, y7⟩ := box_all8 ex.ib
                                obtain ⟨z0, z1, z2, z3, z4, z5, z6, z7⟩ := box_all8 ex.pb
                                have K := Lib.hid (KT.out W9 gn gc gp gd cg ex.bw ex.hn)
                                have CL := Lib.hid (p := ∀ d, d < days.length → cg d < W1.heap.size) (fun d hd => ((E1.out W1 (Below.refl _ _)).hn.bi d hd).1.lt)
                                have S12 := B12.out.size
                                clear hq hW9 ex B79 SCV TK GC AC
                                go_upto_region 25 with fail
                                go_cut [19] (fun v wx => ∃ x13, ∃ q : Pg, v = .pointer (some ⟨x13, 0, none⟩) ∧ RowKit.Hid (ExI w W0 ⟨na, nc, names, ua, uc, curs, pa, pc, pool, hor, cells, slots, stack, da, dc, days⟩ gn gc gp gd cg (cdR ⟨na, nc, names, ua, uc, curs, pa, pc, pool, hor, cells, slots, stack, da, dc, days⟩ days.length) x3 wx ∧ BkP wx x13 #[.slice q.na q.names.length q.nc, .slice q.ua q.curs.length q.uc, .slice q.pa q.pool.length q.pc, .int .i64 q.hor, .int .i64 q.cells, .int .i64 q.slots, .int .i64 q.stack, .slice q.da q.days.length q.dc] 26 ∧ q.key = (hdP ⟨na, nc, names, ua, uc, curs, pa, pc, pool, hor, cells, slots, stack, da, dc, days⟩ gn gc gp gd cg (cdR ⟨na, nc, names, ua, uc, curs, pa, pc, pool, hor, cells, slots, stack, da, dc, days⟩ days.length)).key ∧ PV wx q ∧ (W5.heap.size ≤ wx.heap.size ∧ ∀ u, W2.heap.size ≤ u → u < W5.heap.size → wx.heap[u]? = W5.heap[u]?)))
                                case first =>
                                  go_wp2_with (go_at_call 9; refine K.out.mono ?_; rintro e w2 ⟨q, hqq, h1, h2, h3, h4, h5⟩; unfold Pg.agg at hqq; subst hqq; have E2 := Lib.hid (And.intro h1 (And.intro h2 (And.intro h3 (And.intro h4 h5)))); clear h1 h2 h3 h4 h5)
                                  go_meet
                                  case rel =>
                                    obtain ⟨h1, h2, h3, h4, h5⟩ := E2.out
                                    have e2 := EX9.out
                                    have ne : ∀ {u : Nat} {cs : Array Value} {t : TypeId}, BkP W9 u cs t → t ≠ 51 → BkP w2 u cs t := fun {u cs t} bk ht => (h5 u bk.lt (fun d hd z => bk_ne (e2.hn.bi d hd).1 bk (fun q => ht q.symm) z.symm)).trans bk
                                    have al := allocBP w2 (.cells #[.slice q.na q.names.length q.nc, .slice q.ua q.curs.length q.uc, .slice q.pa q.pool.length q.pc, .int .i64 q.hor, .int .i64 q.cells, .int .i64 q.slots, .int .i64 q.stack, .slice q.da q.days.length q.dc] 26)
                                    have ex : ExI w W0 ⟨na, nc, names, ua, uc, curs, pa, pc, pool, hor, cells, slots, stack, da, dc, days⟩ gn gc gp gd cg (cdR ⟨na, nc, names, ua, uc, curs, pa, pc, pool, hor, cells, slots, stack, da, dc, days⟩ days.length) x3 w2 := ⟨e2.bw.trans h4, ne e2.pb (by decide), ne e2.ib (by decide), e2.xg, h3⟩
                                    have bV : Below W0.heap.size W9 (w2.alloc (.cells #[.slice q.na q.names.length q.nc, .slice q.ua q.curs.length q.uc, .slice q.pa q.pool.length q.pc, .int .i64 q.hor, .int .i64 q.cells, .int .i64 q.slots, .int .i64 q.stack, .slice q.da q.days.length q.dc] 26)) := h4.trans (al.mono ex.bw.size)
                                    refine ⟨w2.heap.size, q, rfl, ex.lat al, heapN _ _, h2, h1 _ bV al.size (fun u g1 g2 => al.block u g2), Nat.le_trans K9.out.sz bV.size, fun u g1 g2 => ?_⟩
                                    have l9 : u < W9.heap.size := Nat.lt_of_lt_of_le g2 K9.out.sz
                                    have l2 : u < w2.heap.size := Nat.lt_of_lt_of_le l9 h4.size
                                    exact ((al.block u l2).trans (h5 u l9 (fun d hd z => by have := CL.out d hd; omega))).trans (K9.out.kp u g1 g2)
                                case rest =>
                                  obtain ⟨x13, q, rfl, hq⟩ := hcut
                                  clear y0 y1 y2 y3 y4 y5 y6 y7 z0 z1 z2 z3 z4 z5 z6 z7 K EX9 K9
                                  obtain ⟨W10, hW10⟩ : ∃ W, wc = W := ⟨_, rfl⟩
                                  rw [hW10] at hq ⊢
                                  obtain ⟨e3, p13, kq, pq, SZ10, ku⟩ := hq.out
                                  have TX := Lib.hid (p := ∀ V, Below W10.heap.size W10 V → W5.heap.size ≤ W10.heap.size → StkL V at' n L ∧ StkL V ab n L) (fun V bb sz => TW.out V (fun u g1 g2 => (bb.block u (by omega)).trans (ku u g1 g2)))
                                  obtain ⟨m, hm⟩ : ∃ m, (hLs (hdP ⟨na, nc, names, ua, uc, curs, pa, pc, pool, hor, cells, slots, stack, da, dc, days⟩ gn gc gp gd cg (cdR ⟨na, nc, names, ua, uc, curs, pa, pc, pool, hor, cells, slots, stack, da, dc, days⟩ days.length)) sg).length = m := ⟨_, rfl⟩
                                  have KA := Lib.hid (p := Calls Tryd.prog 10 #[.agg #[.slice (some ⟨gn, 0, none⟩) names.length (names.length + 3), .slice (some ⟨gc, 0, none⟩) curs.length (curs.length + 3), .slice (some ⟨gp, 0, none⟩) pool.length (pool.length + 3), .int .i64 hor, .int .i64 cells, .int .i64 slots, .int .i64 stack, .slice (some ⟨gd, 0, none⟩) days.length (days.length + 3)], .int .i64 sg] W10 fun e w' => ∃ a c, e = .returned (.tuple #[.slice a m c, .int .i64 (hEr (hdP ⟨na, nc, names, ua, uc, curs, pa, pc, pool, hor, cells, slots, stack, da, dc, days⟩ gn gc gp gd cg (cdR ⟨na, nc, names, ua, uc, curs, pa, pc, pool, hor, cells, slots, stack, da, dc, days⟩ days.length)) sg)]) ∧ RowKit.Hid (StkL w' a m (hLs (hdP ⟨na, nc, names, ua, uc, curs, pa, pc, pool, hor, cells, slots, stack, da, dc, days⟩ gn gc gp gd cg (cdR ⟨na, nc, names, ua, uc, curs, pa, pc, pool, hor, cells, slots, stack, da, dc, days⟩ days.length)) sg) ∧ m ≤ 262144 ∧ Below W10.heap.size W10 w')) ((K2.out W10 gn gc gp gd cg e3.bw e3.hn).mono (fun e w' z => by
                                    obtain ⟨a, m', c, z1, z2, z3⟩ := z
                                    have : m' = m := by rw [← z2.1, hm]
                                    subst this
                                    exact ⟨a, c, z1, z2.stk, z2.2.1, z3⟩))
                                  have KB := Lib.hid (p := ∀ V, Below W10.heap.size W10 V → Calls Tryd.prog 11 #[.agg #[.slice q.na q.names.length q.nc, .slice q.ua q.curs.length q.uc, .slice q.pa q.pool.length q.pc, .int .i64 q.hor, .int .i64 q.cells, .int .i64 q.slots, .int .i64 q.stack, .slice q.da q.days.length q.dc], .int .i64 sg] V fun e w' => ∃ a c, e = .returned (.tuple #[.slice a m c, .int .i64 (hEr (hdP ⟨na, nc, names, ua, uc, curs, pa, pc, pool, hor, cells, slots, stack, da, dc, days⟩ gn gc gp gd cg (cdR ⟨na, nc, names, ua, uc, curs, pa, pc, pool, hor, cells, slots, stack, da, dc, days⟩ days.length)) sg)]) ∧ RowKit.Hid (StkL w' a m (hLs (hdP ⟨na, nc, names, ua, uc, curs, pa, pc, pool, hor, cells, slots, stack, da, dc, days⟩ gn gc gp gd cg (cdR ⟨na, nc, names, ua, uc, curs, pa, pc, pool, hor, cells, slots, stack, da, dc, days⟩ days.length)) sg) ∧ Below V.heap.size V w')) (fun V bb => by
                                    have z0 := refHeightsQ_any (sg := sg) (pq.later bb)
                                    rw [(hEr_key kq sg).1, (hEr_key kq sg).2] at z0
                                    refine z0.mono (fun e w' z => ?_)
                                    obtain ⟨a, m', c, z1, ⟨z2, _⟩, z3⟩ := z
                                    have : m' = m := by
                                      have := own_len z2
                                      rw [intsN_len, hm] at this
                                      exact this
                                    subst this
                                    exact ⟨a, c, z1, z2.stk.1, z3⟩)
                                  have BWW := Lib.hid (p := ∀ V, Below W10.heap.size W10 V → Below w.heap.size w V) (fun V bb => BW.out V (e3.bw.trans (bb.mono e3.bw.size)))
                                  obtain ⟨y0, y1, y2, y3, y4, y5, y6, y7⟩ := box_all8 e3.ib
                                  have P13 := Lib.hid p13
                                  generalize hLs (hdP ⟨na, nc, names, ua, uc, curs, pa, pc, pool, hor, cells, slots, stack, da, dc, days⟩ gn gc gp gd cg (cdR ⟨na, nc, names, ua, uc, curs, pa, pc, pool, hor, cells, slots, stack, da, dc, days⟩ days.length)) sg = L2 at *
                                  generalize hEr (hdP ⟨na, nc, names, ua, uc, curs, pa, pc, pool, hor, cells, slots, stack, da, dc, days⟩ gn gc gp gd cg (cdR ⟨na, nc, names, ua, uc, curs, pa, pc, pool, hor, cells, slots, stack, da, dc, days⟩ days.length)) sg = er2 at *
                                  have Z10 := Lib.hid (p := W5.heap.size ≤ W10.heap.size) SZ10
                                  clear hq hW10 e3 p13 kq pq ku KV KR KK KT K2
                                  go_upto_region 26 with fail
                                  go_cut [20, 7] (fun v6 v7 wx => ∃ ad cd', v6 = .slice ad m cd' ∧ v7 = .int .i64 er2 ∧ RowKit.Hid (StkL wx ad m L2 ∧ m ≤ 262144 ∧ Below W10.heap.size W10 wx))
                                  case first =>
                                    go_wp2_with (go_at_call 10; refine KA.out.mono ?_; rintro e w2 ⟨ad, cd', rfl, q2⟩)
                                    go_meet
                                    case rel => exact ⟨ad, cd', rfl, rfl, q2⟩
                                  case rest =>
                                    obtain ⟨ad, cd', rfl, rfl, hq⟩ := hcut
                                    clear y0 y1 y2 y3 y4 y5 y6 y7 KA
                                    obtain ⟨W11, hW11⟩ : ∃ W, wc = W := ⟨_, rfl⟩
                                    rw [hW11] at hq ⊢
                                    have S11 := Lib.hid hq.out
                                    have mb := hq.out.2.1
                                    have K := Lib.hid (KB.out W11 hq.out.2.2)
                                    obtain ⟨y0, y1, y2, y3, y4, y5, y6, y7⟩ := box_all8 (P13.out.lat hq.out.2.2)
                                    clear hq hW11 KB
                                    go_upto_region 27 with fail
                                    go_cut [21, 11] (fun v6 v7 wx => ∃ aw cw, v6 = .slice aw m cw ∧ v7 = .int .i64 er2 ∧ RowKit.Hid (StkL wx aw m L2 ∧ Below W11.heap.size W11 wx))
                                    case first =>
                                      go_wp2_with (go_at_call 11; refine K.out.mono ?_; rintro e w2 ⟨aw, cw, rfl, q2⟩)
                                      go_meet
                                      case rel => exact ⟨aw, cw, rfl, rfl, q2⟩
                                    case rest =>
                                      obtain ⟨aw, cw, rfl, rfl, hq⟩ := hcut
                                      clear y0 y1 y2 y3 y4 y5 y6 y7 K
                                      obtain ⟨sw, b11⟩ := hq.out
                                      have bAll := S11.out.2.2.trans (b11.mono S11.out.2.2.size)
                                      have s11 : StkL wc ad m L2 := ⟨S11.out.1.1, S11.out.1.2.lat b11⟩
                                      have BA := Lib.hid bAll
                                      have SW := Lib.hid (And.intro s11 sw)
                                      clear hq sw b11 bAll s11
                                      go_wp2_with fail
                                      go_at_call 12
                                      refine (sameInts_yes (l := L2) SW.out.1 SW.out.2 mb).mono ?_
                                      rintro e w6 ⟨rfl, h6⟩
                                      have BD := Lib.hid (BA.out.trans (h6.mono BA.out.size))
                                      clear h6
                                      go_wp2_with fail
                                      go_at_call 12
                                      refine (sameInts_yes (l := L) (TX.out _ BD.out Z10.out).1 (TX.out _ BD.out Z10.out).2 nb).mono ?_
                                      rintro e w7 ⟨rfl, h7⟩
                                      have BE := Lib.hid (BWW.out _ (BD.out.trans (h7.mono BD.out.size)))
                                      clear h7
                                      go_wp2
                                      go_ret
                                      exact ⟨by first | rfl | simp, BE.out⟩
end Go.Proofs.YtjbbbejadhojlaaDoor
