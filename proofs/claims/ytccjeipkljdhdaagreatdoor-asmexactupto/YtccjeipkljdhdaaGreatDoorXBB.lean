import Derived.Test.YtccjeipkljdhdaaGreatDoorXAV
namespace Go.Proofs.YtccjeipkljdhdaaGreatDoor
open Go.RowKit
set_option linter.unusedVariables false
set_option linter.unusedSimpArgs false
set_option maxRecDepth 100000 in
set_option maxHeartbeats 20000000 in
theorem listsR_any {w : World} {p : Pg} (h : PV w p) : Calls Tryz.prog 61 #[p.agg] w fun e w' => e = .returned (.bool (decide (lstP p) && numP p)) ∧ Below w.heap.size w w' := by
  have KS0 := Lib.hid (fun W (b : Below w.heap.size w W) => risingR_any (h.names.later b))
  have KS1 := Lib.hid (fun W (b : Below w.heap.size w W) => risingR_any (h.curs.later b))
  have B0 := Lib.hid (allocBP w p.box)
  have TB := Lib.hid (p := BkP (w.alloc p.box) w.heap.size p.arr 27) (heapN _ _)
  have HP := Lib.hid h
  unfold Pg.agg
  unfold Pg.box at B0 TB
  unfold Pg.arr at TB
  clear h
  by_cases e0 : riseS p.names
  · by_cases e1 : riseS p.curs
    · by_cases e2 : p.names.length ≤ 64
      · by_cases e3 : p.curs.length ≤ 4096
        · by_cases e4 : p.pool.length ≤ 16384
          · have LN := Lib.hid (p := p.names.all capP = true → p.curs.all curP = true → riseN p.pool → lstP p) (fun z1 z2 z3 => ⟨e2, z1, e0, e3, z2, e1, e4, z3⟩)
            have LC := Lib.hid (p := p.names.all capP = false → (decide (lstP p) && numP p) = false) (fun z1 => by rw [decide_eq_false (fun z : lstP p => by rw [z.2.1] at z1; cases z1)]; rfl)
            have LU := Lib.hid (p := p.curs.all curP = false → (decide (lstP p) && numP p) = false) (fun z1 => by rw [decide_eq_false (fun z : lstP p => by rw [z.2.2.2.2.1] at z1; cases z1)]; rfl)
            have LP := Lib.hid (p := ¬ riseN p.pool → (decide (lstP p) && numP p) = false) (fun z1 => by rw [decide_eq_false (fun z : lstP p => z1 z.2.2.2.2.2.2.2)]; rfl)
            have LE := Lib.hid (p := lstP p → (decide (lstP p) && numP p) = numP p) (fun z1 => by rw [decide_eq_true z1]; rfl)
            have NR := Lib.hid HP.out.names.2.2.2.2
            have UR := Lib.hid HP.out.curs.2.2.2.2
            have PR := Lib.hid HP.out.pool.2.2.2.2
            have NS := Lib.hid HP.out.names.2.2.2.1
            have US := Lib.hid HP.out.curs.2.2.2.1
            simp only [decide_eq_true e0] at KS0
            simp only [decide_eq_true e1] at KS1
            have b2 : decide ((64 : Int) < (p.names.length : Int)) = false := decide_eq_false (by omega)
            have d2 : ¬ (64 : Int) < (p.names.length : Int) := by omega
            have b3 : decide ((4096 : Int) < (p.curs.length : Int)) = false := decide_eq_false (by omega)
            have d3 : ¬ (4096 : Int) < (p.curs.length : Int) := by omega
            have b4 : decide ((16384 : Int) < (p.pool.length : Int)) = false := decide_eq_false (by omega)
            have d4 : ¬ (16384 : Int) < (p.pool.length : Int) := by omega
            obtain ⟨na, nc, names, ua, uc, curs, pa, pc, pool, hor, cells, slots, stack, da, dc, days⟩ := p
            simp only at KS0 KS1 B0 TB b2 d2 b3 d3 b4 d4 LN LC LU LP LE NR UR PR NS US
            clear HP e0 e1 e2 e3 e4
            have M0 : True := trivial
            go_enter Tryz.func61, Tryz.ntmps61
            go_wp2_with (first
              | (go_at_call 92; have qq := M0; refine (KS0.out _ B0.out).mono ?_; rintro e w1 ⟨rfl, q1, rfl⟩; have B1 := Lib.hid (B0.out.trans ((drewBP _ q1).mono B0.out.size)); clear M0)
              | (go_at_call 92; refine (KS1.out _ B1.out).mono ?_; rintro e w2 ⟨rfl, q2, rfl⟩; have B2 := B1.out.trans ((drewBP _ q2).mono B1.out.size); rw [World.drewN_drewN] at B2; have B2 := Lib.hid B2; have T2 := TB.out.laterP (drewBP _ (q1 + q2)); have T2 := Lib.hid T2))
            clear KS0 KS1 TB B0 B1 b2 b3 b4
            go_loopw [5] (fun t wr => ∃ k : Nat, k ≤ names.length ∧ t = .int .i64 (k : Int) ∧ RowKit.Hid (∀ i, i < k → capP (names.getD i default) = true) ∧ Below w.heap.size w wr ∧ BkP wr w.heap.size #[.slice na names.length nc, .slice ua curs.length uc, .slice pa pool.length pc, .int .i64 hor, .int .i64 cells, .int .i64 slots, .int .i64 stack, .slice da days.length dc] 27) (fun t _ => names.length - (intOf t).toNat)
            case atStart => exact ⟨0, by omega, rfl, (fun i hi => absurd hi (by omega)), B2.out, T2.out⟩
            case round =>
              clear B2 T2
              rename World => wr
              obtain ⟨k, hk, rfl, hE, hB, hT⟩ := hrel
              have BB := Lib.hid hB
              have TT := Lib.hid hT
              obtain ⟨x0, x1, x2, x3, x4, x5, x6, _⟩ := box_all8 hT
              by_cases hlt : k < names.length
              · obtain ⟨x, o, rfl, _, hc⟩ := (NR.out.later hB).oneP (by omega)
                have c0 := hc k hlt 0 (by omega)
                simp only [Nat.mul_one, Nat.add_zero, List.getD_cons_zero] at c0
                have kc : (k : Int) < (names.length : Int) := by omega
                have KC := Lib.hid (rcapitalName_any (names.getD k default) wr (by have := NS.out _ (tx_mem hlt); omega))
                have NX := Lib.hid (p := capP (names.getD k default) = true → ∀ i, i < k + 1 → capP (names.getD i default) = true) (fun e i hi => by
                  rcases (show i < k ∨ i = k by omega) with r | r
                  · exact hE.out i r
                  · rw [r]; exact e)
                have NA := Lib.hid (p := capP (names.getD k default) = false → names.all capP = false) (fun e => not_all hlt e)
                clear hc hE hB hT
                change Hid (Calls Tryz.prog 87 #[.string (names.getD k default)] wr fun e w' => e = .returned (.bool (capP (names.getD k default))) ∧ Below wr.heap.size wr w') at KC
                generalize names.getD k default = z at *
                cases hb : capP z with
                | true =>
                  rw [hb] at KC NX
                  go_wp2_with (go_at_call 87; refine KC.out.mono ?_; rintro e w3 ⟨rfl, h2⟩; have B3 := Lib.hid (BB.out.trans (h2.mono BB.out.size)); have T3 := Lib.hid (TT.out.laterP h2); clear h2)
                  go_roundw
                  case rel => exact ⟨k + 1, by omega, by go_num, NX.out (by first | rfl | trivial), B3.out, T3.out⟩
                  case measure => simp [intOf]; omega
                | false =>
                  rw [hb] at KC NA
                  go_wp2_with (go_at_call 87; refine KC.out.mono ?_; rintro e w3 ⟨rfl, h2⟩; have B3 := Lib.hid (BB.out.trans (h2.mono BB.out.size)); clear h2)
                  go_ret
                  exact ⟨retBP (LC.out (NA.out (by first | rfl | trivial))).symm, B3.out⟩
              · obtain rfl : k = names.length := by omega
                have AN := Lib.hid (p := names.all capP = true) (all_of (fun i hi => hE.out i hi))
                clear hE hB hT
                go_wp2
                go_loopw [7] (fun t wr => ∃ k : Nat, k ≤ curs.length ∧ t = .int .i64 (k : Int) ∧ RowKit.Hid (∀ i, i < k → curP (curs.getD i default) = true) ∧ Below w.heap.size w wr ∧ BkP wr w.heap.size #[.slice na names.length nc, .slice ua curs.length uc, .slice pa pool.length pc, .int .i64 hor, .int .i64 cells, .int .i64 slots, .int .i64 stack, .slice da days.length dc] 27) (fun t _ => curs.length - (intOf t).toNat)
                case atStart => exact ⟨0, by omega, rfl, (fun i hi => absurd hi (by omega)), BB.out, TT.out⟩
                case round =>
                  clear BB TT x0 x1 x2 x3 x4 x5 x6
                  rename World => ws
                  obtain ⟨k, hk, rfl, hE, hB, hT⟩ := hrel
                  have BB := Lib.hid hB
                  have TT := Lib.hid hT
                  obtain ⟨x0, x1, x2, x3, x4, x5, x6, _⟩ := box_all8 hT
                  by_cases hlt : k < curs.length
                  · obtain ⟨x, o, rfl, _, hc⟩ := (UR.out.later hB).oneP (by omega)
                    have c0 := hc k hlt 0 (by omega)
                    simp only [Nat.mul_one, Nat.add_zero, List.getD_cons_zero] at c0
                    have kc : (k : Int) < (curs.length : Int) := by omega
                    have KC := Lib.hid (rcurrency_any (curs.getD k default) ws)
                    have NX := Lib.hid (p := curP (curs.getD k default) = true → ∀ i, i < k + 1 → curP (curs.getD i default) = true) (fun e i hi => by
                      rcases (show i < k ∨ i = k by omega) with r | r
                      · exact hE.out i r
                      · rw [r]; exact e)
                    have NA := Lib.hid (p := curP (curs.getD k default) = false → curs.all curP = false) (fun e => not_all hlt e)
                    clear hc hE hB hT
                    change Hid (Calls Tryz.prog 88 #[.string (curs.getD k default)] ws fun e w' => e = .returned (.bool (curP (curs.getD k default))) ∧ w' = ws) at KC
                    generalize curs.getD k default = z at *
                    cases hb : curP z with
                    | true =>
                      rw [hb] at KC NX
                      go_wp2_with (go_at_call 88; refine KC.out.mono ?_; rintro e w3 ⟨rfl, h2⟩; subst h2)
                      go_roundw
                      case rel => exact ⟨k + 1, by omega, by go_num, NX.out (by first | rfl | trivial), BB.out, TT.out⟩
                      case measure => simp [intOf]; omega
                    | false =>
                      rw [hb] at KC NA
                      go_wp2_with (go_at_call 88; refine KC.out.mono ?_; rintro e w3 ⟨rfl, h2⟩; subst h2)
                      go_ret
                      exact ⟨retBP (LU.out (NA.out (by first | rfl | trivial))).symm, BB.out⟩
                  · obtain rfl : k = curs.length := by omega
                    have AU := Lib.hid (p := curs.all curP = true) (all_of (fun i hi => hE.out i hi))
                    clear hE hB hT
                    have PW := Lib.hid (PR.out.later BB.out)
                    clear NR UR PR NS US
                    go_wp2
                    go_loopw [9] (fun t wr => ∃ k : Nat, 1 ≤ k ∧ (k ≤ pool.length ∨ k = 1) ∧ t = .int .i64 (k : Int) ∧ RowKit.Hid (∀ i, i + 1 < k → i + 1 < pool.length → pool.getD i 0 < pool.getD (i + 1) 0) ∧ ∃ q, wr = ws.drewN q) (fun t _ => pool.length - (intOf t).toNat)
                    case atStart => exact ⟨1, by omega, by omega, rfl, (fun i hi => absurd hi (by omega)), 0, rfl⟩
                    case round =>
                      obtain ⟨k, hk1, hk, rfl, hE, q, rfl⟩ := hrel
                      by_cases hlt : k < pool.length
                      · obtain ⟨x, o, rfl, _, hc⟩ := PW.out.oneP (by omega)
                        obtain ⟨j, hj⟩ : ∃ j, k = j + 1 := ⟨k - 1, by omega⟩
                        have HJ := Lib.hid hj
                        have c0 := hc k hlt 0 (by omega)
                        have c1 := hc j (by omega) 0 (by omega)
                        simp only [Nat.mul_one, Nat.add_zero, List.getD_cons_zero] at c0 c1
                        have kc : (k : Int) < (pool.length : Int) := by omega
                        have kw : IntKind.i64.wrap ((k : Int) - 1) = (j : Int) := by simp [IntKind.wrap, IntKind.bits, IntKind.signed]; omega
                        have kj : (j : Int) < (pool.length : Int) := by omega
                        clear hc hj
                        by_cases e : pool.getD j 0 < pool.getD k 0
                        · have NX := Lib.hid (p := ∀ i, i + 1 < k + 1 → i + 1 < pool.length → pool.getD i 0 < pool.getD (i + 1) 0) (fun i hi hi2 => by
                            rcases (show i + 1 < k ∨ i + 1 = k by omega) with r | r
                            · exact hE.out i r hi2
                            · have r2 : i = j := by have := HJ.out; omega
                              rw [r, r2]; exact e)
                          have f1 : ¬ pool.getD k 0 ≤ pool.getD j 0 := by omega
                          have f2 : decide (pool.getD k 0 ≤ pool.getD j 0) = false := decide_eq_false f1
                          generalize pool.getD k 0 = y at *
                          generalize pool.getD j 0 = z at *
                          clear e hE
                          go_wp2
                          go_quiet (fail)
                          go_wp2
                          go_roundw
                          case rel => exact ⟨k + 1, by omega, by omega, by go_num, NX.out, _, by first | rfl | exact World.drewN_drewN _ _ _⟩
                          case measure => simp [intOf]; omega
                        · have RR := Lib.hid (LP.out (fun q => by have hq := q j (by rw [← HJ.out]; exact hlt); rw [← HJ.out] at hq; exact e hq))
                          have f1 : pool.getD k 0 ≤ pool.getD j 0 := by omega
                          have f2 : decide (pool.getD k 0 ≤ pool.getD j 0) = true := decide_eq_true f1
                          generalize pool.getD k 0 = y at *
                          generalize pool.getD j 0 = z at *
                          clear e hE
                          go_wp2
                          go_quiet (fail)
                          go_wp2
                          go_ret
                          exact ⟨retBP RR.out.symm, by first | exact bel_dr BB.out _ | exact bel_dr (bel_dr BB.out _) _⟩
                      · have kc : ¬ (k : Int) < (pool.length : Int) := by omega
                        have LR := Lib.hid (LE.out (LN.out AN.out AU.out (fun i hi => hE.out i (by omega) hi)))
                        clear hE
                        have K0 := Lib.hid (withinR_any hor 3660 (ws.drewN q))
                        have K1 := Lib.hid (withinR_any cells 32768 (ws.drewN q))
                        have K2 := Lib.hid (withinR_any slots 16384 (ws.drewN q))
                        have K3 := Lib.hid (withinR_any stack 16384 (ws.drewN q))
                        have NP := Lib.hid (p := numP ⟨na, nc, names, ua, uc, curs, pa, pc, pool, hor, cells, slots, stack, da, dc, days⟩ = (wB hor 3660 && wB cells 32768 && wB slots 16384 && wB stack 16384)) rfl
                        change Hid (Calls Tryz.prog 63 #[.int .i64 hor, .int .i64 3660] (ws.drewN q) fun e w' => e = .returned (.bool (wB hor 3660)) ∧ w' = ws.drewN q) at K0
                        change Hid (Calls Tryz.prog 63 #[.int .i64 cells, .int .i64 32768] (ws.drewN q) fun e w' => e = .returned (.bool (wB cells 32768)) ∧ w' = ws.drewN q) at K1
                        change Hid (Calls Tryz.prog 63 #[.int .i64 slots, .int .i64 16384] (ws.drewN q) fun e w' => e = .returned (.bool (wB slots 16384)) ∧ w' = ws.drewN q) at K2
                        change Hid (Calls Tryz.prog 63 #[.int .i64 stack, .int .i64 16384] (ws.drewN q) fun e w' => e = .returned (.bool (wB stack 16384)) ∧ w' = ws.drewN q) at K3
                        generalize wB hor 3660 = b0 at *
                        generalize wB cells 32768 = b1 at *
                        generalize wB slots 16384 = b2 at *
                        generalize wB stack 16384 = b3 at *
                        have M1 : True := trivial
                        have M2 : True := trivial
                        have M3 : True := trivial
                        cases b0 <;> cases b1 <;> cases b2 <;> cases b3
                        all_goals
                          go_wp2_with (first
                            | (go_at_call 63; have qq := M1; refine K0.out.mono ?_; rintro e w3 ⟨rfl, h2⟩; subst h2; clear M1)
                            | (go_at_call 63; have qq := M2; refine K1.out.mono ?_; rintro e w4 ⟨rfl, h2⟩; subst h2; clear M2)
                            | (go_at_call 63; have qq := M3; refine K2.out.mono ?_; rintro e w5 ⟨rfl, h2⟩; subst h2; clear M3)
                            | (go_at_call 63; refine K3.out.mono ?_; rintro e w6 ⟨rfl, h2⟩; subst h2))
                          go_ret
                          exact ⟨retBP (by rw [LR.out, NP.out]; rfl), bel_dr BB.out _⟩
          · have R := Lib.hid (p := (decide (lstP p) && numP p) = false) (by rw [decide_eq_false (fun z : lstP p => e4 z.2.2.2.2.2.2.1)]; rfl)
            simp only [decide_eq_true e0] at KS0
            simp only [decide_eq_true e1] at KS1
            have b2 : decide ((64 : Int) < (p.names.length : Int)) = false := decide_eq_false (by omega)
            have d2 : ¬ (64 : Int) < (p.names.length : Int) := by omega
            have b3 : decide ((4096 : Int) < (p.curs.length : Int)) = false := decide_eq_false (by omega)
            have d3 : ¬ (4096 : Int) < (p.curs.length : Int) := by omega
            have b4 : decide ((16384 : Int) < (p.pool.length : Int)) = true := decide_eq_true (by omega)
            have d4 : (16384 : Int) < (p.pool.length : Int) := by omega
            obtain ⟨na, nc, names, ua, uc, curs, pa, pc, pool, hor, cells, slots, stack, da, dc, days⟩ := p
            simp only at KS0 KS1 B0 TB R b2 d2 b3 d3 b4 d4
            clear HP e0 e1 e2 e3 e4
            have M0 : True := trivial
            go_enter Tryz.func61, Tryz.ntmps61
            go_wp2_with (first
              | (go_at_call 92; have qq := M0; refine (KS0.out _ B0.out).mono ?_; rintro e w1 ⟨rfl, q1, rfl⟩; have B1 := Lib.hid (B0.out.trans ((drewBP _ q1).mono B0.out.size)); clear M0)
              | (go_at_call 92; refine (KS1.out _ B1.out).mono ?_; rintro e w2 ⟨rfl, q2, rfl⟩; have B2 := B1.out.trans ((drewBP _ q2).mono B1.out.size); rw [World.drewN_drewN] at B2; have B2 := Lib.hid B2; have T2 := TB.out.laterP (drewBP _ (q1 + q2)); have T2 := Lib.hid T2))
            go_ret
            exact ⟨retBP R.out.symm, B2.out⟩
        · have R := Lib.hid (p := (decide (lstP p) && numP p) = false) (by rw [decide_eq_false (fun z : lstP p => e3 z.2.2.2.1)]; rfl)
          simp only [decide_eq_true e0] at KS0
          simp only [decide_eq_true e1] at KS1
          have b2 : decide ((64 : Int) < (p.names.length : Int)) = false := decide_eq_false (by omega)
          have d2 : ¬ (64 : Int) < (p.names.length : Int) := by omega
          have b3 : decide ((4096 : Int) < (p.curs.length : Int)) = true := decide_eq_true (by omega)
          have d3 : (4096 : Int) < (p.curs.length : Int) := by omega
          obtain ⟨na, nc, names, ua, uc, curs, pa, pc, pool, hor, cells, slots, stack, da, dc, days⟩ := p
          simp only at KS0 KS1 B0 TB R b2 d2 b3 d3
          clear HP e0 e1 e2 e3
          have M0 : True := trivial
          go_enter Tryz.func61, Tryz.ntmps61
          go_wp2_with (first
            | (go_at_call 92; have qq := M0; refine (KS0.out _ B0.out).mono ?_; rintro e w1 ⟨rfl, q1, rfl⟩; have B1 := Lib.hid (B0.out.trans ((drewBP _ q1).mono B0.out.size)); clear M0)
            | (go_at_call 92; refine (KS1.out _ B1.out).mono ?_; rintro e w2 ⟨rfl, q2, rfl⟩; have B2 := B1.out.trans ((drewBP _ q2).mono B1.out.size); rw [World.drewN_drewN] at B2; have B2 := Lib.hid B2; have T2 := TB.out.laterP (drewBP _ (q1 + q2)); have T2 := Lib.hid T2))
          go_ret
          exact ⟨retBP R.out.symm, B2.out⟩
      · have R := Lib.hid (p := (decide (lstP p) && numP p) = false) (by rw [decide_eq_false (fun z : lstP p => e2 z.1)]; rfl)
        simp only [decide_eq_true e0] at KS0
        simp only [decide_eq_true e1] at KS1
        have b2 : decide ((64 : Int) < (p.names.length : Int)) = true := decide_eq_true (by omega)
        have d2 : (64 : Int) < (p.names.length : Int) := by omega
        obtain ⟨na, nc, names, ua, uc, curs, pa, pc, pool, hor, cells, slots, stack, da, dc, days⟩ := p
        simp only at KS0 KS1 B0 TB R b2 d2
        clear HP e0 e1 e2
        have M0 : True := trivial
        go_enter Tryz.func61, Tryz.ntmps61
        go_wp2_with (first
          | (go_at_call 92; have qq := M0; refine (KS0.out _ B0.out).mono ?_; rintro e w1 ⟨rfl, q1, rfl⟩; have B1 := Lib.hid (B0.out.trans ((drewBP _ q1).mono B0.out.size)); clear M0)
          | (go_at_call 92; refine (KS1.out _ B1.out).mono ?_; rintro e w2 ⟨rfl, q2, rfl⟩; have B2 := B1.out.trans ((drewBP _ q2).mono B1.out.size); rw [World.drewN_drewN] at B2; have B2 := Lib.hid B2; have T2 := TB.out.laterP (drewBP _ (q1 + q2)); have T2 := Lib.hid T2))
        go_ret
        exact ⟨retBP R.out.symm, B2.out⟩
    · have R := Lib.hid (p := (decide (lstP p) && numP p) = false) (by rw [decide_eq_false (fun z : lstP p => e1 z.2.2.2.2.2.1)]; rfl)
      simp only [decide_eq_true e0] at KS0
      simp only [decide_eq_false e1] at KS1
      obtain ⟨na, nc, names, ua, uc, curs, pa, pc, pool, hor, cells, slots, stack, da, dc, days⟩ := p
      simp only at KS0 KS1 B0 TB R 
      clear HP e0 e1
      have M0 : True := trivial
      go_enter Tryz.func61, Tryz.ntmps61
      go_wp2_with (first
        | (go_at_call 92; have qq := M0; refine (KS0.out _ B0.out).mono ?_; rintro e w1 ⟨rfl, q1, rfl⟩; have B1 := Lib.hid (B0.out.trans ((drewBP _ q1).mono B0.out.size)); clear M0)
        | (go_at_call 92; refine (KS1.out _ B1.out).mono ?_; rintro e w2 ⟨rfl, q2, rfl⟩; have B2 := B1.out.trans ((drewBP _ q2).mono B1.out.size); rw [World.drewN_drewN] at B2; have B2 := Lib.hid B2; have T2 := TB.out.laterP (drewBP _ (q1 + q2)); have T2 := Lib.hid T2))
      go_ret
      exact ⟨retBP R.out.symm, B2.out⟩
  · have R := Lib.hid (p := (decide (lstP p) && numP p) = false) (by rw [decide_eq_false (fun z : lstP p => e0 z.2.2.1)]; rfl)
    simp only [decide_eq_false e0] at KS0
    obtain ⟨na, nc, names, ua, uc, curs, pa, pc, pool, hor, cells, slots, stack, da, dc, days⟩ := p
    simp only at KS0 KS1 B0 TB R 
    clear HP e0
    have M0 : True := trivial
    go_enter Tryz.func61, Tryz.ntmps61
    go_wp2_with (first
      | (go_at_call 92; have qq := M0; refine (KS0.out _ B0.out).mono ?_; rintro e w1 ⟨rfl, q1, rfl⟩; have B1 := Lib.hid (B0.out.trans ((drewBP _ q1).mono B0.out.size)); clear M0)
      | (go_at_call 92; refine (KS1.out _ B1.out).mono ?_; rintro e w2 ⟨rfl, q2, rfl⟩; have B2 := B1.out.trans ((drewBP _ q2).mono B1.out.size); rw [World.drewN_drewN] at B2; have B2 := Lib.hid B2; have T2 := TB.out.laterP (drewBP _ (q1 + q2)); have T2 := Lib.hid T2))
    go_ret
    exact ⟨retBP R.out.symm, B2.out⟩
end Go.Proofs.YtccjeipkljdhdaaGreatDoor
