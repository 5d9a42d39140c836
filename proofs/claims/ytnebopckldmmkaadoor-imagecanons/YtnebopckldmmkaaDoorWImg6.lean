/-
  WALK: the law's own (made by gen_wimg6.py).
-/
import Derived.Test.YtnebopckldmmkaaDoorWImg7
namespace Go.Proofs.YtnebopckldmmkaaDoor
open Go.RowKit
set_option linter.unusedVariables false
set_option linter.unusedSimpArgs false
set_option maxRecDepth 100000 in
set_option maxHeartbeats 40000000 in
theorem own_any {w : World} {p : Pg} (h : PV w p) :
    Calls Tryd.prog 4 #[p.agg] w fun e w' => ∃ q : Pg, e = .returned q.agg ∧ OwnE w' p q ∧ Below w.heap.size w w' := by
  have SS0 := Lib.hid (os_start w p)
  obtain ⟨iS, hiS, hziS0, hziS1, hziS2⟩ := info_parts infoPS
  obtain ⟨iN, hiN, hziN0, hziN1, hziN2⟩ := info_parts infoPN
  obtain ⟨iI, hiI, hziI0, hziI1, hziI2⟩ := info_parts infoPI
  obtain ⟨iG, hiG, hziG0, hziG1, hziG2⟩ := info_parts infoPG
  have HP := Lib.hid h
  clear h
  obtain ⟨na, nc, names, ua, uc, curs, pa, pc, pool, hor, cells, slots, stack, da, dc, days⟩ := p
  unfold Pg.agg
  unfold Pg.arr pz at SS0
  simp only at SS0 ⊢
  go_enter Tryd.func4, Tryd.ntmps4
  go_upto_if 13 with fail
  generalize hW : World.alloc _ _ = W0 at *
  clear hW
  go_cut [4] (fun l wx => ∃ na' nc' L1, OS w wx ⟨na, nc, names, ua, uc, curs, pa, pc, pool, hor, cells, slots, stack, da, dc, days⟩ #[.slice na' names.length nc', .slice ua curs.length uc, .slice pa pool.length pc, .int .i64 hor, .int .i64 cells, .int .i64 slots, .int .i64 stack, .slice da days.length dc] L1 ∧ Mk na na' nc' names.length 9 1 (strsP names ++ [bhV]) L1)
  case first =>
    have HN := HP.out.names
    simp only at HN
    rcases na with _ | x
    · obtain ⟨e1, e2⟩ := HN.1.1 rfl
      clear HN
      go_wp2
      go_meet
      case rel => exact ⟨none, nc, [], SS0.out, .inl ⟨rfl, rfl, e2, e1⟩⟩
    · have nb := HN.2.2.1
      have MK := make_str names.length (by omega)
      have NW := Lib.hid (fun W (b : Below w.heap.size w W) => sr_news (HN.later b))
      have ST := Lib.hid (p := ∀ u ∈ strsP names, u.oneCell' = true) (by intro u hu; obtain ⟨z, _, rfl⟩ := List.mem_map.1 hu; rfl)
      have SL := Lib.hid (p := (strsP names).length = names.length * 1) (by simp [strsP])
      have kw : IntKind.i64.wrap ((names.length : Int) + 1) = (names.length : Int) + 1 := by simp [IntKind.wrap, IntKind.bits, IntKind.signed]; omega
      have S1 := Lib.hid (SS0.out.alloc (.cells (madeCells #[.string ⟨#[]⟩] (names.length + 1)) 9)).drew
      have O1 := Lib.hid (p := (W0.alloc (.cells (madeCells #[.string ⟨#[]⟩] (names.length + 1)) 9)).drew.ownsRow W0.heap.size 9 1 (.slice (some ⟨W0.heap.size, 0, none⟩) 0 (names.length + 1)) 0 []) (by
        have := made_rowP W0 W0.heap.size (Nat.le_refl _) 9 #[.string ⟨#[]⟩] 1 (names.length + 1) rfl (by omega) (by unfold maxLen; omega)
        rw [Nat.mul_one] at this
        exact row_farP this (gr_below (drew1B _) none) (fun k q e => by cases e))
      have y0 := SS0.out.b0.cell 0
      have y1 := S1.out.b0.cell 0
      simp [Pg.arr] at y0 y1
      have NL := Lib.hid (p := names.length + 1 ≤ maxLen ∧ (names.length + 1) * 16 ≤ 140737488355328) (by unfold maxLen; omega)
      have S0z := Lib.hid SS0.out.sz
      clear HN nb
      go_wp2
      go_region_law (refine step_appG _ rfl _ _ 22 rfl W0.heap.size 9 iS _ 1 16 Tryd.underlying22 hiS hziS0 hziS1 hziS2 rfl (by decide) _ 0 [] rfl O1.out x names.length nc (strsP names) rfl SL.out (NW.out _ S1.out.bel) ST.out (by have := NL.out; omega) (by have := NL.out; omega) (by simp) ?_; intro v2 w2 k1 k2 k3; rw [Nat.zero_add, List.nil_append] at k1; obtain ⟨g2, c2, rfl, _, _, _⟩ := row_someP k1 (fun e => by have := (k3.1 e).1; cases this); have O2 := Lib.hid k1; have B2 := Lib.hid (show Below W0.heap.size W0 w2 from ((allocBP W0 _).drew).grown k2 (by simp) (fun k e => Nat.le_of_eq (Option.some.inj e))); clear k1 k2 k3)
      all_goals
        go_wp2_with (at_builtin; refine wpList_append_own_at _ rfl _ _ 22 rfl W0.heap.size 9 iS _ 1 16 Tryd.underlying22 hiS hziS0 hziS1 hziS2 rfl (by decide) _ names.length (strsP names) rfl (O2.out.alloc _) ⟨w2.heap.size, 0, none⟩ 1 1 [bhV] rfl rfl (cell_one_new w2 _ _) (by intro u hu; simp at hu; subst hu; rfl) NL.out.1 NL.out.2 (Nat.le_trans B2.out.size (by simp)) ?_; intro v3 w3 k1 k2 k3 k4; obtain ⟨g3, c3, rfl, e3, _, _⟩ := row_someP k1 (fun e => by have := (k3.1 e).1; cases this); have e4 : names.length ≤ c3 := (by omega); have B3 := Lib.hid (show Below W0.heap.size W0 w3 from (B2.out.alloc B2.out.size _).grown k2 (Nat.le_trans B2.out.size (by simp)) (fun k e => (O2.out.lt k e).1)); have O3 := Lib.hid k1; have S3 := Lib.hid (SS0.out.later B3.out); have y3 := S3.out.b0.cell 0; have y4 := S3.out.b2.cell 0; have y5 := S3.out.b2.frozen 0; simp [Pg.arr] at y3 y4; clear k1 k2 k3 k4 y0 y1)
        go_meet
        case rel => exact ⟨some ⟨g3, 0, none⟩, c3, ⟨W0.heap.size, w3.heap.size, 9, 1, .slice (some ⟨g3, 0, none⟩) (names.length + 1) c3, names.length + 1, strsP names ++ [bhV]⟩ :: [], (S3.out.add _ ⟨O3.out, fun b e => (O3.out.lt b e).2⟩ S0z.out (Nat.le_refl _)).setQ 0 (by simp) _, .inr ⟨by simp, g3, _, _, rfl, List.mem_cons_self⟩⟩
  case rest =>
    obtain ⟨na', nc', L1, h1, M1⟩ := hcut
    have SS1 := Lib.hid h1
    have MM1 := Lib.hid M1
    have c1 := h1.b0.cell 1
    simp [Pg.arr] at c1
    clear h1 M1 SS0
    go_upto_if 33 with fail
    go_cut [5] (fun l wx => ∃ ua' uc' L1, OS w wx ⟨na, nc, names, ua, uc, curs, pa, pc, pool, hor, cells, slots, stack, da, dc, days⟩ #[.slice na' names.length nc', .slice ua' curs.length uc', .slice pa pool.length pc, .int .i64 hor, .int .i64 cells, .int .i64 slots, .int .i64 stack, .slice da days.length dc] L1 ∧ Mk ua ua' uc' curs.length 9 1 (strsP curs ++ [bhV]) L1 ∧ Mk na na' nc' names.length 9 1 (strsP names ++ [bhV]) L1)
    case first =>
      have HN := HP.out.curs
      simp only at HN
      rcases ua with _ | x
      · obtain ⟨e1, e2⟩ := HN.1.1 rfl
        clear HN
        go_wp2
        go_meet
        case rel => exact ⟨none, uc, L1, SS1.out, .inl ⟨rfl, rfl, e2, e1⟩, MM1.out⟩
      · have nb := HN.2.2.1
        have MK := make_str curs.length (by omega)
        have NW := Lib.hid (fun W (b : Below w.heap.size w W) => sr_news (HN.later b))
        have ST := Lib.hid (p := ∀ u ∈ strsP curs, u.oneCell' = true) (by intro u hu; obtain ⟨z, _, rfl⟩ := List.mem_map.1 hu; rfl)
        have SL := Lib.hid (p := (strsP curs).length = curs.length * 1) (by simp [strsP])
        have kw : IntKind.i64.wrap ((curs.length : Int) + 1) = (curs.length : Int) + 1 := by simp [IntKind.wrap, IntKind.bits, IntKind.signed]; omega
        have S1 := Lib.hid (SS1.out.alloc (.cells (madeCells #[.string ⟨#[]⟩] (curs.length + 1)) 9)).drew
        have O1 := Lib.hid (p := (wc.alloc (.cells (madeCells #[.string ⟨#[]⟩] (curs.length + 1)) 9)).drew.ownsRow wc.heap.size 9 1 (.slice (some ⟨wc.heap.size, 0, none⟩) 0 (curs.length + 1)) 0 []) (by
          have := made_rowP wc wc.heap.size (Nat.le_refl _) 9 #[.string ⟨#[]⟩] 1 (curs.length + 1) rfl (by omega) (by unfold maxLen; omega)
          rw [Nat.mul_one] at this
          exact row_farP this (gr_below (drew1B _) none) (fun k q e => by cases e))
        have y0 := SS1.out.b0.cell 1
        have y1 := S1.out.b0.cell 1
        simp [Pg.arr] at y0 y1
        have NL := Lib.hid (p := curs.length + 1 ≤ maxLen ∧ (curs.length + 1) * 16 ≤ 140737488355328) (by unfold maxLen; omega)
        have S0z := Lib.hid SS1.out.sz
        clear HN nb
        go_wp2
        go_region_law (refine step_appG _ rfl _ _ 22 rfl wc.heap.size 9 iS _ 1 16 Tryd.underlying22 hiS hziS0 hziS1 hziS2 rfl (by decide) _ 0 [] rfl O1.out x curs.length uc (strsP curs) rfl SL.out (NW.out _ S1.out.bel) ST.out (by have := NL.out; omega) (by have := NL.out; omega) (by simp) ?_; intro v2 w2 k1 k2 k3; rw [Nat.zero_add, List.nil_append] at k1; obtain ⟨g2, c2, rfl, _, _, _⟩ := row_someP k1 (fun e => by have := (k3.1 e).1; cases this); have O2 := Lib.hid k1; have B2 := Lib.hid (show Below wc.heap.size wc w2 from ((allocBP wc _).drew).grown k2 (by simp) (fun k e => Nat.le_of_eq (Option.some.inj e))); clear k1 k2 k3)
        all_goals
          go_wp2_with (at_builtin; refine wpList_append_own_at _ rfl _ _ 22 rfl wc.heap.size 9 iS _ 1 16 Tryd.underlying22 hiS hziS0 hziS1 hziS2 rfl (by decide) _ curs.length (strsP curs) rfl (O2.out.alloc _) ⟨w2.heap.size, 0, none⟩ 1 1 [bhV] rfl rfl (cell_one_new w2 _ _) (by intro u hu; simp at hu; subst hu; rfl) NL.out.1 NL.out.2 (Nat.le_trans B2.out.size (by simp)) ?_; intro v3 w3 k1 k2 k3 k4; obtain ⟨g3, c3, rfl, e3, _, _⟩ := row_someP k1 (fun e => by have := (k3.1 e).1; cases this); have e4 : curs.length ≤ c3 := (by omega); have B3 := Lib.hid (show Below wc.heap.size wc w3 from (B2.out.alloc B2.out.size _).grown k2 (Nat.le_trans B2.out.size (by simp)) (fun k e => (O2.out.lt k e).1)); have O3 := Lib.hid k1; have S3 := Lib.hid (SS1.out.later B3.out); have y3 := S3.out.b0.cell 1; have y4 := S3.out.b2.cell 1; have y5 := S3.out.b2.frozen 1; simp [Pg.arr] at y3 y4; clear k1 k2 k3 k4 y0 y1)
          go_meet
          case rel => exact ⟨some ⟨g3, 0, none⟩, c3, ⟨wc.heap.size, w3.heap.size, 9, 1, .slice (some ⟨g3, 0, none⟩) (curs.length + 1) c3, curs.length + 1, strsP curs ++ [bhV]⟩ :: L1, (S3.out.add _ ⟨O3.out, fun b e => (O3.out.lt b e).2⟩ S0z.out (Nat.le_refl _)).setQ 1 (by simp) _, .inr ⟨by simp, g3, _, _, rfl, List.mem_cons_self⟩, mk_more MM1.out⟩
    case rest =>
      obtain ⟨ua', uc', L2, h2, M2, M1⟩ := hcut
      have SS2 := Lib.hid h2
      have MM2 := Lib.hid M2
      have MM1 := Lib.hid M1
      have c2 := h2.b0.cell 2
      simp [Pg.arr] at c2
      clear h2 M2 M1 SS1 c1
      go_upto_if 53 with fail
      go_cut [6] (fun l wx => ∃ pa' pc' L1, OS w wx ⟨na, nc, names, ua, uc, curs, pa, pc, pool, hor, cells, slots, stack, da, dc, days⟩ #[.slice na' names.length nc', .slice ua' curs.length uc', .slice pa' pool.length pc', .int .i64 hor, .int .i64 cells, .int .i64 slots, .int .i64 stack, .slice da days.length dc] L1 ∧ Mk pa pa' pc' pool.length 3 1 (intsP pool ++ [.int .i64 (-4711)]) L1 ∧ Mk ua ua' uc' curs.length 9 1 (strsP curs ++ [bhV]) L1 ∧ Mk na na' nc' names.length 9 1 (strsP names ++ [bhV]) L1)
      case first =>
        have HN := HP.out.pool
        simp only at HN
        rcases pa with _ | x
        · obtain ⟨e1, e2⟩ := HN.1.1 rfl
          clear HN
          go_wp2
          go_meet
          case rel => exact ⟨none, pc, L2, SS2.out, .inl ⟨rfl, rfl, e2, e1⟩, MM2.out, MM1.out⟩
        · have nb := HN.2.2.1
          have MK := make_int pool.length (by omega)
          have NW := Lib.hid (fun W (b : Below w.heap.size w W) => nr_news (HN.later b))
          have ST := Lib.hid (p := ∀ u ∈ intsP pool, u.oneCell' = true) (by intro u hu; obtain ⟨z, _, rfl⟩ := List.mem_map.1 hu; rfl)
          have SL := Lib.hid (p := (intsP pool).length = pool.length * 1) (by simp [intsP])
          have kw : IntKind.i64.wrap ((pool.length : Int) + 1) = (pool.length : Int) + 1 := by simp [IntKind.wrap, IntKind.bits, IntKind.signed]; omega
          have S1 := Lib.hid (SS2.out.alloc (.cells (madeCells #[.int .i64 0] (pool.length + 1)) 3)).drew
          have O1 := Lib.hid (p := (wc.alloc (.cells (madeCells #[.int .i64 0] (pool.length + 1)) 3)).drew.ownsRow wc.heap.size 3 1 (.slice (some ⟨wc.heap.size, 0, none⟩) 0 (pool.length + 1)) 0 []) (by
            have := made_rowP wc wc.heap.size (Nat.le_refl _) 3 #[.int .i64 0] 1 (pool.length + 1) rfl (by omega) (by unfold maxLen; omega)
            rw [Nat.mul_one] at this
            exact row_farP this (gr_below (drew1B _) none) (fun k q e => by cases e))
          have y0 := SS2.out.b0.cell 2
          have y1 := S1.out.b0.cell 2
          simp [Pg.arr] at y0 y1
          have NL := Lib.hid (p := pool.length + 1 ≤ maxLen ∧ (pool.length + 1) * 8 ≤ 140737488355328) (by unfold maxLen; omega)
          have S0z := Lib.hid SS2.out.sz
          clear HN nb
          go_wp2
          go_region_law (refine step_appG _ rfl _ _ 23 rfl wc.heap.size 3 iN _ 1 8 Tryd.underlying23 hiN hziN0 hziN1 hziN2 rfl (by decide) _ 0 [] rfl O1.out x pool.length pc (intsP pool) rfl SL.out (NW.out _ S1.out.bel) ST.out (by have := NL.out; omega) (by have := NL.out; omega) (by simp) ?_; intro v2 w2 k1 k2 k3; rw [Nat.zero_add, List.nil_append] at k1; obtain ⟨g2, c2, rfl, _, _, _⟩ := row_someP k1 (fun e => by have := (k3.1 e).1; cases this); have O2 := Lib.hid k1; have B2 := Lib.hid (show Below wc.heap.size wc w2 from ((allocBP wc _).drew).grown k2 (by simp) (fun k e => Nat.le_of_eq (Option.some.inj e))); clear k1 k2 k3)
          all_goals
            go_wp2_with (at_builtin; refine wpList_append_own_at _ rfl _ _ 23 rfl wc.heap.size 3 iN _ 1 8 Tryd.underlying23 hiN hziN0 hziN1 hziN2 rfl (by decide) _ pool.length (intsP pool) rfl (O2.out.alloc _) ⟨w2.heap.size, 0, none⟩ 1 1 [.int .i64 (-4711)] rfl rfl (cell_one_new w2 _ _) (by intro u hu; simp at hu; subst hu; rfl) NL.out.1 NL.out.2 (Nat.le_trans B2.out.size (by simp)) ?_; intro v3 w3 k1 k2 k3 k4; obtain ⟨g3, c3, rfl, e3, _, _⟩ := row_someP k1 (fun e => by have := (k3.1 e).1; cases this); have e4 : pool.length ≤ c3 := (by omega); have B3 := Lib.hid (show Below wc.heap.size wc w3 from (B2.out.alloc B2.out.size _).grown k2 (Nat.le_trans B2.out.size (by simp)) (fun k e => (O2.out.lt k e).1)); have O3 := Lib.hid k1; have S3 := Lib.hid (SS2.out.later B3.out); have y3 := S3.out.b0.cell 2; have y4 := S3.out.b2.cell 2; have y5 := S3.out.b2.frozen 2; simp [Pg.arr] at y3 y4; clear k1 k2 k3 k4 y0 y1)
            go_meet
            case rel => exact ⟨some ⟨g3, 0, none⟩, c3, ⟨wc.heap.size, w3.heap.size, 3, 1, .slice (some ⟨g3, 0, none⟩) (pool.length + 1) c3, pool.length + 1, intsP pool ++ [.int .i64 (-4711)]⟩ :: L2, (S3.out.add _ ⟨O3.out, fun b e => (O3.out.lt b e).2⟩ S0z.out (Nat.le_refl _)).setQ 2 (by simp) _, .inr ⟨by simp, g3, _, _, rfl, List.mem_cons_self⟩, mk_more MM2.out, mk_more MM1.out⟩
      case rest =>
        obtain ⟨pa', pc', L3, h3, M3, M2, M1⟩ := hcut
        have SS3 := Lib.hid h3
        have MM3 := Lib.hid M3
        have MM2 := Lib.hid M2
        have MM1 := Lib.hid M1
        have c7 := h3.b0.cell 7
        simp [Pg.arr] at c7
        have HD := HP.out.days
        simp only at HD
        clear h3 M3 M2 M1 SS2 c2
        rcases da with _ | x
        · obtain ⟨e1, e2⟩ := HD.1.1 rfl
          have d0 : days = [] := List.length_eq_zero_iff.1 e1
          subst d0
          subst e2
          have x0 := SS3.out.b2.cell 0
          have x1 := SS3.out.b2.cell 1
          have x2 := SS3.out.b2.cell 2
          have x3 := SS3.out.b2.cell 3
          have x4 := SS3.out.b2.cell 4
          have x5 := SS3.out.b2.cell 5
          have x6 := SS3.out.b2.cell 6
          have x7 := SS3.out.b2.cell 7
          have r0 := SS3.out.b1.cell 0
          have r1 := SS3.out.b1.cell 1
          have r2 := SS3.out.b1.cell 2
          have r3 := SS3.out.b1.cell 3
          have r4 := SS3.out.b1.cell 4
          have r5 := SS3.out.b1.cell 5
          have r6 := SS3.out.b1.cell 6
          have r7 := SS3.out.b1.cell 7
          have g0 := SS3.out.b1.frozen 0
          have g1 := SS3.out.b1.frozen 1
          have g2 := SS3.out.b1.frozen 2
          have g3 := SS3.out.b1.frozen 3
          have g4 := SS3.out.b1.frozen 4
          have g5 := SS3.out.b1.frozen 5
          have g6 := SS3.out.b1.frozen 6
          have g7 := SS3.out.b1.frozen 7
          simp [pz] at x0 x1 x2 x3 x4 x5 x6 x7 r0 r1 r2 r3 r4 r5 r6 r7
          have FF := Lib.hid (SS3.out.fin (.slice na' names.length nc') (.slice ua' curs.length uc') (.slice pa' pool.length pc') (.int .i64 hor) (.int .i64 cells) (.int .i64 slots) (.int .i64 stack) (.slice none 0 0))
          go_wp2
          obtain ⟨f1, f2, f3, f4⟩ := FF.out _ rfl
          have k0 := f3.cell 0
          have k1 := f3.cell 1
          have k2 := f3.cell 2
          have k3 := f3.cell 3
          have k4 := f3.cell 4
          have k5 := f3.cell 5
          have k6 := f3.cell 6
          have k7 := f3.cell 7
          simp only [List.getElem?_toArray, List.getElem?_cons_zero, List.getElem?_cons_succ] at k0 k1 k2 k3 k4 k5 k6 k7
          refine bodyPost_ret (v := .agg #[.slice na' names.length nc', .slice ua' curs.length uc', .slice pa' pool.length pc', .int .i64 hor, .int .i64 cells, .int .i64 slots, .int .i64 stack, .slice none 0 0]) (by simp [results, Tryd.results4, go_sem, k0, k1, k2, k3, k4, k5, k6, k7]) rfl ?_
          refine ⟨⟨na', nc', names, ua', uc', curs, pa', pc', pool, hor, cells, slots, stack, none, 0, []⟩, ?_, ?_, ?_⟩
          · rfl
          · exact ⟨rfl, MM1.out.out f2, MM2.out.out f2, MM3.out.out f2, .inl ⟨rfl, rfl, rfl⟩, fun i hi => absurd hi (by simp)⟩
          · exact f1
        · obtain ⟨wD, hwD⟩ : ∃ y, y = wc := ⟨_, rfl⟩
          subst hwD
          have nb := HD.2.2.1
          have MK := make_seg days.length (by omega)
          have kw : IntKind.i64.wrap ((days.length : Int) + 1) = (days.length : Int) + 1 := by simp [IntKind.wrap, IntKind.bits, IntKind.signed]; omega
          have S4 := SS3.out.alloc (.cells (madeCells #[.int .i64 0, .slice none 0 0] ((days.length + 1) * 2)) 34)
          have O4 := made_rowP wD wD.heap.size (Nat.le_refl _) 34 #[.int .i64 0, .slice none 0 0] 2 (days.length + 1) rfl (by omega) (by unfold maxLen; omega)
          have s7 := S4.b2.cell 7
          have f7 := S4.b2.frozen 7
          simp at s7
          have AH := Lib.hid (p := ∀ v v' (k : 7 < ((fun v : Value => #[.slice na' names.length nc', .slice ua' curs.length uc', .slice pa' pool.length pc', .int .i64 hor, .int .i64 cells, .int .i64 slots, .int .i64 stack, v]) v).size), ((fun v : Value => #[.slice na' names.length nc', .slice ua' curs.length uc', .slice pa' pool.length pc', .int .i64 hor, .int .i64 cells, .int .i64 slots, .int .i64 stack, v]) v).set 7 v' k = (fun v : Value => #[.slice na' names.length nc', .slice ua' curs.length uc', .slice pa' pool.length pc', .int .i64 hor, .int .i64 cells, .int .i64 slots, .int .i64 stack, v]) v') (fun v v' k => rfl)
          have D0 := Lib.hid (p := OD w ((wD.alloc (.cells (madeCells #[.int .i64 0, .slice none 0 0] ((days.length + 1) * 2)) 34)).setCell ⟨w.heap.size + 1 + 1, 7, none⟩ (.slice (some ⟨wD.heap.size, 0, none⟩) 0 (days.length + 1))) ⟨na, nc, names, ua, uc, curs, pa, pc, pool, hor, cells, slots, stack, some x, dc, days⟩ (fun v : Value => #[.slice na' names.length nc', .slice ua' curs.length uc', .slice pa' pool.length pc', .int .i64 hor, .int .i64 cells, .int .i64 slots, .int .i64 stack, v]) wD.heap.size days.length [] L3) (by
            have o2 := S4.setQ 7 (by simp) (.slice (some ⟨wD.heap.size, 0, none⟩) 0 (days.length + 1))
            exact ⟨o2, row_farP O4 (setCell_gr _ _ _ _) (fun k q e e2 => by injection e with e; have e3 : wD.heap.size = q := Option.some.inj e2; have := SS3.out.sz; omega), fun r hr => .inl (SS3.out.rows r hr).2.2, SS3.out.sz, Nat.zero_le _, rfl, fun i hi => absurd hi (by simp)⟩)
          have HDD := Lib.hid HD
          clear HD S4 O4 SS3 nb
          go_wp2
          clear MK s7 f7
          go_loopw [7] (fun t wr => ∃ Q L, t = .int .i64 (List.length Q : Int) ∧ OD w wr ⟨na, nc, names, ua, uc, curs, pa, pc, pool, hor, cells, slots, stack, some x, dc, days⟩ (fun v : Value => #[.slice na' names.length nc', .slice ua' curs.length uc', .slice pa' pool.length pc', .int .i64 hor, .int .i64 cells, .int .i64 slots, .int .i64 stack, v]) wD.heap.size days.length Q L ∧ Mk na na' nc' names.length 9 1 (strsP names ++ [bhV]) L ∧ Mk ua ua' uc' curs.length 9 1 (strsP curs ++ [bhV]) L ∧ Mk pa pa' pc' pool.length 3 1 (intsP pool ++ [.int .i64 (-4711)]) L) (fun t _ => days.length - (intOf t).toNat)
          case atStart => exact ⟨[], L3, rfl, D0.out, MM1.out, MM2.out, MM3.out⟩
          case round =>
            clear D0 MM1 MM2 MM3
            rename World => wr
            obtain ⟨Q, L, rfl, hD, hM1, hM2, hM3⟩ := hrel
            have DD := Lib.hid hD
            have MM1 := Lib.hid hM1
            have MM2 := Lib.hid hM2
            have MM3 := Lib.hid hM3
            have c7 := hD.os.b0.cell 7
            simp [Pg.arr] at c7
            by_cases hlt : Q.length < days.length
            · have kc : (Q.length : Int) < (days.length : Int) := by omega
              have nb2 := HDD.out.2.2.1
              have kq : IntKind.i64.wrap ((Q.length : Int) + 1) = (Q.length : Int) + 1 := by simp [IntKind.wrap, IntKind.bits, IntKind.signed]; omega
              obtain ⟨xb, xo, rfl, hx, hc⟩ : ∃ xb xo, x = ⟨xb, xo, none⟩ ∧ xb < w.heap.size ∧ ∀ i, i < days.length → ∀ j, j < 2 → w.cell? ⟨xb, xo + i * 2 + j, none⟩ = some (((days.getD i default).cs).getD j default) := by
                rcases HDD.out.2.2.2.2 with q | ⟨b, o, e, h1, h2⟩
                · omega
                · injection e with e; exact ⟨b, o, e, h1, h2⟩
              have i0 := hc Q.length hlt 0 (by omega)
              have i1 := hc Q.length hlt 1 (by omega)
              have IRf := (HDD.out.2.2.2.1 _ (sg_mem (i := Q.length) hlt)).2
              obtain ⟨s, hs⟩ : ∃ s, days.getD Q.length default = s := ⟨_, rfl⟩
              rw [hs] at i0 i1 IRf
              have HS := Lib.hid hs
              obtain ⟨sd, sa, sc, sl⟩ := s
              simp only [Sg.cs, Nat.add_zero, List.getD_cons_zero, List.getD_cons_succ] at i0 i1 IRf
              have I0 := Lib.hid (fun W (b : Below w.heap.size w W) => (b.cell (p := ⟨xb, xo + Q.length * 2, none⟩) hx).trans i0)
              have I1 := Lib.hid (fun W (b : Below w.heap.size w W) => (b.cell (p := ⟨xb, xo + Q.length * 2 + 1, none⟩) hx).trans i1)
              have e0 := I0.out _ hD.os.bel
              have e1 := I1.out _ hD.os.bel
              have IRF := Lib.hid IRf
              have D1 := Lib.hid (hD.later (allocBP wr (.cells #[.int .i64 sd, .slice sa sl.length sc] 34)))
              have SB := Lib.hid (p := BkP (wr.alloc (.cells #[.int .i64 sd, .slice sa sl.length sc] 34)) wr.heap.size #[.int .i64 sd, .slice sa sl.length sc] 34) (heapN _ _)
              have BW := Lib.hid (allocBP wr (.cells #[.int .i64 sd, .slice sa sl.length sc] 34))
              have SW := Lib.hid (p := (wr.alloc (.cells #[.int .i64 sd, .slice sa sl.length sc] 34)).heap.size = wr.heap.size + 1) (by simp)
              clear hc i0 i1 hs IRf hD hM1 hM2 hM3 hx
              go_upto_if 94 with fail
              generalize hW1 : wr.alloc (.cells #[.int .i64 sd, .slice sa sl.length sc] 34) = W1 at *
              clear hW1
              go_cut [9] (fun l wx => ∃ sa' sc' L2, OD w wx ⟨na, nc, names, ua, uc, curs, pa, pc, pool, hor, cells, slots, stack, some ⟨xb, xo, none⟩, dc, days⟩ (fun v : Value => #[.slice na' names.length nc', .slice ua' curs.length uc', .slice pa' pool.length pc', .int .i64 hor, .int .i64 cells, .int .i64 slots, .int .i64 stack, v]) wD.heap.size days.length Q L2 ∧ BkP wx wr.heap.size #[.int .i64 sd, .slice sa' sl.length sc'] 34 ∧ Mk sa sa' sc' sl.length 36 3 (icsP sl ++ icell m4711) L2 ∧ Mk na na' nc' names.length 9 1 (strsP names ++ [bhV]) L2 ∧ Mk ua ua' uc' curs.length 9 1 (strsP curs ++ [bhV]) L2 ∧ Mk pa pa' pc' pool.length 3 1 (intsP pool ++ [.int .i64 (-4711)]) L2)
              case first =>
                clear c7 e0 e1
                rcases sa with _ | y
                · obtain ⟨z1, z2⟩ := IRF.out.1.1 rfl
                  go_wp2
                  go_meet
                  case rel => exact ⟨none, sc, L, D1.out, SB.out, .inl ⟨rfl, rfl, z2, z1⟩, MM1.out, MM2.out, MM3.out⟩
                · have nb3 := IRF.out.2.2.1
                  have MK3 := make_ins3 sl.length (by omega)
                  have kw3 : IntKind.i64.wrap ((sl.length : Int) + 1) = (sl.length : Int) + 1 := by simp [IntKind.wrap, IntKind.bits, IntKind.signed]; omega
                  have NW := Lib.hid (fun W (b : Below w.heap.size w W) => ir_news (IRF.out.later b))
                  have ST := Lib.hid (icsP_one sl)
                  have SL := Lib.hid (icsP_len sl)
                  have S1 := Lib.hid (D1.out.os.alloc (.cells (madeCells #[.int .i64 0, .int .i64 0, .int .i64 0] ((sl.length + 1) * 3)) 36)).drew
                  have O1 := Lib.hid (p := (W1.alloc (.cells (madeCells #[.int .i64 0, .int .i64 0, .int .i64 0] ((sl.length + 1) * 3)) 36)).drew.ownsRow W1.heap.size 36 3 (.slice (some ⟨W1.heap.size, 0, none⟩) 0 (sl.length + 1)) 0 []) (by
                    have := made_rowP W1 W1.heap.size (Nat.le_refl _) 36 #[.int .i64 0, .int .i64 0, .int .i64 0] 3 (sl.length + 1) rfl (by omega) (by unfold maxLen; omega)
                    exact row_farP this (gr_below (drew1B _) none) (fun k q e => by cases e))
                  have y0 := SB.out.cell 1
                  have y1 := (SB.out.grown (gr_below (allocBP W1 (.cells (madeCells #[.int .i64 0, .int .i64 0, .int .i64 0] ((sl.length + 1) * 3)) 36)) none) (by simp)).cell 1
                  simp at y0 y1
                  have NL := Lib.hid (p := sl.length + 1 ≤ maxLen ∧ (sl.length + 1) * 24 ≤ 140737488355328) (by unfold maxLen; omega)
                  clear nb3
                  go_wp2
                  go_region_law (refine step_appG _ rfl _ _ 32 rfl W1.heap.size 36 iI _ 3 24 Tryd.underlying32 hiI hziI0 hziI1 hziI2 rfl (by decide) _ 0 [] rfl O1.out y sl.length sc (icsP sl) rfl SL.out (NW.out _ S1.out.bel) ST.out (by have := NL.out; omega) (by have := NL.out; omega) (by simp) ?_; intro v2 w2 k1 k2 k3; rw [Nat.zero_add, List.nil_append] at k1; obtain ⟨g2, c2, rfl, _, _, _⟩ := row_someP k1 (fun e => by have := (k3.1 e).1; cases this); have O2 := Lib.hid k1; have B2 := Lib.hid (show Below W1.heap.size W1 w2 from ((allocBP W1 _).drew).grown k2 (by simp) (fun k e => Nat.le_of_eq (Option.some.inj e))); clear k1 k2 k3)
                  all_goals
                    go_wp2_with (at_builtin; refine wpList_append_own_at _ rfl _ _ 32 rfl W1.heap.size 36 iI _ 3 24 Tryd.underlying32 hiI hziI0 hziI1 hziI2 rfl (by decide) _ sl.length (icsP sl) rfl (O2.out.alloc _) ⟨w2.heap.size, 0, none⟩ 1 1 [.int .i64 (-4711), .int .i64 0, .int .i64 0] rfl rfl (cell_three_new w2 _ _ _ _) (by intro u hu; simp at hu; rcases hu with rfl | rfl | rfl <;> rfl) NL.out.1 NL.out.2 (Nat.le_trans B2.out.size (by simp)) ?_; intro v3 w3 k1 k2 k3 k4; obtain ⟨g3, c3, rfl, e3, _, _⟩ := row_someP k1 (fun e => by have := (k3.1 e).1; cases this); have e4 : sl.length ≤ c3 := (by omega); have B3 := Lib.hid (show Below W1.heap.size W1 w3 from (B2.out.alloc B2.out.size _).grown k2 (Nat.le_trans B2.out.size (by simp)) (fun k e => (O2.out.lt k e).1)); have O3 := Lib.hid k1; have D3 := Lib.hid (D1.out.later B3.out); have y3 := D3.out.os.b0.cell 7; have y4 := I1.out _ D3.out.os.bel; have SB3 := Lib.hid (SB.out.grown (gr_below B3.out none) (by simp)); have y5 := SB3.out.cell 1; have y6 := SB3.out.frozen 1; simp [Pg.arr] at y3 y5; clear k1 k2 k3 k4 y0 y1)
                    go_meet
                    case rel =>
                      have GS := setCell_gr w3 wr.heap.size 1 (.slice (some ⟨g3, 0, none⟩) sl.length c3)
                      have BX : Below wr.heap.size wr (w3.setCell ⟨wr.heap.size, 1, none⟩ (.slice (some ⟨g3, 0, none⟩) sl.length c3)) := (BW.out.trans (B3.out.mono (by have := SW.out; omega))).grown GS (by have := SW.out; have := B3.out.size; omega) (fun k e => by injection e with e; omega)
                      have OX : RF.at ⟨W1.heap.size, w3.heap.size, 36, 3, .slice (some ⟨g3, 0, none⟩) (sl.length + 1) c3, sl.length + 1, icsP sl ++ icell m4711⟩ (w3.setCell ⟨wr.heap.size, 1, none⟩ (.slice (some ⟨g3, 0, none⟩) sl.length c3)) := ⟨row_farP O3.out GS (fun k q e e2 => by injection e with e; have := (O3.out.lt q e2).1; have := SW.out; omega), fun b e => (O3.out.lt b e).2⟩
                      exact ⟨some ⟨g3, 0, none⟩, c3, _ :: L, (DD.out.later BX).add _ OX (by have := DD.out.glt; have := SW.out; show _ < W1.heap.size; omega) (by simp), SB3.out.set 1 _ (by simp), .inr ⟨by simp, g3, _, _, rfl, List.mem_cons_self⟩, mk_more MM1.out, mk_more MM2.out, mk_more MM3.out⟩
              case rest =>
                obtain ⟨sa', sc', L2, hD2, hB2, hM, hM1, hM2, hM3⟩ := hcut
                have D2 := Lib.hid hD2
                have KM := Lib.hid hM
                have MN1 := Lib.hid hM1
                have MN2 := Lib.hid hM2
                have MN3 := Lib.hid hM3
                have q7 := hD2.os.b2.cell 7
                have u0 := hB2.cell 0
                have u1 := hB2.cell 1
                simp at q7 u0 u1
                have OW := Lib.hid (hD2.own.alloc (.cells #[.int .i64 sd, .slice sa' sl.length sc'] 34))
                have hcap : Q.length + 1 ≤ days.length + 1 := by omega
                clear hD2 hB2 hM hM1 hM2 hM3 c7 e0 e1
                go_wp2_with (at_builtin; refine wpList_append_fits _ rfl _ _ 24 rfl wD.heap.size 34 iG 2 Tryd.underlying24 hiG hziG1 wD.heap.size Q.length (days.length + 1) (sgsP Q) rfl OW.out ⟨wc.heap.size, 0, none⟩ 1 1 [.int .i64 sd, .slice sa' sl.length sc'] rfl rfl (cell_two_new wc _ _ _) (by intro u hu; simp at hu; rcases hu with rfl | rfl <;> rfl) hcap ?_; intro w5 k1 k2; have G5 := Lib.hid (show wc.grownBy w5 (some wD.heap.size) from (gr_below (allocBP wc _) _).trans k2); have O5 := Lib.hid k1; have S5 := Lib.hid (D2.out.os.far G5.out D2.out.g0 D2.out.far); have q8 := S5.out.b2.cell 7; have q9 := S5.out.b2.frozen 7; simp at q8; clear k1 k2 q7 u0 u1)
                go_roundw
                case rel =>
                  refine ⟨Q ++ [⟨sd, sa', sc', sl⟩], L2, ?_, D2.out.next AH.out ⟨sd, sa', sc', sl⟩ G5.out O5.out hlt hlt ?_ ?_, MN1.out, MN2.out, MN3.out⟩
                  · simp
                  · show _ = (days.getD Q.length default).key; rw [HS.out]; rfl
                  · show Mk (days.getD Q.length default).ca _ _ _ _ _ _ _; rw [HS.out]; exact KM.out
                case measure => simp [intOf]; omega
            · have el : Q.length = days.length := by have := hD.le; omega
              have OSF := hD.os
              have KY := Lib.hid hD.keys
              have OWN := Lib.hid hD.own
              have MKS := Lib.hid hD.mks
              have G0 := Lib.hid hD.g0
              rw [el] at OSF
              clear hD DD
              have x0 := OSF.b2.cell 0
              have x1 := OSF.b2.cell 1
              have x2 := OSF.b2.cell 2
              have x3 := OSF.b2.cell 3
              have x4 := OSF.b2.cell 4
              have x5 := OSF.b2.cell 5
              have x6 := OSF.b2.cell 6
              have x7 := OSF.b2.cell 7
              have r0 := OSF.b1.cell 0
              have r1 := OSF.b1.cell 1
              have r2 := OSF.b1.cell 2
              have r3 := OSF.b1.cell 3
              have r4 := OSF.b1.cell 4
              have r5 := OSF.b1.cell 5
              have r6 := OSF.b1.cell 6
              have r7 := OSF.b1.cell 7
              have g0 := OSF.b1.frozen 0
              have g1 := OSF.b1.frozen 1
              have g2 := OSF.b1.frozen 2
              have g3 := OSF.b1.frozen 3
              have g4 := OSF.b1.frozen 4
              have g5 := OSF.b1.frozen 5
              have g6 := OSF.b1.frozen 6
              have g7 := OSF.b1.frozen 7
              simp [pz] at x0 x1 x2 x3 x4 x5 x6 x7 r0 r1 r2 r3 r4 r5 r6 r7
              have FF := Lib.hid (OSF.fin (.slice na' names.length nc') (.slice ua' curs.length uc') (.slice pa' pool.length pc') (.int .i64 hor) (.int .i64 cells) (.int .i64 slots) (.int .i64 stack) (.slice (some ⟨wD.heap.size, 0, none⟩) days.length (days.length + 1)))
              go_wp2
              obtain ⟨f1, f2, f3, f4⟩ := FF.out _ rfl
              have k0 := f3.cell 0
              have k1 := f3.cell 1
              have k2 := f3.cell 2
              have k3 := f3.cell 3
              have k4 := f3.cell 4
              have k5 := f3.cell 5
              have k6 := f3.cell 6
              have k7 := f3.cell 7
              simp only [List.getElem?_toArray, List.getElem?_cons_zero, List.getElem?_cons_succ] at k0 k1 k2 k3 k4 k5 k6 k7
              refine bodyPost_ret (v := .agg #[.slice na' names.length nc', .slice ua' curs.length uc', .slice pa' pool.length pc', .int .i64 hor, .int .i64 cells, .int .i64 slots, .int .i64 stack, .slice (some ⟨wD.heap.size, 0, none⟩) days.length (days.length + 1)]) (by simp [results, Tryd.results4, go_sem, k0, k1, k2, k3, k4, k5, k6, k7]) rfl ?_
              refine ⟨⟨na', nc', names, ua', uc', curs, pa', pc', pool, hor, cells, slots, stack, some ⟨wD.heap.size, 0, none⟩, days.length + 1, Q⟩, ?_, ?_, ?_⟩
              · show Ending.returned _ = Ending.returned (.agg _); simp only [el]
              · refine ⟨?_, MM1.out.out f2, MM2.out.out f2, MM3.out.out f2, .inr ⟨wD.heap.size, wD.heap.size, rfl, ?_⟩, fun i hi => (MKS.out i hi).out f2⟩
                · have := KY.out
                  simp only [el, List.take_length] at this
                  unfold Pg.key
                  simp only [this]
                · exact row_farP OWN.out f4 (fun k q e e2 => by injection e with e; have e3 : wD.heap.size = q := Option.some.inj e2; have := G0.out; omega)
              · exact f1
end Go.Proofs.YtnebopckldmmkaaDoor
