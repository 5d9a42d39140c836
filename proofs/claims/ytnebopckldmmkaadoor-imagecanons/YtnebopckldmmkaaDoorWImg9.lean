/-
  WALK: intact (made by gen_wimg9.py).
-/
import Derived.Test.YtnebopckldmmkaaDoorWImg8
namespace Go.Proofs.YtnebopckldmmkaaDoor
open Go.RowKit
set_option linter.unusedVariables false
set_option linter.unusedSimpArgs false
set_option maxRecDepth 100000 in
set_option maxHeartbeats 8000000 in
theorem intact_any {w : World} {p q : Pg} (hp : PV w p) (hq : PV w q) (ho : OwnE w p q) :
    Calls Tryd.prog 7 #[q.agg, p.agg] w fun e w' => e = .returned (.bool true) ∧ Below w.heap.size w w' := by
  have KE := Lib.hid (p := ∀ W, Below w.heap.size w W → Calls Tryd.prog 13 #[q.agg, p.agg] W fun e w' => e = .returned (.bool true) ∧ Below W.heap.size W w') (fun W b => by
    have := refEqual_any (hq.later b) (hp.later b)
    rwa [decide_eq_true ho.key] at this)
  have B0 := Lib.hid (alloc2 w q.box p.box)
  obtain ⟨tb, _⟩ := two_box w q.box p.box
  have TB := Lib.hid (p := BkP ((w.alloc q.box).alloc p.box) w.heap.size q.arr 26) tb
  have HO := Lib.hid ho
  have HQ := Lib.hid hq
  clear hp hq ho tb
  obtain ⟨na, nc, names, ua, uc, curs, pa, pc, pool, hor, cells, slots, stack, da, dc, days⟩ := q
  unfold Pg.agg at KE
  unfold Pg.agg
  unfold Pg.box at B0 TB
  unfold Pg.arr at TB
  simp only at KE B0 TB ⊢
  go_enter Tryd.func7, Tryd.ntmps7
  go_upto_if 16 with (go_at_call 13; refine (KE.out _ B0.out).mono ?_; rintro e w1 ⟨rfl, h2⟩; have B1 := Lib.hid (B0.out.trans (h2.mono B0.out.size)); have T1 := Lib.hid (TB.out.grown (gr_below h2 none) (by simp)); clear h2)
  have O1 := HO.out.later B1.out
  have MN := Lib.hid O1.mn
  have MU := Lib.hid O1.mu
  have MP := Lib.hid O1.mp
  have MC := Lib.hid O1.mc
  have PQ := Lib.hid (HQ.out.later B1.out)
  have x0 := T1.out.cell 0
  have x1 := T1.out.cell 1
  have x2 := T1.out.cell 2
  have x7 := T1.out.cell 7
  simp at x0 x1 x2 x7
  have n0 := PQ.out.names.2.2.1
  have n1 := PQ.out.curs.2.2.1
  have n2 := PQ.out.pool.2.2.1
  simp only at MN MU MP MC n0 n1 n2
  clear O1 HO HQ T1 TB B0 KE
  go_upto_if 19 with fail
  go_cut [6] (fun l wx => w1 = wx)
  case first =>
    rcases MN.out with ⟨_, rfl, q1, q2⟩ | ⟨_, g, B, rfl, hO⟩
    · go_wp2
      go_meet
      case rel => rfl
    · have cm := (own_capP hO).1
      have cz := own_cellsP hO names.length bhV (by rw [List.getElem?_append_right (by simp [strsP])]; simp [strsP])
      have cb := trivial
      have kw : IntKind.i64.wrap ((names.length : Int) + 1) = (names.length : Int) + 1 := by simp [IntKind.wrap, IntKind.bits, IntKind.signed]; omega
      have t1 : ((names.length : Int) + 1).toNat = names.length + 1 := by omega
      have t2 : ¬ ((names.length : Int) + 1) < 0 := by omega
      have t3 : ((names.length : Int) + 1) ≤ (nc : Int) := by omega
      have t4 : ¬ (nc : Int) < ((names.length : Int) + 1) := by omega
      unfold bhV at cz
      clear hO
      go_wp2
      go_meet
      case rel => rfl
  case rest =>
    obtain rfl := hcut
    go_upto_if 36 with fail
    go_cut [7] (fun l wx => w1 = wx)
    case first =>
      rcases MU.out with ⟨_, rfl, q1, q2⟩ | ⟨_, g, B, rfl, hO⟩
      · go_wp2
        go_meet
        case rel => rfl
      · have cm := (own_capP hO).1
        have cz := own_cellsP hO curs.length bhV (by rw [List.getElem?_append_right (by simp [strsP])]; simp [strsP])
        have cb := trivial
        have kw : IntKind.i64.wrap ((curs.length : Int) + 1) = (curs.length : Int) + 1 := by simp [IntKind.wrap, IntKind.bits, IntKind.signed]; omega
        have t1 : ((curs.length : Int) + 1).toNat = curs.length + 1 := by omega
        have t2 : ¬ ((curs.length : Int) + 1) < 0 := by omega
        have t3 : ((curs.length : Int) + 1) ≤ (uc : Int) := by omega
        have t4 : ¬ (uc : Int) < ((curs.length : Int) + 1) := by omega
        unfold bhV at cz
        clear hO
        go_wp2
        go_meet
        case rel => rfl
    case rest =>
      obtain rfl := hcut
      go_upto_if 53 with fail
      go_cut [8] (fun l wx => w1 = wx)
      case first =>
        rcases MP.out with ⟨_, rfl, q1, q2⟩ | ⟨_, g, B, rfl, hO⟩
        · go_wp2
          go_meet
          case rel => rfl
        · have cm := (own_capP hO).1
          have cz := own_cellsP hO pool.length (.int .i64 (-4711)) (by rw [List.getElem?_append_right (by simp [intsP])]; simp [intsP])
          have cb := trivial
          have kw : IntKind.i64.wrap ((pool.length : Int) + 1) = (pool.length : Int) + 1 := by simp [IntKind.wrap, IntKind.bits, IntKind.signed]; omega
          have t1 : ((pool.length : Int) + 1).toNat = pool.length + 1 := by omega
          have t2 : ¬ ((pool.length : Int) + 1) < 0 := by omega
          have t3 : ((pool.length : Int) + 1) ≤ (pc : Int) := by omega
          have t4 : ¬ (pc : Int) < ((pool.length : Int) + 1) := by omega
          clear hO
          go_wp2
          go_meet
          case rel => rfl
      case rest =>
        obtain rfl := hcut
        have DR := Lib.hid PQ.out.days.2.2.2.2
        have DG := Lib.hid PQ.out.days.2.2.2.1
        have n3 := PQ.out.days.2.2.1
        simp only at DR DG n3
        clear PQ MN MU MP
        go_wp2
        go_loopw [9] (fun t ws => ∃ k : Nat, k ≤ days.length ∧ t = .int .i64 (k : Int) ∧ w1 = ws) (fun t _ => days.length - (intOf t).toNat)
        case atStart => exact ⟨0, by omega, rfl, rfl⟩
        case round =>
          obtain ⟨k, hk, rfl, rfl⟩ := hrel
          by_cases hlt : k < days.length
          · have kc : (k : Int) < (days.length : Int) := by omega
            obtain ⟨b, o, rfl, hb, hc⟩ : ∃ b o, da = some ⟨b, o, none⟩ ∧ b < w1.heap.size ∧ ∀ i, i < days.length → ∀ j, j < 2 → w1.cell? ⟨b, o + i * 2 + j, none⟩ = some (((days.getD i default).cs).getD j default) := by
              rcases DR.out with q | q
              · omega
              · exact q
            have i1 := hc k hlt 1 (by omega)
            have cl := (DG.out _ (sg_mem (i := k) hlt)).2.2.2.1
            have MK := MC.out k hlt
            generalize days.getD k default = s at *
            obtain ⟨sd, sa, sc, sl⟩ := s
            simp only [Sg.cs, List.getD_cons_zero, List.getD_cons_succ] at i1 MK cl
            clear hc
            rcases MK with ⟨_, rfl, q1, q2⟩ | ⟨_, g, B, rfl, hO⟩
            · go_wp2
              go_roundw
              case rel => exact ⟨k + 1, by omega, by go_num, by first | rfl | trivial⟩
              case measure => simp [intOf]; omega
            · have cm := (own_capP hO).1
              have cz := own_cellsP hO (sl.length * 3) (.int .i64 (-4711)) (by rw [List.getElem?_append_right (by rw [icsP_len]; omega), icsP_len, Nat.sub_self]; rfl)
              have kw : IntKind.i64.wrap ((sl.length : Int) + 1) = (sl.length : Int) + 1 := by simp [IntKind.wrap, IntKind.bits, IntKind.signed]; omega
              have t1 : ((sl.length : Int) + 1).toNat = sl.length + 1 := by omega
              have t2 : ¬ ((sl.length : Int) + 1) < 0 := by omega
              have t3 : ((sl.length : Int) + 1) ≤ (sc : Int) := by omega
              have t4 : ¬ (sc : Int) < ((sl.length : Int) + 1) := by omega
              clear hO
              go_wp2
              go_roundw
              case rel => exact ⟨k + 1, by omega, by go_num, by first | rfl | trivial⟩
              case measure => simp [intOf]; omega
          · obtain rfl : k = days.length := by omega
            go_wp2
            go_ret
            exact ⟨rfl, B1.out⟩
end Go.Proofs.YtnebopckldmmkaaDoor
