/-
  WALK: the document's Equal (made by gen_wimg4.py).
-/
import Derived.Test.YtnebopckldmmkaaDoorWImg3
namespace Go.Proofs.YtnebopckldmmkaaDoor
open Go.RowKit
set_option linter.unusedVariables false
set_option linter.unusedSimpArgs false
theorem bel_dr {w W : World} (b : Below w.heap.size w W) (q : Nat) : Below w.heap.size w (W.drewN q) := b.trans ((drewBP W q).mono b.size)
theorem days_len {l l' : List Sg} (h : l.map Sg.key = l'.map Sg.key) : l.length = l'.length := by have := congrArg List.length h; simpa using this
theorem heap_newP (w : World) (o : Obj) : (w.alloc o).heap[w.heap.size]? = some o := by show (w.heap.push o)[w.heap.size]? = _; simp
theorem two_box (w : World) (o1 o2 : Obj) : ((w.alloc o1).alloc o2).heap[w.heap.size]? = some o1 ∧ ((w.alloc o1).alloc o2).heap[w.heap.size + 1]? = some o2 :=
  ⟨(Below.heap_alloc _ _ _ (by simp)).trans (heap_newP w o1), by simpa using heap_newP (w.alloc o1) o2⟩
theorem box_all8 {w : World} {x : Nat} {a b c d e f g h : Value} {t : TypeId} (k : w.heap[x]? = some (.cells #[a, b, c, d, e, f, g, h] t)) : w.cell? ⟨x, 0, none⟩ = some a ∧ w.cell? ⟨x, 1, none⟩ = some b ∧ w.cell? ⟨x, 2, none⟩ = some c ∧ w.cell? ⟨x, 3, none⟩ = some d ∧ w.cell? ⟨x, 4, none⟩ = some e ∧ w.cell? ⟨x, 5, none⟩ = some f ∧ w.cell? ⟨x, 6, none⟩ = some g ∧ w.cell? ⟨x, 7, none⟩ = some h := by
  refine ⟨?_, ?_, ?_, ?_, ?_, ?_, ?_, ?_⟩ <;> simp [World.cell?, k]
set_option maxRecDepth 100000 in
set_option maxHeartbeats 40000000 in
theorem refEqual_in {w : World} {p q : Pg} (h : PV w p) (h' : PV w q) (eN : p.names = q.names) (eU : p.curs = q.curs) (eP : p.pool.length = q.pool.length) (eD : p.days.length = q.days.length) :
    Calls Tryd.prog 13 #[p.agg, q.agg] w fun e w' => e = .returned (.bool (decide (p.key = q.key))) ∧ Below w.heap.size w w' := by
  have KN := Lib.hid (fun W (b : Below w.heap.size w W) => sameTexts12_any (h.names.later b) (h'.names.later b))
  have KU := Lib.hid (fun W (b : Below w.heap.size w W) => sameTexts12_any (h.curs.later b) (h'.curs.later b))
  have B0 := Lib.hid (alloc2 w p.box q.box)
  have KK := Lib.hid (p := p.key = q.key → p.names = q.names ∧ p.curs = q.curs ∧ p.pool = q.pool ∧ p.hor = q.hor ∧ p.cells = q.cells ∧ p.slots = q.slots ∧ p.stack = q.stack ∧ p.days.map Sg.key = q.days.map Sg.key) key_of
  have KE := Lib.hid (p := p.names = q.names → p.curs = q.curs → p.pool = q.pool → p.hor = q.hor → p.cells = q.cells → p.slots = q.slots → p.stack = q.stack → p.days.map Sg.key = q.days.map Sg.key → p.key = q.key) key_eq
  have HP := Lib.hid h
  have HQ := Lib.hid h'
  clear h h'
  unfold Pg.agg
  unfold Pg.box at B0
  simp only [decide_eq_true eN] at KN
  simp only [decide_eq_true eU] at KU
  have PR := Lib.hid (fun W (b : Below w.heap.size w W) => (HP.out.pool.2.2.2.2.later b))
  have QR := Lib.hid (fun W (b : Below w.heap.size w W) => (HQ.out.pool.2.2.2.2.later b))
  have DR := Lib.hid (fun W (b : Below w.heap.size w W) => (HP.out.days.2.2.2.2.later b))
  have ER := Lib.hid (fun W (b : Below w.heap.size w W) => (HQ.out.days.2.2.2.2.later b))
  have DG := Lib.hid HP.out.days.2.2.2.1
  have EG := Lib.hid HQ.out.days.2.2.2.1
  have pb := HP.out.pool.2.2.1
  have db := HP.out.days.2.2.1
  clear HP HQ
  obtain ⟨na, nc, names, ua, uc, curs, pa, pc, pool, hor, cells, slots, stack, da, dc, days⟩ := p
  obtain ⟨na', nc', names', ua', uc', curs', pa', pc', pool', hor', cells', slots', stack', da', dc', days'⟩ := q
  simp only at KN KU KK KE B0 eN eU eP eD PR QR DR ER DG EG pb db ⊢
  have EN := Lib.hid eN
  have EU := Lib.hid eU
  clear eN eU
  generalize hp : pool.length = np at *
  generalize hp' : pool'.length = np' at *
  subst eP
  generalize hd : days.length = nd at *
  generalize hd' : days'.length = nd' at *
  subst eD
  have LP := Lib.hid hp
  have LP' := Lib.hid hp'
  have LD := Lib.hid hd
  have LD' := Lib.hid hd'
  clear hp hp' hd hd'
  have Q1 : True := trivial
  go_enter Tryd.func13, Tryd.ntmps13
  go_wp2_with (first
    | (go_at_call 23; have qq := Q1; refine (KN.out _ B0.out).mono ?_; rintro e w1 ⟨rfl, q1, rfl⟩; have B1 := Lib.hid (B0.out.trans ((drewBP _ q1).mono B0.out.size)); clear Q1)
    | (go_at_call 23; refine (KU.out _ B1.out).mono ?_; rintro e w2 ⟨rfl, q2, rfl⟩; have B2 := B1.out.trans ((drewBP _ q2).mono B1.out.size); rw [World.drewN_drewN] at B2; have B2 := Lib.hid B2))
  clear KN KU B1
  obtain ⟨tb1, tb2⟩ := two_box w (.cells #[.slice na names.length nc, .slice ua curs.length uc, .slice pa np pc, .int .i64 hor, .int .i64 cells, .int .i64 slots, .int .i64 stack, .slice da nd dc] 26) (.cells #[.slice na' names'.length nc', .slice ua' curs'.length uc', .slice pa' np pc', .int .i64 hor', .int .i64 cells', .int .i64 slots', .int .i64 stack', .slice da' nd dc'] 26)
  generalize hW0 : (w.alloc (.cells #[.slice na names.length nc, .slice ua curs.length uc, .slice pa np pc, .int .i64 hor, .int .i64 cells, .int .i64 slots, .int .i64 stack, .slice da nd dc] 26)).alloc (.cells #[.slice na' names'.length nc', .slice ua' curs'.length uc', .slice pa' np pc', .int .i64 hor', .int .i64 cells', .int .i64 slots', .int .i64 stack', .slice da' nd dc'] 26) = W0 at *
  obtain ⟨_, _, x2, x3, x4, x5, x6, x7⟩ := box_all8 tb1
  obtain ⟨_, _, y2, y3, y4, y5, y6, y7⟩ := box_all8 tb2
  clear hW0 tb1 tb2
  have BB := Lib.hid (fun z => bel_dr B0.out z)
  go_loopw [7] (fun t wr => ∃ k : Nat, k ≤ np ∧ t = .int .i64 (k : Int) ∧ RowKit.Hid (∀ i, i < k → pool.getD i 0 = pool'.getD i 0) ∧ ∃ z, wr = W0.drewN z) (fun t _ => np - (intOf t).toNat)
  case atStart => exact ⟨0, by omega, rfl, fun i hi => absurd hi (by omega), _, rfl⟩
  case round =>
    obtain ⟨k, hk, rfl, hE, z, rfl⟩ := hrel
    by_cases hlt : k < np
    · obtain ⟨x, o, y, p, rfl, rfl, hc⟩ := (PR.out _ B0.out).twoP (QR.out _ B0.out) (by omega)
      obtain ⟨c0, d0⟩ := hc k hlt 0 (by omega)
      simp only [Nat.mul_one, Nat.add_zero, List.getD_cons_zero] at c0 d0
      have kc : (k : Int) < (np : Int) := by omega
      clear hc
      by_cases e : pool.getD k 0 = pool'.getD k 0
      · have NX := Lib.hid (p := ∀ i, i < k + 1 → pool.getD i 0 = pool'.getD i 0) (fun i hi => by
          rcases (show i < k ∨ i = k by omega) with r | r
          · exact hE.out i r
          · rw [r]; exact e)
        rw [e] at c0
        generalize pool'.getD k 0 = zv at *
        clear e
        go_wp2
        go_quiet (fail)
        go_wp2
        go_roundw
        case rel => exact ⟨k + 1, by omega, by go_num, NX.out, _, by first | rfl | exact World.drewN_drewN _ _ _⟩
        case measure => simp [intOf]; omega
      · have R := Lib.hid (p := decide (Pg.key ⟨na, nc, names, ua, uc, curs, some ⟨x, o, none⟩, pc, pool, hor, cells, slots, stack, da, dc, days⟩ = Pg.key ⟨na', nc', names', ua', uc', curs', some ⟨y, p, none⟩, pc', pool', hor', cells', slots', stack', da', dc', days'⟩) = false) (decide_eq_false (fun z => e (by rw [(KK.out z).2.2.1])))
        generalize pool.getD k 0 = y0 at *
        generalize pool'.getD k 0 = z0 at *
        have e' : (y0 == z0) = false := by simpa using e
        go_wp2
        go_quiet (fail)
        go_wp2
        go_ret
        exact ⟨retBP R.out.symm, by first | exact BB.out _ | exact bel_dr (BB.out _) _⟩
    · obtain rfl : k = np := by omega
      have EP := Lib.hid (p := pool = pool') (list_eqP (by rw [LP.out, LP'.out]) (fun i hi => hE.out i (by rw [LP.out] at hi; exact hi)))
      clear hE
      go_wp2
      go_loopw [8] (fun t wr => ∃ k : Nat, k ≤ nd ∧ t = .int .i64 (k : Int) ∧ RowKit.Hid (∀ i, i < k → (days.getD i default).key = (days'.getD i default).key) ∧ ∃ z, wr = W0.drewN z) (fun t _ => nd - (intOf t).toNat)
      case atStart => exact ⟨0, by omega, rfl, fun i hi => absurd hi (by omega), _, rfl⟩
      case round =>
        obtain ⟨m, hm, rfl, hE, z, rfl⟩ := hrel
        by_cases hlt : m < nd
        · obtain ⟨x, o, y, p, rfl, rfl, hc⟩ := (DR.out _ B0.out).twoP (ER.out _ B0.out) (by omega)
          obtain ⟨c0, d0⟩ := hc m hlt 0 (by omega)
          obtain ⟨c1, d1⟩ := hc m hlt 1 (by omega)
          simp only [Sg.cs, Nat.add_zero, List.getD_cons_zero, List.getD_cons_succ] at c0 d0 c1 d1
          have kc : (m : Int) < (nd : Int) := by omega
          have I1 := Lib.hid ((DG.out _ (sg_mem (i := m) (by rw [LD.out]; exact hlt))).2.2.2.2.2.later B0.out)
          have I2 := Lib.hid ((EG.out _ (sg_mem (i := m) (by rw [LD'.out]; exact hlt))).2.2.2.2.2.later B0.out)
          have cb := (DG.out _ (sg_mem (i := m) (by rw [LD.out]; exact hlt))).2.2.2.1
          have KM := Lib.hid (p := Pg.key ⟨na, nc, names, ua, uc, curs, pa, pc, pool, hor, cells, slots, stack, some ⟨x, o, none⟩, dc, days⟩ = Pg.key ⟨na', nc', names', ua', uc', curs', pa', pc', pool', hor', cells', slots', stack', some ⟨y, p, none⟩, dc', days'⟩ → (days.getD m default).key = (days'.getD m default).key) (fun z => keys_at (KK.out z).2.2.2.2.2.2.2 m)
          have NX := Lib.hid (p := (days.getD m default).key = (days'.getD m default).key → ∀ i, i < m + 1 → (days.getD i default).key = (days'.getD i default).key) (fun e i hi => by
            rcases (show i < m ∨ i = m by omega) with r | r
            · exact hE.out i r
            · rw [r]; exact e)
          clear hc hE
          generalize days.getD m default = s1 at *
          generalize days'.getD m default = s2 at *
          obtain ⟨sd, sa, sc, sl⟩ := s1
          obtain ⟨td, ta, tc, tl⟩ := s2
          simp only [Sg.key] at c0 d0 c1 d1 I1 I2 KM NX cb
          by_cases e0 : sd = td
          · subst e0
            by_cases e1 : sl.length = tl.length
            · generalize hs : sl.length = ns at *
              generalize ht : tl.length = nt at *
              subst e1
              have LS := Lib.hid hs
              have LT := Lib.hid ht
              clear hs ht
              go_wp2
              go_quiet (fail)
              go_wp2
              go_loopw [9] (fun t wr => ∃ k : Nat, k ≤ ns ∧ t = .int .i64 (k : Int) ∧ RowKit.Hid (∀ i, i < k → sl.getD i default = tl.getD i default) ∧ ∃ z, wr = W0.drewN z) (fun t _ => ns - (intOf t).toNat)
              case atStart => exact ⟨0, by omega, rfl, fun i hi => absurd hi (by omega), _, by first | rfl | exact World.drewN_drewN _ _ _⟩
              case round =>
                obtain ⟨k2, hk2, rfl, hE, z2, rfl⟩ := hrel
                by_cases hlt2 : k2 < ns
                · obtain ⟨u, ou, v, ov, rfl, rfl, hc⟩ := I1.out.twoP I2.out (by omega)
                  obtain ⟨f0, g0⟩ := hc k2 hlt2 0 (by omega)
                  obtain ⟨f1, g1⟩ := hc k2 hlt2 1 (by omega)
                  obtain ⟨f2, g2⟩ := hc k2 hlt2 2 (by omega)
                  simp only [icell, Nat.add_zero, List.getD_cons_zero, List.getD_cons_succ] at f0 g0 f1 g1 f2 g2
                  have kc2 : (k2 : Int) < (ns : Int) := by omega
                  clear hc
                  by_cases e : sl.getD k2 default = tl.getD k2 default
                  · have NY := Lib.hid (p := ∀ i, i < k2 + 1 → sl.getD i default = tl.getD i default) (fun i hi => by
                      rcases (show i < k2 ∨ i = k2 by omega) with r | r
                      · exact hE.out i r
                      · rw [r]; exact e)
                    rw [e] at f0 f1 f2
                    generalize tl.getD k2 default = zv at *
                    obtain ⟨zo, za, zb⟩ := zv
                    simp only at f0 g0 f1 g1 f2 g2
                    clear e
                    go_wp2
                    go_quiet (fail)
                    go_wp2
                    go_roundw
                    case rel => exact ⟨k2 + 1, by omega, by go_num, NY.out, _, by first | rfl | exact World.drewN_drewN _ _ _⟩
                    case measure => simp [intOf]; omega
                  · have R := Lib.hid (p := decide (Pg.key ⟨na, nc, names, ua, uc, curs, pa, pc, pool, hor, cells, slots, stack, some ⟨x, o, none⟩, dc, days⟩ = Pg.key ⟨na', nc', names', ua', uc', curs', pa', pc', pool', hor', cells', slots', stack', some ⟨y, p, none⟩, dc', days'⟩) = false) (decide_eq_false (fun z => e (by have := KM.out z; injection this with _ t2; rw [t2])))
                    generalize sl.getD k2 default = yv at *
                    generalize tl.getD k2 default = zv at *
                    obtain ⟨yo, ya, yb⟩ := yv
                    obtain ⟨zo, za, zb⟩ := zv
                    simp only at f0 g0 f1 g1 f2 g2
                    have e' : ¬ (yo = zo ∧ ya = za ∧ yb = zb) := fun ⟨q1, q2, q3⟩ => e (by rw [q1, q2, q3])
                    clear e
                    rcases (show ¬ yo = zo ∨ (yo = zo ∧ ¬ ya = za) ∨ (yo = zo ∧ ya = za ∧ ¬ yb = zb) by omega) with t | ⟨rfl, t⟩ | ⟨rfl, rfl, t⟩
                    all_goals
                      clear e'
                      go_wp2
                      go_quiet (fail)
                      go_wp2
                      go_ret
                      exact ⟨retBP R.out.symm, by first | exact BB.out _ | exact bel_dr (BB.out _) _⟩
                · obtain rfl : k2 = ns := by omega
                  have ES := Lib.hid (p := sl = tl) (list_eqP (by rw [LS.out, LT.out]) (fun i hi => hE.out i (by rw [LS.out] at hi; exact hi)))
                  go_wp2
                  go_roundw
                  case rel => exact ⟨m + 1, by omega, by go_num, NX.out (by rw [ES.out]), _, by first | rfl | exact World.drewN_drewN _ _ _⟩
                  case measure => simp [intOf]; omega
            · have R := Lib.hid (p := decide (Pg.key ⟨na, nc, names, ua, uc, curs, pa, pc, pool, hor, cells, slots, stack, some ⟨x, o, none⟩, dc, days⟩ = Pg.key ⟨na', nc', names', ua', uc', curs', pa', pc', pool', hor', cells', slots', stack', some ⟨y, p, none⟩, dc', days'⟩) = false) (decide_eq_false (fun z => e1 (by have := KM.out z; injection this with _ t2; rw [t2])))
              have b1 : ((sl.length : Int) == (tl.length : Int)) = false := by simp; omega
              have b2 : ((sl.length : Int) != (tl.length : Int)) = true := by simp; omega
              go_wp2
              go_quiet (fail)
              go_wp2
              go_ret
              exact ⟨retBP R.out.symm, by first | exact BB.out _ | exact bel_dr (BB.out _) _⟩
          · have R := Lib.hid (p := decide (Pg.key ⟨na, nc, names, ua, uc, curs, pa, pc, pool, hor, cells, slots, stack, some ⟨x, o, none⟩, dc, days⟩ = Pg.key ⟨na', nc', names', ua', uc', curs', pa', pc', pool', hor', cells', slots', stack', some ⟨y, p, none⟩, dc', days'⟩) = false) (decide_eq_false (fun z => e0 (by have := KM.out z; injection this)))
            have b1 : (sd == td) = false := by simpa using e0
            go_wp2
            go_quiet (fail)
            go_wp2
            go_ret
            exact ⟨retBP R.out.symm, by first | exact BB.out _ | exact bel_dr (BB.out _) _⟩
        · obtain rfl : m = nd := by omega
          have ED := Lib.hid (p := days.map Sg.key = days'.map Sg.key) (keys_eq (by rw [LD.out, LD'.out]) (fun i hi => hE.out i (by rw [LD.out] at hi; exact hi)))
          clear hE
          by_cases e0 : hor = hor'
          · by_cases e1 : cells = cells'
            · by_cases e2 : slots = slots'
              · by_cases e3 : stack = stack'
                · have R := Lib.hid (p := decide (Pg.key ⟨na, nc, names, ua, uc, curs, pa, pc, pool, hor, cells, slots, stack, da, dc, days⟩ = Pg.key ⟨na', nc', names', ua', uc', curs', pa', pc', pool', hor', cells', slots', stack', da', dc', days'⟩) = true) (decide_eq_true (KE.out EN.out EU.out EP.out e0 e1 e2 e3 ED.out))
                  subst e0 e1 e2 e3
                  go_wp2
                  go_ret
                  exact ⟨retBP R.out.symm, by first | exact BB.out _ | exact bel_dr (BB.out _) _⟩
                · have R := Lib.hid (p := decide (Pg.key ⟨na, nc, names, ua, uc, curs, pa, pc, pool, hor, cells, slots, stack, da, dc, days⟩ = Pg.key ⟨na', nc', names', ua', uc', curs', pa', pc', pool', hor', cells', slots', stack', da', dc', days'⟩) = false) (decide_eq_false (fun z => e3 (KK.out z).2.2.2.2.2.2.1))
                  have b3 : (stack == stack') = false := by simpa using e3
                  subst e0 e1 e2
                  go_wp2
                  go_ret
                  exact ⟨retBP R.out.symm, by first | exact BB.out _ | exact bel_dr (BB.out _) _⟩
              · have R := Lib.hid (p := decide (Pg.key ⟨na, nc, names, ua, uc, curs, pa, pc, pool, hor, cells, slots, stack, da, dc, days⟩ = Pg.key ⟨na', nc', names', ua', uc', curs', pa', pc', pool', hor', cells', slots', stack', da', dc', days'⟩) = false) (decide_eq_false (fun z => e2 (KK.out z).2.2.2.2.2.1))
                have b2 : (slots == slots') = false := by simpa using e2
                subst e0 e1
                go_wp2
                go_ret
                exact ⟨retBP R.out.symm, by first | exact BB.out _ | exact bel_dr (BB.out _) _⟩
            · have R := Lib.hid (p := decide (Pg.key ⟨na, nc, names, ua, uc, curs, pa, pc, pool, hor, cells, slots, stack, da, dc, days⟩ = Pg.key ⟨na', nc', names', ua', uc', curs', pa', pc', pool', hor', cells', slots', stack', da', dc', days'⟩) = false) (decide_eq_false (fun z => e1 (KK.out z).2.2.2.2.1))
              have b1 : (cells == cells') = false := by simpa using e1
              subst e0
              go_wp2
              go_ret
              exact ⟨retBP R.out.symm, by first | exact BB.out _ | exact bel_dr (BB.out _) _⟩
          · have R := Lib.hid (p := decide (Pg.key ⟨na, nc, names, ua, uc, curs, pa, pc, pool, hor, cells, slots, stack, da, dc, days⟩ = Pg.key ⟨na', nc', names', ua', uc', curs', pa', pc', pool', hor', cells', slots', stack', da', dc', days'⟩) = false) (decide_eq_false (fun z => e0 (KK.out z).2.2.2.1))
            have b0 : (hor == hor') = false := by simpa using e0
            go_wp2
            go_ret
            exact ⟨retBP R.out.symm, by first | exact BB.out _ | exact bel_dr (BB.out _) _⟩
end Go.Proofs.YtnebopckldmmkaaDoor
