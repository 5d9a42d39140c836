/-
  WALK: the document's Equal (made by gen_wimg4.py).
-/
import Derived.Test.YtnebopckldmmkaaDoorWImg4
namespace Go.Proofs.YtnebopckldmmkaaDoor
open Go.RowKit
set_option linter.unusedVariables false
set_option linter.unusedSimpArgs false
set_option maxRecDepth 100000 in
set_option maxHeartbeats 40000000 in
theorem refEqual_any {w : World} {p q : Pg} (h : PV w p) (h' : PV w q) :
    Calls Tryd.prog 13 #[p.agg, q.agg] w fun e w' => e = .returned (.bool (decide (p.key = q.key))) ∧ Below w.heap.size w w' := by
  have KN := Lib.hid (fun W (b : Below w.heap.size w W) => sameTexts12_any (h.names.later b) (h'.names.later b))
  have KU := Lib.hid (fun W (b : Below w.heap.size w W) => sameTexts12_any (h.curs.later b) (h'.curs.later b))
  have B0 := Lib.hid (alloc2 w p.box q.box)
  have KK := Lib.hid (p := p.key = q.key → p.names = q.names ∧ p.curs = q.curs ∧ p.pool = q.pool ∧ p.hor = q.hor ∧ p.cells = q.cells ∧ p.slots = q.slots ∧ p.stack = q.stack ∧ p.days.map Sg.key = q.days.map Sg.key) key_of
  have KE := Lib.hid (p := p.names = q.names → p.curs = q.curs → p.pool = q.pool → p.hor = q.hor → p.cells = q.cells → p.slots = q.slots → p.stack = q.stack → p.days.map Sg.key = q.days.map Sg.key → p.key = q.key) key_eq
  have HP := Lib.hid h
  have HQ := Lib.hid h'
  clear h h'
  unfold Pg.agg
  unfold Pg.box at B0
  by_cases eN : p.names = q.names
  · simp only [decide_eq_true eN] at KN
    by_cases eU : p.curs = q.curs
    · simp only [decide_eq_true eU] at KU
      by_cases eP : p.pool.length = q.pool.length
      · by_cases eD : p.days.length = q.days.length
        · exact refEqual_in HP.out HQ.out eN eU eP eD
        · have R := Lib.hid (p := decide (p.key = q.key) = false) (decide_eq_false (fun z => eD (days_len (key_of z).2.2.2.2.2.2.2)))
          have b1 : ((p.days.length : Int) == (q.days.length : Int)) = false := by simp; omega
          have b2 : ((p.days.length : Int) != (q.days.length : Int)) = true := by simp; omega
          have b3 : ((p.pool.length : Int) == (q.pool.length : Int)) = true := by simp; omega
          have b4 : ((p.pool.length : Int) != (q.pool.length : Int)) = false := by simp; omega
          clear HP HQ eN eU eP
          obtain ⟨na, nc, names, ua, uc, curs, pa, pc, pool, hor, cells, slots, stack, da, dc, days⟩ := p
          obtain ⟨na', nc', names', ua', uc', curs', pa', pc', pool', hor', cells', slots', stack', da', dc', days'⟩ := q
          simp only at KN KU R B0 b1 b2 b3 b4
          have Q1 : True := trivial
          go_enter Tryd.func13, Tryd.ntmps13
          go_wp2_with (first
            | (go_at_call 23; have qq := Q1; refine (KN.out _ B0.out).mono ?_; rintro e w1 ⟨rfl, q1, rfl⟩; have B1 := Lib.hid (B0.out.trans ((drewBP _ q1).mono B0.out.size)); clear Q1)
            | (go_at_call 23; refine (KU.out _ B1.out).mono ?_; rintro e w2 ⟨rfl, q2, rfl⟩; have B2 := B1.out.trans ((drewBP _ q2).mono B1.out.size); rw [World.drewN_drewN] at B2; have B2 := Lib.hid B2))
          go_ret
          exact ⟨retBP R.out.symm, B2.out⟩
      · have R := Lib.hid (p := decide (p.key = q.key) = false) (decide_eq_false (fun z => eP (by rw [(key_of z).2.2.1])))
        have b1 : ((p.pool.length : Int) == (q.pool.length : Int)) = false := by simp; omega
        have b2 : ((p.pool.length : Int) != (q.pool.length : Int)) = true := by simp; omega
        clear HP HQ eN eU
        obtain ⟨na, nc, names, ua, uc, curs, pa, pc, pool, hor, cells, slots, stack, da, dc, days⟩ := p
        obtain ⟨na', nc', names', ua', uc', curs', pa', pc', pool', hor', cells', slots', stack', da', dc', days'⟩ := q
        simp only at KN KU R B0 b1 b2
        have Q1 : True := trivial
        go_enter Tryd.func13, Tryd.ntmps13
        go_wp2_with (first
          | (go_at_call 23; have qq := Q1; refine (KN.out _ B0.out).mono ?_; rintro e w1 ⟨rfl, q1, rfl⟩; have B1 := Lib.hid (B0.out.trans ((drewBP _ q1).mono B0.out.size)); clear Q1)
          | (go_at_call 23; refine (KU.out _ B1.out).mono ?_; rintro e w2 ⟨rfl, q2, rfl⟩; have B2 := B1.out.trans ((drewBP _ q2).mono B1.out.size); rw [World.drewN_drewN] at B2; have B2 := Lib.hid B2))
        go_ret
        exact ⟨retBP R.out.symm, B2.out⟩
    · have R := Lib.hid (p := decide (p.key = q.key) = false) (decide_eq_false (fun z => eU (key_of z).2.1))
      simp only [decide_eq_false eU] at KU
      clear HP HQ eN
      obtain ⟨na, nc, names, ua, uc, curs, pa, pc, pool, hor, cells, slots, stack, da, dc, days⟩ := p
      obtain ⟨na', nc', names', ua', uc', curs', pa', pc', pool', hor', cells', slots', stack', da', dc', days'⟩ := q
      simp only at KN KU R B0
      have Q1 : True := trivial
      go_enter Tryd.func13, Tryd.ntmps13
      go_wp2_with (first
        | (go_at_call 23; have qq := Q1; refine (KN.out _ B0.out).mono ?_; rintro e w1 ⟨rfl, q1, rfl⟩; have B1 := Lib.hid (B0.out.trans ((drewBP _ q1).mono B0.out.size)); clear Q1)
        | (go_at_call 23; refine (KU.out _ B1.out).mono ?_; rintro e w2 ⟨rfl, q2, rfl⟩; have B2 := B1.out.trans ((drewBP _ q2).mono B1.out.size); rw [World.drewN_drewN] at B2; have B2 := Lib.hid B2))
      go_ret
      exact ⟨retBP R.out.symm, B2.out⟩
  · have R := Lib.hid (p := decide (p.key = q.key) = false) (decide_eq_false (fun z => eN (key_of z).1))
    simp only [decide_eq_false eN] at KN
    clear HP HQ
    obtain ⟨na, nc, names, ua, uc, curs, pa, pc, pool, hor, cells, slots, stack, da, dc, days⟩ := p
    obtain ⟨na', nc', names', ua', uc', curs', pa', pc', pool', hor', cells', slots', stack', da', dc', days'⟩ := q
    simp only at KN KU R B0
    have Q1 : True := trivial
    go_enter Tryd.func13, Tryd.ntmps13
    go_wp2_with (first
      | (go_at_call 23; have qq := Q1; refine (KN.out _ B0.out).mono ?_; rintro e w1 ⟨rfl, q1, rfl⟩; have B1 := Lib.hid (B0.out.trans ((drewBP _ q1).mono B0.out.size)); clear Q1)
      | (go_at_call 23; refine (KU.out _ B1.out).mono ?_; rintro e w2 ⟨rfl, q2, rfl⟩; have B2 := B1.out.trans ((drewBP _ q2).mono B1.out.size); rw [World.drewN_drewN] at B2; have B2 := Lib.hid B2))
    go_ret
    exact ⟨retBP R.out.symm, B2.out⟩
end Go.Proofs.YtnebopckldmmkaaDoor
