/-
  WALK: Equal of the program (made by gen_wimg3.py).
-/
import Derived.Test.YtnebopckldmmkaaWImg2
namespace Go.Proofs.Ytnebopckldmmkaa
open Go.RowKit
set_option linter.unusedVariables false
set_option linter.unusedSimpArgs false
/-- What a program says, without where it lies. -/
def Pg.key (p : Pg) : List ByteArray × List ByteArray × List Int × Int × Int × Int × Int × List (Int × List In) := (p.names, p.curs, p.pool, p.hor, p.cells, p.slots, p.stack, p.days.map Sg.key)
noncomputable instance (p q : Pg) : Decidable (p.key = q.key) := Classical.propDecidable _
theorem key_eq {p q : Pg} (e0 : p.names = q.names) (e1 : p.curs = q.curs) (e2 : p.pool = q.pool) (e3 : p.hor = q.hor) (e4 : p.cells = q.cells) (e5 : p.slots = q.slots) (e6 : p.stack = q.stack) (e7 : p.days.map Sg.key = q.days.map Sg.key) : p.key = q.key := by
  unfold Pg.key; rw [e0, e1, e2, e3, e4, e5, e6, e7]
theorem key_of {p q : Pg} (h : p.key = q.key) : p.names = q.names ∧ p.curs = q.curs ∧ p.pool = q.pool ∧ p.hor = q.hor ∧ p.cells = q.cells ∧ p.slots = q.slots ∧ p.stack = q.stack ∧ p.days.map Sg.key = q.days.map Sg.key := by
  unfold Pg.key at h
  simp only [Prod.mk.injEq] at h
  exact h
def Pg.agg (p : Pg) : Value := .agg #[.slice p.na p.names.length p.nc, .slice p.ua p.curs.length p.uc, .slice p.pa p.pool.length p.pc, .int .i64 p.hor, .int .i64 p.cells, .int .i64 p.slots, .int .i64 p.stack, .slice p.da p.days.length p.dc]
def Pg.box (p : Pg) : Obj := .cells #[.slice p.na p.names.length p.nc, .slice p.ua p.curs.length p.uc, .slice p.pa p.pool.length p.pc, .int .i64 p.hor, .int .i64 p.cells, .int .i64 p.slots, .int .i64 p.stack, .slice p.da p.days.length p.dc] 26
set_option maxRecDepth 100000 in
set_option maxHeartbeats 4000000 in
theorem imgEqual_any {w : World} {p q : Pg} (h : PV w p) (h' : PV w q) :
    Calls Try.prog 5 #[p.agg, q.agg] w fun e w' => e = .returned (.bool (decide (p.key = q.key))) ∧ Below w.heap.size w w' := by
  have KN := Lib.hid (fun W (b : Below w.heap.size w W) => eqS_any (h.names.later b) (h'.names.later b))
  have KU := Lib.hid (fun W (b : Below w.heap.size w W) => eqS_any (h.curs.later b) (h'.curs.later b))
  have KP := Lib.hid (fun W (b : Below w.heap.size w W) => eqN_any (h.pool.later b) (h'.pool.later b))
  have KD := Lib.hid (fun W (b : Below w.heap.size w W) => eqF_any (h.days.later b) (h'.days.later b))
  have B0 := Lib.hid (alloc2 w p.box q.box)
  clear h h'
  unfold Pg.agg
  unfold Pg.box at B0
  by_cases e0 : p.names = q.names
  · by_cases e1 : p.curs = q.curs
    · by_cases e2 : p.pool = q.pool
      · by_cases e3 : p.hor = q.hor
        · by_cases e4 : p.cells = q.cells
          · by_cases e5 : p.slots = q.slots
            · by_cases e6 : p.stack = q.stack
              · by_cases e7 : p.days.map Sg.key = q.days.map Sg.key
                · have R := Lib.hid (p := decide (p.key = q.key) = true) (decide_eq_true (key_eq e0 e1 e2 e3 e4 e5 e6 e7))
                  simp only [decide_eq_true e0] at KN
                  simp only [decide_eq_true e1] at KU
                  simp only [decide_eq_true e2] at KP
                  simp only [decide_eq_true e7] at KD
                  clear e0 e1 e2 e7
                  obtain ⟨na, nc, names, ua, uc, curs, pa, pc, pool, hor, cells, slots, stack, da, dc, days⟩ := p
                  obtain ⟨na', nc', names', ua', uc', curs', pa', pc', pool', hor', cells', slots', stack', da', dc', days'⟩ := q
                  simp only at e3 e4 e5 e6
                  subst e3 e4 e5 e6
                  simp only at KN KU KP KD R B0
                  have Q1 : True := trivial
                  go_enter Try.func5, Try.ntmps5
                  go_wp2_with (first
                    | (go_at_call 8; have qq := Q1; refine (KN.out _ B0.out).mono ?_; rintro e w1 ⟨rfl, q1, rfl⟩; have B1 := Lib.hid (B0.out.trans ((drewBP _ q1).mono B0.out.size)); clear Q1)
                    | (go_at_call 8; refine (KU.out _ B1.out).mono ?_; rintro e w2 ⟨rfl, q2, rfl⟩; have B2 := B1.out.trans ((drewBP _ q2).mono B1.out.size); rw [World.drewN_drewN] at B2; have B2 := Lib.hid B2)
                    | (go_at_call 9; refine (KP.out _ B2.out).mono ?_; rintro e w3 ⟨rfl, q3, rfl⟩; have B3 := B2.out.trans ((drewBP _ q3).mono B2.out.size); rw [World.drewN_drewN] at B3; have B3 := Lib.hid B3)
                    | (go_at_call 10; refine (KD.out _ B3.out).mono ?_; rintro e w4 ⟨rfl, h4⟩; have B4 := Lib.hid (B3.out.trans (h4.mono B3.out.size)); clear h4))
                  go_ret
                  exact ⟨retBP R.out.symm, B4.out⟩
                · have R := Lib.hid (p := decide (p.key = q.key) = false) (decide_eq_false (fun z => e7 (key_of z).2.2.2.2.2.2.2))
                  simp only [decide_eq_true e0] at KN
                  simp only [decide_eq_true e1] at KU
                  simp only [decide_eq_true e2] at KP
                  simp only [decide_eq_false e7] at KD
                  clear e0 e1 e2 e7
                  obtain ⟨na, nc, names, ua, uc, curs, pa, pc, pool, hor, cells, slots, stack, da, dc, days⟩ := p
                  obtain ⟨na', nc', names', ua', uc', curs', pa', pc', pool', hor', cells', slots', stack', da', dc', days'⟩ := q
                  simp only at e3 e4 e5 e6
                  subst e3 e4 e5 e6
                  simp only at KN KU KP KD R B0
                  have Q1 : True := trivial
                  go_enter Try.func5, Try.ntmps5
                  go_wp2_with (first
                    | (go_at_call 8; have qq := Q1; refine (KN.out _ B0.out).mono ?_; rintro e w1 ⟨rfl, q1, rfl⟩; have B1 := Lib.hid (B0.out.trans ((drewBP _ q1).mono B0.out.size)); clear Q1)
                    | (go_at_call 8; refine (KU.out _ B1.out).mono ?_; rintro e w2 ⟨rfl, q2, rfl⟩; have B2 := B1.out.trans ((drewBP _ q2).mono B1.out.size); rw [World.drewN_drewN] at B2; have B2 := Lib.hid B2)
                    | (go_at_call 9; refine (KP.out _ B2.out).mono ?_; rintro e w3 ⟨rfl, q3, rfl⟩; have B3 := B2.out.trans ((drewBP _ q3).mono B2.out.size); rw [World.drewN_drewN] at B3; have B3 := Lib.hid B3)
                    | (go_at_call 10; refine (KD.out _ B3.out).mono ?_; rintro e w4 ⟨rfl, h4⟩; have B4 := Lib.hid (B3.out.trans (h4.mono B3.out.size)); clear h4))
                  go_ret
                  exact ⟨retBP R.out.symm, B4.out⟩
              · have R := Lib.hid (p := decide (p.key = q.key) = false) (decide_eq_false (fun z => e6 (key_of z).2.2.2.2.2.2.1))
                simp only [decide_eq_true e0] at KN
                simp only [decide_eq_true e1] at KU
                simp only [decide_eq_true e2] at KP
                have b6 : (p.stack == q.stack) = false := by simpa using e6
                clear e0 e1 e2 e6
                obtain ⟨na, nc, names, ua, uc, curs, pa, pc, pool, hor, cells, slots, stack, da, dc, days⟩ := p
                obtain ⟨na', nc', names', ua', uc', curs', pa', pc', pool', hor', cells', slots', stack', da', dc', days'⟩ := q
                simp only at e3 e4 e5
                subst e3 e4 e5
                simp only at KN KU KP KD R B0 b6
                have Q1 : True := trivial
                go_enter Try.func5, Try.ntmps5
                go_wp2_with (first
                  | (go_at_call 8; have qq := Q1; refine (KN.out _ B0.out).mono ?_; rintro e w1 ⟨rfl, q1, rfl⟩; have B1 := Lib.hid (B0.out.trans ((drewBP _ q1).mono B0.out.size)); clear Q1)
                  | (go_at_call 8; refine (KU.out _ B1.out).mono ?_; rintro e w2 ⟨rfl, q2, rfl⟩; have B2 := B1.out.trans ((drewBP _ q2).mono B1.out.size); rw [World.drewN_drewN] at B2; have B2 := Lib.hid B2)
                  | (go_at_call 9; refine (KP.out _ B2.out).mono ?_; rintro e w3 ⟨rfl, q3, rfl⟩; have B3 := B2.out.trans ((drewBP _ q3).mono B2.out.size); rw [World.drewN_drewN] at B3; have B3 := Lib.hid B3))
                go_ret
                exact ⟨retBP R.out.symm, B3.out⟩
            · have R := Lib.hid (p := decide (p.key = q.key) = false) (decide_eq_false (fun z => e5 (key_of z).2.2.2.2.2.1))
              simp only [decide_eq_true e0] at KN
              simp only [decide_eq_true e1] at KU
              simp only [decide_eq_true e2] at KP
              have b5 : (p.slots == q.slots) = false := by simpa using e5
              clear e0 e1 e2 e5
              obtain ⟨na, nc, names, ua, uc, curs, pa, pc, pool, hor, cells, slots, stack, da, dc, days⟩ := p
              obtain ⟨na', nc', names', ua', uc', curs', pa', pc', pool', hor', cells', slots', stack', da', dc', days'⟩ := q
              simp only at e3 e4
              subst e3 e4
              simp only at KN KU KP KD R B0 b5
              have Q1 : True := trivial
              go_enter Try.func5, Try.ntmps5
              go_wp2_with (first
                | (go_at_call 8; have qq := Q1; refine (KN.out _ B0.out).mono ?_; rintro e w1 ⟨rfl, q1, rfl⟩; have B1 := Lib.hid (B0.out.trans ((drewBP _ q1).mono B0.out.size)); clear Q1)
                | (go_at_call 8; refine (KU.out _ B1.out).mono ?_; rintro e w2 ⟨rfl, q2, rfl⟩; have B2 := B1.out.trans ((drewBP _ q2).mono B1.out.size); rw [World.drewN_drewN] at B2; have B2 := Lib.hid B2)
                | (go_at_call 9; refine (KP.out _ B2.out).mono ?_; rintro e w3 ⟨rfl, q3, rfl⟩; have B3 := B2.out.trans ((drewBP _ q3).mono B2.out.size); rw [World.drewN_drewN] at B3; have B3 := Lib.hid B3))
              go_ret
              exact ⟨retBP R.out.symm, B3.out⟩
          · have R := Lib.hid (p := decide (p.key = q.key) = false) (decide_eq_false (fun z => e4 (key_of z).2.2.2.2.1))
            simp only [decide_eq_true e0] at KN
            simp only [decide_eq_true e1] at KU
            simp only [decide_eq_true e2] at KP
            have b4 : (p.cells == q.cells) = false := by simpa using e4
            clear e0 e1 e2 e4
            obtain ⟨na, nc, names, ua, uc, curs, pa, pc, pool, hor, cells, slots, stack, da, dc, days⟩ := p
            obtain ⟨na', nc', names', ua', uc', curs', pa', pc', pool', hor', cells', slots', stack', da', dc', days'⟩ := q
            simp only at e3
            subst e3
            simp only at KN KU KP KD R B0 b4
            have Q1 : True := trivial
            go_enter Try.func5, Try.ntmps5
            go_wp2_with (first
              | (go_at_call 8; have qq := Q1; refine (KN.out _ B0.out).mono ?_; rintro e w1 ⟨rfl, q1, rfl⟩; have B1 := Lib.hid (B0.out.trans ((drewBP _ q1).mono B0.out.size)); clear Q1)
              | (go_at_call 8; refine (KU.out _ B1.out).mono ?_; rintro e w2 ⟨rfl, q2, rfl⟩; have B2 := B1.out.trans ((drewBP _ q2).mono B1.out.size); rw [World.drewN_drewN] at B2; have B2 := Lib.hid B2)
              | (go_at_call 9; refine (KP.out _ B2.out).mono ?_; rintro e w3 ⟨rfl, q3, rfl⟩; have B3 := B2.out.trans ((drewBP _ q3).mono B2.out.size); rw [World.drewN_drewN] at B3; have B3 := Lib.hid B3))
            go_ret
            exact ⟨retBP R.out.symm, B3.out⟩
        · have R := Lib.hid (p := decide (p.key = q.key) = false) (decide_eq_false (fun z => e3 (key_of z).2.2.2.1))
          simp only [decide_eq_true e0] at KN
          simp only [decide_eq_true e1] at KU
          simp only [decide_eq_true e2] at KP
          have b3 : (p.hor == q.hor) = false := by simpa using e3
          clear e0 e1 e2 e3
          obtain ⟨na, nc, names, ua, uc, curs, pa, pc, pool, hor, cells, slots, stack, da, dc, days⟩ := p
          obtain ⟨na', nc', names', ua', uc', curs', pa', pc', pool', hor', cells', slots', stack', da', dc', days'⟩ := q
          simp only at KN KU KP KD R B0 b3
          have Q1 : True := trivial
          go_enter Try.func5, Try.ntmps5
          go_wp2_with (first
            | (go_at_call 8; have qq := Q1; refine (KN.out _ B0.out).mono ?_; rintro e w1 ⟨rfl, q1, rfl⟩; have B1 := Lib.hid (B0.out.trans ((drewBP _ q1).mono B0.out.size)); clear Q1)
            | (go_at_call 8; refine (KU.out _ B1.out).mono ?_; rintro e w2 ⟨rfl, q2, rfl⟩; have B2 := B1.out.trans ((drewBP _ q2).mono B1.out.size); rw [World.drewN_drewN] at B2; have B2 := Lib.hid B2)
            | (go_at_call 9; refine (KP.out _ B2.out).mono ?_; rintro e w3 ⟨rfl, q3, rfl⟩; have B3 := B2.out.trans ((drewBP _ q3).mono B2.out.size); rw [World.drewN_drewN] at B3; have B3 := Lib.hid B3))
          go_ret
          exact ⟨retBP R.out.symm, B3.out⟩
      · have R := Lib.hid (p := decide (p.key = q.key) = false) (decide_eq_false (fun z => e2 (key_of z).2.2.1))
        simp only [decide_eq_true e0] at KN
        simp only [decide_eq_true e1] at KU
        simp only [decide_eq_false e2] at KP
        clear e0 e1 e2
        obtain ⟨na, nc, names, ua, uc, curs, pa, pc, pool, hor, cells, slots, stack, da, dc, days⟩ := p
        obtain ⟨na', nc', names', ua', uc', curs', pa', pc', pool', hor', cells', slots', stack', da', dc', days'⟩ := q
        simp only at KN KU KP KD R B0
        have Q1 : True := trivial
        go_enter Try.func5, Try.ntmps5
        go_wp2_with (first
          | (go_at_call 8; have qq := Q1; refine (KN.out _ B0.out).mono ?_; rintro e w1 ⟨rfl, q1, rfl⟩; have B1 := Lib.hid (B0.out.trans ((drewBP _ q1).mono B0.out.size)); clear Q1)
          | (go_at_call 8; refine (KU.out _ B1.out).mono ?_; rintro e w2 ⟨rfl, q2, rfl⟩; have B2 := B1.out.trans ((drewBP _ q2).mono B1.out.size); rw [World.drewN_drewN] at B2; have B2 := Lib.hid B2)
          | (go_at_call 9; refine (KP.out _ B2.out).mono ?_; rintro e w3 ⟨rfl, q3, rfl⟩; have B3 := B2.out.trans ((drewBP _ q3).mono B2.out.size); rw [World.drewN_drewN] at B3; have B3 := Lib.hid B3))
        go_ret
        exact ⟨retBP R.out.symm, B3.out⟩
    · have R := Lib.hid (p := decide (p.key = q.key) = false) (decide_eq_false (fun z => e1 (key_of z).2.1))
      simp only [decide_eq_true e0] at KN
      simp only [decide_eq_false e1] at KU
      clear e0 e1
      obtain ⟨na, nc, names, ua, uc, curs, pa, pc, pool, hor, cells, slots, stack, da, dc, days⟩ := p
      obtain ⟨na', nc', names', ua', uc', curs', pa', pc', pool', hor', cells', slots', stack', da', dc', days'⟩ := q
      simp only at KN KU KP KD R B0
      have Q1 : True := trivial
      go_enter Try.func5, Try.ntmps5
      go_wp2_with (first
        | (go_at_call 8; have qq := Q1; refine (KN.out _ B0.out).mono ?_; rintro e w1 ⟨rfl, q1, rfl⟩; have B1 := Lib.hid (B0.out.trans ((drewBP _ q1).mono B0.out.size)); clear Q1)
        | (go_at_call 8; refine (KU.out _ B1.out).mono ?_; rintro e w2 ⟨rfl, q2, rfl⟩; have B2 := B1.out.trans ((drewBP _ q2).mono B1.out.size); rw [World.drewN_drewN] at B2; have B2 := Lib.hid B2))
      go_ret
      exact ⟨retBP R.out.symm, B2.out⟩
  · have R := Lib.hid (p := decide (p.key = q.key) = false) (decide_eq_false (fun z => e0 (key_of z).1))
    simp only [decide_eq_false e0] at KN
    clear e0
    obtain ⟨na, nc, names, ua, uc, curs, pa, pc, pool, hor, cells, slots, stack, da, dc, days⟩ := p
    obtain ⟨na', nc', names', ua', uc', curs', pa', pc', pool', hor', cells', slots', stack', da', dc', days'⟩ := q
    simp only at KN KU KP KD R B0
    have Q1 : True := trivial
    go_enter Try.func5, Try.ntmps5
    go_wp2_with (first
      | (go_at_call 8; have qq := Q1; refine (KN.out _ B0.out).mono ?_; rintro e w1 ⟨rfl, q1, rfl⟩; have B1 := Lib.hid (B0.out.trans ((drewBP _ q1).mono B0.out.size)); clear Q1))
    go_ret
    exact ⟨retBP R.out.symm, B1.out⟩
end Go.Proofs.Ytnebopckldmmkaa
