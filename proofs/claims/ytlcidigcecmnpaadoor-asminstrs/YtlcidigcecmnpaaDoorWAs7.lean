/-
  WALKS: instructions printed, by the program.
-/
import Derived.Test.YtlcidigcecmnpaaDoorWAs6
namespace Go.Proofs.YtlcidigcecmnpaaDoor
open Go.RowKit
set_option linter.unusedVariables false
set_option linter.unusedSimpArgs false

abbrev inC (i : In) : Obj := .cells #[.int .i64 i.o, .int .i64 i.a, .int .i64 i.b] 28
/-- The boxes of a program and an instruction. -/
structure PI (w W : World) (p : Pg) (i : In) : Prop where
  bel : Below w.heap.size w W
  p0 : BkP W w.heap.size p.arr 26
  i0 : BkP W (w.heap.size + 1) #[.int .i64 i.o, .int .i64 i.a, .int .i64 i.b] 28
theorem PI.later {w W W' : World} {p : Pg} {i : In} (h : PI w W p i) (b : Below W.heap.size W W') : PI w W' p i :=
  ⟨h.bel.trans (b.mono h.bel.size), h.p0.grown (gr_below b none) (fun e => by cases e), h.i0.grown (gr_below b none) (fun e => by cases e)⟩
theorem pi_start (w : World) (p : Pg) (i : In) : PI w ((w.alloc (.cells p.arr 26)).alloc (inC i)) p i := by
  have e1 : (w.alloc (.cells p.arr 26)).heap.size = w.heap.size + 1 := by simp
  refine ⟨alloc2 w _ _, (Below.heap_alloc _ _ _ (by simp)).trans (heapN w _), ?_⟩
  have := heapN (w.alloc (.cells p.arr 26)) (inC i)
  rwa [e1] at this
structure PI.cells (w W : World) (p : Pg) (i : In) : Prop where
  c0 : W.cell? ⟨w.heap.size, 0, none⟩ = some (.slice p.na p.names.length p.nc)
  c1 : W.cell? ⟨w.heap.size, 1, none⟩ = some (.slice p.ua p.curs.length p.uc)
  c2 : W.cell? ⟨w.heap.size, 2, none⟩ = some (.slice p.pa p.pool.length p.pc)
  c3 : W.cell? ⟨w.heap.size, 3, none⟩ = some (.int .i64 p.hor)
  c4 : W.cell? ⟨w.heap.size, 4, none⟩ = some (.int .i64 p.cells)
  c5 : W.cell? ⟨w.heap.size, 5, none⟩ = some (.int .i64 p.slots)
  c6 : W.cell? ⟨w.heap.size, 6, none⟩ = some (.int .i64 p.stack)
  c7 : W.cell? ⟨w.heap.size, 7, none⟩ = some (.slice p.da p.days.length p.dc)
  d0 : W.cell? ⟨w.heap.size + 1, 0, none⟩ = some (.int .i64 i.o)
  d1 : W.cell? ⟨w.heap.size + 1, 1, none⟩ = some (.int .i64 i.a)
  d2 : W.cell? ⟨w.heap.size + 1, 2, none⟩ = some (.int .i64 i.b)
theorem PI.get {w W : World} {p : Pg} {i : In} (h : PI w W p i) : PI.cells w W p i :=
  ⟨h.p0.cell 0, h.p0.cell 1, h.p0.cell 2, h.p0.cell 3, h.p0.cell 4, h.p0.cell 5, h.p0.cell 6, h.p0.cell 7, h.i0.cell 0, h.i0.cell 1, h.i0.cell 2⟩
theorem i64_nat {k : Nat} (h : k ≤ 1000000) : i64 (k : Int) := by
  unfold i64
  simp [Lit.wf, IntKind.min, IntKind.max, IntKind.bits, IntKind.signed]; omega
theorem pool_i64 {w : World} {p : Pg} (h : PV w p) (k : Nat) : i64 (p.pool.getD k 0) := by
  by_cases hk : k < p.pool.length
  · have := h.pool.2.2.2.1 (p.pool.getD k 0) (by simp [List.getD, hk])
    exact this
  · rw [show p.pool.getD k 0 = 0 by simp [List.getD, List.getElem?_eq_none (show p.pool.length ≤ k by omega)]]
    exact i64_nat (k := 0) (by omega)
set_option maxRecDepth 100000 in
set_option maxHeartbeats 4000000 in
theorem operandText_any {w : World} {p : Pg} (h : PV w p) (i : In) (hi : i.okP) (hP : Pows w) (hM : Mds w) :
    Calls Tryd.prog 21 #[p.agg, .agg #[.int .i64 i.o, .int .i64 i.a, .int .i64 i.b]] w fun e w' => e = .returned (.tuple #[.string (fstW p.names p.curs p.pool i), .bool (fstB p.names p.curs p.pool i)]) ∧ Below w.heap.size w w' := by
  obtain ⟨h1, h2, h3, h4, h5, h6⟩ := hi
  obtain ⟨o, a, b⟩ := i
  simp only at h1 h2 h3 h4 h5 h6
  obtain ⟨x, rfl⟩ : ∃ x : Nat, a = x := ⟨a.toNat, by omega⟩
  have hx : x ≤ 262143 := by have := (tab_facts o.toNat (by omega)).2.1; omega
  have X0 := pi_start w p ⟨o, x, b⟩
  obtain ⟨c0, c1, c2, c3, c4, c5, c6, c7, d0, d1, d2⟩ := X0.get
  have B0 := Lib.hid X0.bel
  have KI := Lib.hid (fun W (b : Below w.heap.size w W) => atI_any (h.pool.later b) x)
  have KN := Lib.hid (fun W (b : Below w.heap.size w W) => atS_any (h.names.later b) x)
  have KU := Lib.hid (fun W (b : Below w.heap.size w W) => atS_any (h.curs.later b) x)
  have KV := Lib.hid (fun W (b : Below w.heap.size w W) => valueText_any (p.pool.getD x 0) (pool_i64 h x) W (hP.later b))
  have KA := Lib.hid (fun W (b : Below w.heap.size w W) => valueText_any (x : Int) (i64_nat (by omega)) W (hP.later b))
  have MM := Lib.hid (fun W (b : Below w.heap.size w W) => hM.later b)
  unfold inC at *
  unfold Pg.arr at *
  unfold Pg.agg
  unfold fstW fstB
  simp only [Int.toNat_natCast] at *
  clear X0 h hP hM h3 h5 h6
  generalize hW0 : (w.alloc _).alloc _ = W0 at *
  by_cases e1 : o = 1
  · subst e1
    simp only [if_true]
    clear KN KU KA MM
    generalize p.pool.getD x 0 = v at *
    generalize decide ((x : Int) < (p.pool.length : Int)) = z at *
    go_enter Tryd.func21, Tryd.ntmps21
    go_wp2_with (first
      | (go_at_call 30; refine (KI.out _ B0.out).mono ?_; rintro e w1 ⟨rfl, rfl⟩)
      | (go_at_call 22; refine (KV.out _ B0.out).mono ?_; rintro e w2 ⟨rfl, b2⟩; have B2 := Lib.hid (B0.out.trans (b2.mono B0.out.size)); clear b2))
    go_ret2
    exact ⟨rfl, B2.out⟩
  · by_cases e2 : o = 3
    · subst e2
      simp only [show ¬ (3 : Int) = 1 by decide, if_true, if_false]
      clear KI KU KA KV MM
      generalize p.names.getD x ⟨#[]⟩ = v at *
      generalize decide ((x : Int) < (p.names.length : Int)) = z at *
      go_enter Tryd.func21, Tryd.ntmps21
      go_wp2_with (first
        | (go_at_call 31; refine (KN.out _ B0.out).mono ?_; rintro e w1 ⟨rfl, rfl⟩))
      go_ret2
      exact ⟨rfl, B0.out⟩
    · by_cases e3 : o = 28
      · subst e3
        simp only [show ¬ (28 : Int) = 1 by decide, show ¬ (28 : Int) = 3 by decide, if_true, if_false]
        clear KI KN KA KV MM
        generalize p.curs.getD x ⟨#[]⟩ = v at *
        generalize decide ((x : Int) < (p.curs.length : Int)) = z at *
        go_enter Tryd.func21, Tryd.ntmps21
        go_wp2_with (first
          | (go_at_call 31; refine (KU.out _ B0.out).mono ?_; rintro e w1 ⟨rfl, rfl⟩))
        go_ret2
        exact ⟨rfl, B0.out⟩
      · by_cases e4 : o = 18
        · subst e4
          simp only [show ¬ (18 : Int) = 1 by decide, show ¬ (18 : Int) = 3 by decide, show ¬ (18 : Int) = 28 by decide, if_true, if_false]
          have hx5 : x < 5 := by have : baA (18 : Int).toNat = 4 := rfl; omega
          have m0 := (MM.out _ B0.out).2 x hx5
          have q1 : (x : Int) < 5 := by omega
          clear KI KN KU KA KV MM
          generalize mdA x = v at *
          go_enter Tryd.func21, Tryd.ntmps21
          go_wp2
          go_ret2
          exact ⟨rfl, B0.out⟩
        · simp only [if_neg e1, if_neg e2, if_neg e3, if_neg e4]
          clear KI KN KU KV MM
          have f1 : (o == 1) = false := by simpa using e1
          have f2 : (o == 3) = false := by simpa using e2
          have f3 : (o == 28) = false := by simpa using e3
          have f4 : (o == 18) = false := by simpa using e4
          go_enter Tryd.func21, Tryd.ntmps21
          go_wp2_with (first
            | (go_at_call 22; refine (KA.out _ B0.out).mono ?_; rintro e w2 ⟨rfl, b2⟩; have B2 := Lib.hid (B0.out.trans (b2.mono B0.out.size)); clear b2))
          go_ret2
          exact ⟨rfl, B2.out⟩
end Go.Proofs.YtlcidigcecmnpaaDoor
