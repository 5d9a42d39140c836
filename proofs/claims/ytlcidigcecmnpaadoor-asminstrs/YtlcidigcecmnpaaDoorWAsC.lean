/-
  THE LAW: AsmInstrs (made by gen_wasc.py).
-/
import Derived.Test.YtlcidigcecmnpaaDoorWAsB
import Derived.Test.YtlcidigcecmnpaaDoorWAs2
import Derived.Test.YtlcidigcecmnpaaDoorWAs3
import Derived.Test.YtlcidigcecmnpaaDoorWAs5
namespace Go.Proofs.YtlcidigcecmnpaaDoor
open Go.RowKit
set_option linter.unusedVariables false
set_option linter.unusedSimpArgs false
/-- A rounding's word, as the list says it. -/
def mdD {H : Type} (k : Nat) : DataW H := .lit (.string (mdA k).data.toList)
theorem mds_of_laid {w : World} {rest : List (String × DataW Unit)} (h : laidMet Tryd.prog (("payoff/asm.modes", Rows.laid_payoff_asm_modes) :: rest) w) : Mds w := by
  have hg : Tryd.prog.globalNamed "payoff/asm.modes" = some 2 := by kernel_rfl
  have hty : (Tryd.prog.globals[2]?).map (·.type) = some 70 := by kernel_rfl
  obtain ⟨ps, ⟨g', t', cs, fuel, p, q, hg', ht', hvar, hd, _, _⟩, _⟩ := h
  obtain rfl := Option.some.inj (hg.symm.trans hg')
  obtain rfl := Option.some.inj (hty.symm.trans ht')
  rw [show (Rows.laid_payoff_asm_modes : DataW Unit) = .agg ((List.range 5).map mdD) from rfl] at hd
  obtain ⟨xs, m, _, hx, hl, hlen, hel⟩ := DataW.trod_array Tryd.underlying70 hd
  rw [show Tryd.prog.cellsOf 70 = 5 by kernel_rfl] at hl
  rw [show Tryd.prog.cellsOf 9 = 1 by kernel_rfl] at hel
  have hx1 : xs.map (·.1) = (List.range 5).map mdD := by
    have := congrArg Prod.fst hx
    simp only [DataW.agg.injEq] at this
    exact this.symm
  have key : ∀ k, k < 5 → (cs.toList.drop (k * 1)).take 1 = [.string (mdA k)] := by
    intro k hk
    have h1 := hel k hk
    have hk' : k < xs.length := by omega
    rw [List.getElem?_eq_getElem hk'] at h1
    have h2 : (xs[k]).1 = mdD k := by
      have : (xs.map (·.1))[k]? = ((List.range 5).map mdD)[k]? := by rw [hx1]
      simpa [hk', hk] using this
    obtain ⟨z0, r0, q0, _⟩ := DataW.trod_string Tryd.underlying9 h1
    rw [q0] at h2
    unfold mdD at h2
    simp only [DataW.lit.injEq, Lit.string.injEq] at h2
    rw [r0]
    exact congrArg (fun t => [Value.string t]) (by
      have : z0.data.toList = (mdA k).data.toList := h2
      obtain ⟨⟨z0⟩⟩ := z0
      generalize mdA k = y at *
      obtain ⟨⟨y⟩⟩ := y
      simp at this
      rw [this])
  have cell : ∀ k, k < 5 → w.cell? ⟨2, k, none⟩ = some (.string (mdA k)) := by
    intro k hk
    rw [World.var?_cell hg hvar k]
    have := congrArg (fun l => l[0]?) (key k hk)
    simp only [List.getElem?_take_of_lt (show 0 < 1 by omega), List.getElem?_drop, Nat.mul_one, Nat.add_zero] at this
    simpa using this
  have lt : 2 < w.heap.size := by
    have c0 := cell 0 (by omega)
    unfold World.cell? at c0
    by_cases g : 2 < w.heap.size
    · exact g
    · rw [Array.getElem?_eq_none (by show w.heap.size ≤ 2; omega)] at c0
      simp at c0
  exact ⟨lt, cell⟩
theorem rmd_of_laid {w : World} {rest : List (String × DataW Unit)} (h : laidMet Tryd.prog (("payoff/payoffref13.modes", Rows.laid_payoff_payoffref13_modes) :: rest) w) : RMd w := by
  have hg : Tryd.prog.globalNamed "payoff/payoffref13.modes" = some 0 := by kernel_rfl
  have hty : (Tryd.prog.globals[0]?).map (·.type) = some 70 := by kernel_rfl
  obtain ⟨ps, ⟨g', t', cs, fuel, p, q, hg', ht', hvar, hd, _, _⟩, _⟩ := h
  obtain rfl := Option.some.inj (hg.symm.trans hg')
  obtain rfl := Option.some.inj (hty.symm.trans ht')
  rw [show (Rows.laid_payoff_payoffref13_modes : DataW Unit) = .agg ((List.range 5).map mdD) from rfl] at hd
  obtain ⟨xs, m, _, hx, hl, hlen, hel⟩ := DataW.trod_array Tryd.underlying70 hd
  rw [show Tryd.prog.cellsOf 70 = 5 by kernel_rfl] at hl
  rw [show Tryd.prog.cellsOf 9 = 1 by kernel_rfl] at hel
  have hx1 : xs.map (·.1) = (List.range 5).map mdD := by
    have := congrArg Prod.fst hx
    simp only [DataW.agg.injEq] at this
    exact this.symm
  have key : ∀ k, k < 5 → (cs.toList.drop (k * 1)).take 1 = [.string (mdA k)] := by
    intro k hk
    have h1 := hel k hk
    have hk' : k < xs.length := by omega
    rw [List.getElem?_eq_getElem hk'] at h1
    have h2 : (xs[k]).1 = mdD k := by
      have : (xs.map (·.1))[k]? = ((List.range 5).map mdD)[k]? := by rw [hx1]
      simpa [hk', hk] using this
    obtain ⟨z0, r0, q0, _⟩ := DataW.trod_string Tryd.underlying9 h1
    rw [q0] at h2
    unfold mdD at h2
    simp only [DataW.lit.injEq, Lit.string.injEq] at h2
    rw [r0]
    exact congrArg (fun t => [Value.string t]) (by
      have : z0.data.toList = (mdA k).data.toList := h2
      obtain ⟨⟨z0⟩⟩ := z0
      generalize mdA k = y at *
      obtain ⟨⟨y⟩⟩ := y
      simp at this
      rw [this])
  have cell : ∀ k, k < 5 → w.cell? ⟨0, k, none⟩ = some (.string (mdA k)) := by
    intro k hk
    rw [World.var?_cell hg hvar k]
    have := congrArg (fun l => l[0]?) (key k hk)
    simp only [List.getElem?_take_of_lt (show 0 < 1 by omega), List.getElem?_drop, Nat.mul_one, Nat.add_zero] at this
    simpa using this
  have lt : 0 < w.heap.size := by
    have c0 := cell 0 (by omega)
    unfold World.cell? at c0
    by_cases g : 0 < w.heap.size
    · exact g
    · rw [Array.getElem?_eq_none (by show w.heap.size ≤ 0; omega)] at c0
      simp at c0
  exact ⟨lt, cell⟩

/-- What stands in the law: the boxes of the program, the instruction, the copy. -/
structure ZC (w W : World) (p : Pg) (i : In) (q : Pg) (g : Nat) : Prop where
  pi : PI w W p i
  bq : BkP W g q.arr 26
  cp : CpE W p q
theorem ZC.later {w W W' : World} {p : Pg} {i : In} {q : Pg} {g : Nat} (h : ZC w W p i q g) (b : Below W.heap.size W W') : ZC w W' p i q g :=
  ⟨h.pi.later b, h.bq.grown (gr_below b none) (fun e => by cases e), h.cp.later b⟩
structure ZQ (W : World) (q : Pg) (g : Nat) : Prop where
  y0 : W.cell? ⟨g, 0, none⟩ = some (.slice q.na q.names.length q.nc)
  y1 : W.cell? ⟨g, 1, none⟩ = some (.slice q.ua q.curs.length q.uc)
  y2 : W.cell? ⟨g, 2, none⟩ = some (.slice q.pa q.pool.length q.pc)
  y3 : W.cell? ⟨g, 3, none⟩ = some (.int .i64 q.hor)
  y4 : W.cell? ⟨g, 4, none⟩ = some (.int .i64 q.cells)
  y5 : W.cell? ⟨g, 5, none⟩ = some (.int .i64 q.slots)
  y6 : W.cell? ⟨g, 6, none⟩ = some (.int .i64 q.stack)
  y7 : W.cell? ⟨g, 7, none⟩ = some (.slice q.da q.days.length q.dc)
theorem ZC.gq {w W : World} {p : Pg} {i : In} {q : Pg} {g : Nat} (h : ZC w W p i q g) : ZQ W q g := ⟨h.bq.cell 0, h.bq.cell 1, h.bq.cell 2, h.bq.cell 3, h.bq.cell 4, h.bq.cell 5, h.bq.cell 6, h.bq.cell 7⟩
set_option maxRecDepth 100000 in
set_option maxHeartbeats 8000000 in
theorem asmInstrs_any {w : World} {p : Pg} (h : PV w p) (o a b : Int) (hR : Rws w) (hP : Pows w) (hM : Mds w) (hN : RMd w) :
    Calls Tryd.prog 3 #[p.agg, .agg #[.int .i64 o, .int .i64 a, .int .i64 b]] w fun e w' => e = .returned (.bool true) ∧ Below w.heap.size w w' := by
  have X0 := pi_start w p ⟨o, a, b⟩
  obtain ⟨c0, c1, c2, c3, c4, c5, c6, c7, d0, d1, d2⟩ := X0.get
  have X := Lib.hid X0
  have KC := Lib.hid (fun W (b : Below w.heap.size w W) => copyP_any (h.later b))
  have KR := Lib.hid (fun W (b' : Below w.heap.size w W) => refPrintInstr_any (h.later b') ⟨o, a, b⟩ (hN.later b'))
  have KP := Lib.hid (p := ∀ W (b' : Below w.heap.size w W) (q : Pg) (e : CpE W p q), Calls Tryd.prog 5 #[q.agg, .agg #[.int .i64 o, .int .i64 a, .int .i64 b]] W fun e w' => e = .returned (.tuple #[.string (prT p.names p.curs p.pool ⟨o, a, b⟩), .int .i64 (prE p.names p.curs p.pool ⟨o, a, b⟩)]) ∧ Below W.heap.size W w') (fun W b' q e => by
    have := printInstr_any (e.pv h) ⟨o, a, b⟩ (hR.below b') (hP.later b') (hM.later b')
    obtain ⟨k0, k1, k2, _⟩ := key_of e.key
    rw [k0, k1, k2] at this
    exact this)
  have KS := Lib.hid (fun W (b' : Below w.heap.size w W) (q : Pg) (e : CpE W p q) => same13_any (h.later b') (e.pv h) e.key)
  have KL := Lib.hid (fun W (q : Pg) (e : CpE W p q) => left_any h e)
  clear h hR hP hM hN X0
  generalize prT p.names p.curs p.pool ⟨o, a, b⟩ = T at *
  generalize prE p.names p.curs p.pool ⟨o, a, b⟩ = E at *
  unfold inC at *
  unfold Pg.arr at *
  unfold Pg.agg at *
  simp only at *
  generalize hW0 : (w.alloc _).alloc _ = W0 at *
  go_enter Tryd.func3, Tryd.ntmps3
  go_wp2_with (first
    | (go_at_call 4; refine (KC.out _ X.out.bel).mono ?_; rintro e w1 ⟨q, rfl, hq, b1⟩; have Z1 := Lib.hid (p := ZC w (w1.alloc (.cells #[.slice q.na q.names.length q.nc, .slice q.ua q.curs.length q.uc, .slice q.pa q.pool.length q.pc, .int .i64 q.hor, .int .i64 q.cells, .int .i64 q.slots, .int .i64 q.stack, .slice q.da q.days.length q.dc] 26)) p ⟨o, a, b⟩ q w1.heap.size) ⟨(X.out.later b1).later (allocBP _ _), heapN _ _, hq.later (allocBP _ _)⟩; obtain ⟨W1, hW1⟩ : ∃ W, w1.alloc (.cells #[.slice q.na q.names.length q.nc, .slice q.ua q.curs.length q.uc, .slice q.pa q.pool.length q.pc, .int .i64 q.hor, .int .i64 q.cells, .int .i64 q.slots, .int .i64 q.stack, .slice q.da q.days.length q.dc] 26) = W := ⟨_, rfl⟩; rw [hW1] at Z1; clear b1 hq c0 c1 c2 c3 c4 c5 c6 c7 d0 d1 d2; obtain ⟨c0, c1, c2, c3, c4, c5, c6, c7, d0, d1, d2⟩ := Z1.out.pi.get; obtain ⟨y0, y1, y2, y3, y4, y5, y6, y7⟩ := Z1.out.gq; simp only at c0 c1 c2 c3 c4 c5 c6 c7 d0 d1 d2 y0 y1 y2 y3 y4 y5 y6 y7)
    | (go_at_call 5; refine (KP.out _ Z1.out.pi.bel q Z1.out.cp).mono ?_; rintro e w2 ⟨rfl, b1⟩; have Z2 := Lib.hid (Z1.out.later b1); clear b1 c0 c1 c2 c3 c4 c5 c6 c7 d0 d1 d2 y0 y1 y2 y3 y4 y5 y6 y7; obtain ⟨c0, c1, c2, c3, c4, c5, c6, c7, d0, d1, d2⟩ := Z2.out.pi.get; obtain ⟨y0, y1, y2, y3, y4, y5, y6, y7⟩ := Z2.out.gq; simp only at c0 c1 c2 c3 c4 c5 c6 c7 d0 d1 d2 y0 y1 y2 y3 y4 y5 y6 y7)
    | (go_at_call 6; refine (KR.out _ Z2.out.pi.bel).mono ?_; rintro e w3 ⟨rfl, b1⟩; have Z3 := Lib.hid (Z2.out.later b1); clear b1 c0 c1 c2 c3 c4 c5 c6 c7 d0 d1 d2 y0 y1 y2 y3 y4 y5 y6 y7; obtain ⟨c0, c1, c2, c3, c4, c5, c6, c7, d0, d1, d2⟩ := Z3.out.pi.get; obtain ⟨y0, y1, y2, y3, y4, y5, y6, y7⟩ := Z3.out.gq; simp only at c0 c1 c2 c3 c4 c5 c6 c7 d0 d1 d2 y0 y1 y2 y3 y4 y5 y6 y7)
    | (go_at_call 7; refine (KS.out _ Z3.out.pi.bel q Z3.out.cp).mono ?_; rintro e w4 ⟨rfl, b1⟩; have Z4 := Lib.hid (Z3.out.later b1); clear b1 c0 c1 c2 c3 c4 c5 c6 c7 d0 d1 d2 y0 y1 y2 y3 y4 y5 y6 y7; obtain ⟨y0, y1, y2, y3, y4, y5, y6, y7⟩ := Z4.out.gq)
    | (go_at_call 8; refine (KL.out _ q Z4.out.cp).mono ?_; rintro e w5 ⟨rfl, b1⟩; have Z5 := Lib.hid (Z4.out.later b1); clear b1))
  go_ret
  exact ⟨rfl, Z5.out.pi.bel⟩
end Go.Proofs.YtlcidigcecmnpaaDoor
