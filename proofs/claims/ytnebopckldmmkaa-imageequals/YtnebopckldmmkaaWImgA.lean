/-
  THE STATEMENT ImageEquals (made by gen_wimga.py).
-/
import Derived.Test.YtnebopckldmmkaaWImg9
import Derived.Test.YtnebopckldmmkaaWImg6
namespace Go.Proofs.Ytnebopckldmmkaa
open Go.RowKit
set_option linter.unusedVariables false
set_option linter.unusedSimpArgs false
/-- What stands between the calls. -/
structure LS (w W : World) (a b x y : Pg) (X Y : Nat) : Prop where
  bel : Below w.heap.size w W
  ba : BkP W w.heap.size a.arr 26
  bb : BkP W (w.heap.size + 1) b.arr 26
  bx : BkP W X x.arr 26
  by_ : BkP W Y y.arr 26
  pa : PV W a
  pb : PV W b
  ox : OwnE W a x
  oy : OwnE W b y
theorem BkP.later {W W' : World} {b : Nat} {cs : Array Value} {t : TypeId} (h : BkP W b cs t) (g : Below W.heap.size W W') : BkP W' b cs t := h.grown (gr_below g none) (by simp)
theorem LS.later {w W W' : World} {a b x y : Pg} {X Y : Nat} (h : LS w W a b x y X Y) (g : Below W.heap.size W W') : LS w W' a b x y X Y :=
  ⟨h.bel.trans (g.mono h.bel.size), h.ba.later g, h.bb.later g, h.bx.later g, h.by_.later g, h.pa.later g, h.pb.later g, h.ox.later g, h.oy.later g⟩
theorem LS.px {w W : World} {a b x y : Pg} {X Y : Nat} (h : LS w W a b x y X Y) : PV W x := h.ox.pv h.pa
theorem LS.py {w W : World} {a b x y : Pg} {X Y : Nat} (h : LS w W a b x y X Y) : PV W y := h.oy.pv h.pb
theorem box_arr {W : World} {X : Nat} {p : Pg} (h : BkP W X p.arr 26) : W.heap[X]? = some (.cells #[.slice p.na p.names.length p.nc, .slice p.ua p.curs.length p.uc, .slice p.pa p.pool.length p.pc, .int .i64 p.hor, .int .i64 p.cells, .int .i64 p.slots, .int .i64 p.stack, .slice p.da p.days.length p.dc] 26) := h
theorem key_dec {a b x y : Pg} {β : Bool} (h1 : x.key = a.key) (h2 : y.key = b.key) (h : decide (a.key = b.key) = β) : decide (x.key = y.key) = β := by rw [← h]; exact decide_eq_decide.2 (by rw [h1, h2])
theorem LS.allCells {w W : World} {a b x y : Pg} {X Y : Nat} (h : LS w W a b x y X Y) : W.cell? ⟨w.heap.size, 0, none⟩ = some (.slice a.na a.names.length a.nc) ∧ W.cell? ⟨w.heap.size, 1, none⟩ = some (.slice a.ua a.curs.length a.uc) ∧ W.cell? ⟨w.heap.size, 2, none⟩ = some (.slice a.pa a.pool.length a.pc) ∧ W.cell? ⟨w.heap.size, 3, none⟩ = some (.int .i64 a.hor) ∧ W.cell? ⟨w.heap.size, 4, none⟩ = some (.int .i64 a.cells) ∧ W.cell? ⟨w.heap.size, 5, none⟩ = some (.int .i64 a.slots) ∧ W.cell? ⟨w.heap.size, 6, none⟩ = some (.int .i64 a.stack) ∧ W.cell? ⟨w.heap.size, 7, none⟩ = some (.slice a.da a.days.length a.dc) ∧ W.cell? ⟨w.heap.size + 1, 0, none⟩ = some (.slice b.na b.names.length b.nc) ∧ W.cell? ⟨w.heap.size + 1, 1, none⟩ = some (.slice b.ua b.curs.length b.uc) ∧ W.cell? ⟨w.heap.size + 1, 2, none⟩ = some (.slice b.pa b.pool.length b.pc) ∧ W.cell? ⟨w.heap.size + 1, 3, none⟩ = some (.int .i64 b.hor) ∧ W.cell? ⟨w.heap.size + 1, 4, none⟩ = some (.int .i64 b.cells) ∧ W.cell? ⟨w.heap.size + 1, 5, none⟩ = some (.int .i64 b.slots) ∧ W.cell? ⟨w.heap.size + 1, 6, none⟩ = some (.int .i64 b.stack) ∧ W.cell? ⟨w.heap.size + 1, 7, none⟩ = some (.slice b.da b.days.length b.dc) ∧ W.cell? ⟨X, 0, none⟩ = some (.slice x.na x.names.length x.nc) ∧ W.cell? ⟨X, 1, none⟩ = some (.slice x.ua x.curs.length x.uc) ∧ W.cell? ⟨X, 2, none⟩ = some (.slice x.pa x.pool.length x.pc) ∧ W.cell? ⟨X, 3, none⟩ = some (.int .i64 x.hor) ∧ W.cell? ⟨X, 4, none⟩ = some (.int .i64 x.cells) ∧ W.cell? ⟨X, 5, none⟩ = some (.int .i64 x.slots) ∧ W.cell? ⟨X, 6, none⟩ = some (.int .i64 x.stack) ∧ W.cell? ⟨X, 7, none⟩ = some (.slice x.da x.days.length x.dc) ∧ W.cell? ⟨Y, 0, none⟩ = some (.slice y.na y.names.length y.nc) ∧ W.cell? ⟨Y, 1, none⟩ = some (.slice y.ua y.curs.length y.uc) ∧ W.cell? ⟨Y, 2, none⟩ = some (.slice y.pa y.pool.length y.pc) ∧ W.cell? ⟨Y, 3, none⟩ = some (.int .i64 y.hor) ∧ W.cell? ⟨Y, 4, none⟩ = some (.int .i64 y.cells) ∧ W.cell? ⟨Y, 5, none⟩ = some (.int .i64 y.slots) ∧ W.cell? ⟨Y, 6, none⟩ = some (.int .i64 y.stack) ∧ W.cell? ⟨Y, 7, none⟩ = some (.slice y.da y.days.length y.dc) := by
  obtain ⟨a0, a1, a2, a3, a4, a5, a6, a7⟩ := box_all8 (box_arr h.ba)
  obtain ⟨b0, b1, b2, b3, b4, b5, b6, b7⟩ := box_all8 (box_arr h.bb)
  obtain ⟨x0, x1, x2, x3, x4, x5, x6, x7⟩ := box_all8 (box_arr h.bx)
  obtain ⟨y0, y1, y2, y3, y4, y5, y6, y7⟩ := box_all8 (box_arr h.by_)
  exact ⟨a0, a1, a2, a3, a4, a5, a6, a7, b0, b1, b2, b3, b4, b5, b6, b7, x0, x1, x2, x3, x4, x5, x6, x7, y0, y1, y2, y3, y4, y5, y6, y7⟩
set_option maxRecDepth 100000 in
set_option maxHeartbeats 8000000 in
theorem imageEquals_any {w : World} {a b : Pg} (ha : PV w a) (hb : PV w b) :
    Calls Try.prog 3 #[a.agg, b.agg] w fun e w' => e = .returned (.bool true) ∧ Below w.heap.size w w' := by
  obtain ⟨β, hβ⟩ : ∃ β, decide (a.key = b.key) = β := ⟨_, rfl⟩
  have HB := Lib.hid hβ
  have B0 := Lib.hid (alloc2 w a.box b.box)
  obtain ⟨tb1, tb2⟩ := two_box w a.box b.box
  have TA := Lib.hid (p := BkP ((w.alloc a.box).alloc b.box) w.heap.size a.arr 26) tb1
  have TB := Lib.hid (p := BkP ((w.alloc a.box).alloc b.box) (w.heap.size + 1) b.arr 26) tb2
  have PA := Lib.hid (ha.later B0.out)
  have PB := Lib.hid (hb.later B0.out)
  have KO := Lib.hid (fun W p (h : PV W p) => own_any h)
  have KE := Lib.hid (fun W p q (h : PV W p) (h' : PV W q) => imgEqual_any h h')
  have KR := Lib.hid (fun W p q (h : PV W p) (h' : PV W q) => refEqual_any h h')
  have KI := Lib.hid (fun W p q (h : PV W p) (h' : PV W q) (h2 : OwnE W p q) => intact_any h h' h2)
  clear ha hb hβ tb1 tb2
  unfold Pg.box at B0 TA TB PA PB
  unfold Pg.agg at KO KE KR KI
  unfold Pg.agg
  have Q1 : True := trivial
  have Q2 : True := trivial
  have Q3 : True := trivial
  have E1 : True := trivial
  have E2 : True := trivial
  have I1 : True := trivial
  go_enter Try.func3, Try.ntmps3
  go_wp2_with (first
    | (go_at_call 4; have qq := Q1; refine (KO.out _ a PA.out).mono ?_; rintro e w1 ⟨x, rfl, h1, h2⟩; have OX := Lib.hid h1; have B1 := Lib.hid (B0.out.trans (h2.mono B0.out.size)); have TA1 := Lib.hid ((TA.out.later h2).later (allocBP w1 x.box)); have TB1 := Lib.hid ((TB.out.later h2).later (allocBP w1 x.box)); have TX1 := Lib.hid (p := BkP (w1.alloc x.box) w1.heap.size x.arr 26) (heapN _ _); have PA1 := Lib.hid ((PA.out.later h2).later (allocBP w1 x.box)); have PB1 := Lib.hid ((PB.out.later h2).later (allocBP w1 x.box)); have OX1 := Lib.hid (h1.later (allocBP w1 x.box)); have B2 := Lib.hid (B1.out.alloc B1.out.size x.box); obtain ⟨b0, b1, b2, b3, b4, b5, b6, b7⟩ := box_all8 (box_arr TB1.out); unfold Pg.box at TA1 TB1 TX1 PA1 PB1 OX1 B2 b0 b1 b2 b3 b4 b5 b6 b7; clear h1 h2 Q1)
    | (go_at_call 4; have qq := Q2; refine (KO.out _ b PB1.out).mono ?_; rintro e w2 ⟨y, rfl, h1, h2⟩; have L2 := Lib.hid (show LS w (w2.alloc y.box) a b x y w1.heap.size w2.heap.size from ⟨(B2.out.trans (h2.mono B2.out.size)).trans ((allocBP w2 y.box).mono (Nat.le_trans B2.out.size h2.size)), (TA1.out.later h2).later (allocBP w2 y.box), (TB1.out.later h2).later (allocBP w2 y.box), (TX1.out.later h2).later (allocBP w2 y.box), heapN _ _, (PA1.out.later h2).later (allocBP w2 y.box), (PB1.out.later h2).later (allocBP w2 y.box), (OX1.out.later h2).later (allocBP w2 y.box), h1.later (allocBP w2 y.box)⟩); obtain ⟨cx0, cx1, cx2, cx3, cx4, cx5, cx6, cx7⟩ := box_all8 (box_arr L2.out.bx); obtain ⟨cy0, cy1, cy2, cy3, cy4, cy5, cy6, cy7⟩ := box_all8 (box_arr L2.out.by_); unfold Pg.box at L2 cx0 cx1 cx2 cx3 cx4 cx5 cx6 cx7 cy0 cy1 cy2 cy3 cy4 cy5 cy6 cy7; clear h1 h2 Q2 b0 b1 b2 b3 b4 b5 b6 b7))
  have LD := Lib.hid (L2.out.later (drew1B _))
  clear L2
  have L2 := LD
  clear LD TA1 TB1 TX1 PA1 PB1 OX1 B2 PA PB TA TB B0 B1 OX
  go_region_held3 (fun w' => w'.cell? ⟨w.heap.size, 0, none⟩ = some (.slice a.na a.names.length a.nc) ∧ w'.cell? ⟨w.heap.size, 1, none⟩ = some (.slice a.ua a.curs.length a.uc) ∧ w'.cell? ⟨w.heap.size, 2, none⟩ = some (.slice a.pa a.pool.length a.pc) ∧ w'.cell? ⟨w.heap.size, 3, none⟩ = some (.int .i64 a.hor) ∧ w'.cell? ⟨w.heap.size, 4, none⟩ = some (.int .i64 a.cells) ∧ w'.cell? ⟨w.heap.size, 5, none⟩ = some (.int .i64 a.slots) ∧ w'.cell? ⟨w.heap.size, 6, none⟩ = some (.int .i64 a.stack) ∧ w'.cell? ⟨w.heap.size, 7, none⟩ = some (.slice a.da a.days.length a.dc) ∧ w'.cell? ⟨w.heap.size + 1, 0, none⟩ = some (.slice b.na b.names.length b.nc) ∧ w'.cell? ⟨w.heap.size + 1, 1, none⟩ = some (.slice b.ua b.curs.length b.uc) ∧ w'.cell? ⟨w.heap.size + 1, 2, none⟩ = some (.slice b.pa b.pool.length b.pc) ∧ w'.cell? ⟨w.heap.size + 1, 3, none⟩ = some (.int .i64 b.hor) ∧ w'.cell? ⟨w.heap.size + 1, 4, none⟩ = some (.int .i64 b.cells) ∧ w'.cell? ⟨w.heap.size + 1, 5, none⟩ = some (.int .i64 b.slots) ∧ w'.cell? ⟨w.heap.size + 1, 6, none⟩ = some (.int .i64 b.stack) ∧ w'.cell? ⟨w.heap.size + 1, 7, none⟩ = some (.slice b.da b.days.length b.dc) ∧ w'.cell? ⟨w1.heap.size, 0, none⟩ = some (.slice x.na x.names.length x.nc) ∧ w'.cell? ⟨w1.heap.size, 1, none⟩ = some (.slice x.ua x.curs.length x.uc) ∧ w'.cell? ⟨w1.heap.size, 2, none⟩ = some (.slice x.pa x.pool.length x.pc) ∧ w'.cell? ⟨w1.heap.size, 3, none⟩ = some (.int .i64 x.hor) ∧ w'.cell? ⟨w1.heap.size, 4, none⟩ = some (.int .i64 x.cells) ∧ w'.cell? ⟨w1.heap.size, 5, none⟩ = some (.int .i64 x.slots) ∧ w'.cell? ⟨w1.heap.size, 6, none⟩ = some (.int .i64 x.stack) ∧ w'.cell? ⟨w1.heap.size, 7, none⟩ = some (.slice x.da x.days.length x.dc) ∧ w'.cell? ⟨w2.heap.size, 0, none⟩ = some (.slice y.na y.names.length y.nc) ∧ w'.cell? ⟨w2.heap.size, 1, none⟩ = some (.slice y.ua y.curs.length y.uc) ∧ w'.cell? ⟨w2.heap.size, 2, none⟩ = some (.slice y.pa y.pool.length y.pc) ∧ w'.cell? ⟨w2.heap.size, 3, none⟩ = some (.int .i64 y.hor) ∧ w'.cell? ⟨w2.heap.size, 4, none⟩ = some (.int .i64 y.cells) ∧ w'.cell? ⟨w2.heap.size, 5, none⟩ = some (.int .i64 y.slots) ∧ w'.cell? ⟨w2.heap.size, 6, none⟩ = some (.int .i64 y.stack) ∧ w'.cell? ⟨w2.heap.size, 7, none⟩ = some (.slice y.da y.days.length y.dc))
    (first | exact L10.out.allCells | exact L9.out.allCells | exact L8.out.allCells | exact L7.out.allCells | exact L6.out.allCells | exact L5.out.allCells | exact L4.out.allCells | exact L3.out.allCells | exact L2.out.allCells)
    (first
      | (go_at_call 5; have qq := E1; refine (KE.out _ x y L2.out.px L2.out.py).mono ?_; rintro e w3 ⟨rfl, h2⟩; rw [key_dec L2.out.ox.key L2.out.oy.key HB.out]; have L3 := Lib.hid (L2.out.later h2); clear h2 E1)
      | (go_at_call 6; refine (KR.out _ a b L3.out.pa L3.out.pb).mono ?_; rintro e w4 ⟨rfl, h2⟩; rw [HB.out]; have L4 := Lib.hid (L3.out.later h2); clear h2)
      | (go_at_call 4; have qq := Q3; refine (KO.out _ a L4.out.pa).mono ?_; rintro e w5 ⟨x2, rfl, h1, h2⟩; have L5 := Lib.hid (L4.out.later h2); have O5 := Lib.hid h1; clear h1 h2 Q3)
      | (go_at_call 5; have qq := E2; refine (KE.out _ x x2 L5.out.px (O5.out.pv L5.out.pa)).mono ?_; rintro e w6 ⟨rfl, h2⟩; rw [decide_eq_true (L5.out.ox.key.trans O5.out.key.symm)]; have L6 := Lib.hid (L5.out.later h2); clear h2 E2)
      | (go_at_call 4; refine (KO.out _ b L6.out.pb).mono ?_; rintro e w7 ⟨y2, rfl, h1, h2⟩; have L7 := Lib.hid (L6.out.later h2); have O7 := Lib.hid h1; clear h1 h2)
      | (go_at_call 5; refine (KE.out _ y2 y (O7.out.pv L7.out.pb) L7.out.py).mono ?_; rintro e w8 ⟨rfl, h2⟩; rw [decide_eq_true (O7.out.key.trans L7.out.oy.key.symm)]; have L8 := Lib.hid (L7.out.later h2); clear h2)
      | (go_at_call 7; have qq := I1; refine (KI.out _ a x L8.out.pa L8.out.px L8.out.ox).mono ?_; rintro e w9 ⟨rfl, h2⟩; have L9 := Lib.hid (L8.out.later h2); clear h2 I1)
      | (go_at_call 7; refine (KI.out _ b y L9.out.pb L9.out.py L9.out.oy).mono ?_; rintro e w10 ⟨rfl, h2⟩; have L10 := Lib.hid (L9.out.later h2); clear h2))
  go_wp2
  go_ret
  exact ⟨rfl, L10.out.bel⟩
end Go.Proofs.Ytnebopckldmmkaa
