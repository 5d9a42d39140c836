/-
  THE STATEMENT ImageCanons (made by gen_wcang.py).
-/
import Derived.Test.YtnebopckldmmkaaDoorWImg9
import Derived.Test.YtnebopckldmmkaaDoorWImg6
import Derived.Test.YtnebopckldmmkaaDoorWCanC
import Derived.Test.YtnebopckldmmkaaDoorWCanF
namespace Go.Proofs.YtnebopckldmmkaaDoor
open Go.RowKit
set_option linter.unusedVariables false
set_option linter.unusedSimpArgs false
theorem getD_key (l : List Sg) (i : Nat) : (l.getD i default).key = (l.map Sg.key).getD i (Sg.key default) := by
  rw [List.getD_eq_getElem?_getD, List.getD_eq_getElem?_getD, List.getElem?_map]
  cases l[i]? <;> rfl
theorem sg_parts {s t : Sg} (h : s.key = t.key) : s.day = t.day ∧ s.code = t.code := by
  unfold Sg.key at h
  simp only [Prod.mk.injEq] at h
  exact h
theorem at_key {l m : List Sg} (h : l.map Sg.key = m.map Sg.key) (i : Nat) : (l.getD i default).day = (m.getD i default).day ∧ (l.getD i default).code = (m.getD i default).code := sg_parts (by rw [getD_key, getD_key, h])
theorem len_key {l m : List Sg} (h : l.map Sg.key = m.map Sg.key) : l.length = m.length := by
  have := congrArg List.length h
  simpa using this
theorem tot_key {l m : List Sg} (h : l.map Sg.key = m.map Sg.key) (k : Nat) : totN l k = totN m k := by
  have e : ∀ l : List Sg, totN l k = (((l.map Sg.key).take k).map (fun s => s.2.length)).sum := fun l => by
    unfold totN
    rw [← List.map_take, List.map_map]
    rfl
  rw [e l, e m, h]
theorem mk_key {l m : List Sg} (h : l.map Sg.key = m.map Sg.key) (op : Int) (bs : List Bool) : mkAll op l bs = mkAll op m bs := by
  have e : ∀ l : List Sg, mkAll op l bs = (l.map Sg.key).foldl (fun b s => s.2.foldl (mkB op) b) bs := fun l => by
    unfold mkAll
    rw [List.foldl_map]
    rfl
  rw [e l, e m, h]
theorem pre_key {l m : List Sg} (h : l.map Sg.key = m.map Sg.key) (i : Nat) : preD l i = preD m i := by
  cases i with
  | zero => rfl
  | succ i => exact (at_key h i).1
theorem can_key1 {p q : Pg} (h : q.key = p.key) (c : canP q) : canP p := by
  obtain ⟨e0, e1, e2, e3, e4, e5, e6, e7⟩ := key_of h
  obtain ⟨na, nc, names, ua, uc, curs, pa, pc, pool, hor, cells, slots, stack, da, dc, days⟩ := p
  obtain ⟨na', nc', names', ua', uc', curs', pa', pc', pool', hor', cells', slots', stack', da', dc', days'⟩ := q
  simp only at e0 e1 e2 e3 e4 e5 e6 e7
  subst e0 e1 e2 e3 e4 e5 e6
  obtain ⟨h1, h2, ⟨h3, h4⟩, h5, h6⟩ := c
  simp only at h3 h4 h5 h6
  refine ⟨h1, h2, ⟨fun i hi => ?_, ?_⟩, fun i hi => ?_, ?_⟩
  · have z := h3 i (by rw [len_key e7]; exact hi)
    unfold dayI at z ⊢
    simp only
    rw [← pre_key e7 i, ← (at_key e7 i).1]
    exact z
  · simp only
    rw [← len_key e7, ← tot_key e7]
    exact h4
  · have z := h5 i (by rw [len_key e7]; exact hi)
    simp only
    rw [← (at_key e7 i).2]
    exact z
  · simp only
    rw [← mk_key e7, ← mk_key e7, ← mk_key e7]
    exact h6
theorem can_key {p q : Pg} (h : q.key = p.key) : (if canP q then (0 : Int) else 121) = (if canP p then 0 else 121) := by
  by_cases e : canP p
  · rw [if_pos e, if_pos (can_key1 h.symm e)]
  · rw [if_neg e, if_neg (fun z => e (can_key1 h z))]
/-- What stands between the calls. -/
structure LC (w W : World) (p x : Pg) (X : Nat) : Prop where
  bel : Below w.heap.size w W
  bp : BkP W w.heap.size p.arr 26
  bx : BkP W X x.arr 26
  pp : PV W p
  ox : OwnE W p x
  rw_ : Rws W
theorem LC.later {w W W' : World} {p x : Pg} {X : Nat} (h : LC w W p x X) (g : Below W.heap.size W W') : LC w W' p x X :=
  ⟨h.bel.trans (g.mono h.bel.size), h.bp.laterP g, h.bx.laterP g, h.pp.later g, h.ox.later g, h.rw_.below g⟩
theorem LC.px {w W : World} {p x : Pg} {X : Nat} (h : LC w W p x X) : PV W x := h.ox.pv h.pp
theorem box_arrC {W : World} {X : Nat} {p : Pg} (h : BkP W X p.arr 26) : W.heap[X]? = some (.cells #[.slice p.na p.names.length p.nc, .slice p.ua p.curs.length p.uc, .slice p.pa p.pool.length p.pc, .int .i64 p.hor, .int .i64 p.cells, .int .i64 p.slots, .int .i64 p.stack, .slice p.da p.days.length p.dc] 26) := h
theorem LC.allCells {w W : World} {p x : Pg} {X : Nat} (h : LC w W p x X) : W.cell? ⟨w.heap.size, 0, none⟩ = some (.slice p.na p.names.length p.nc) ∧ W.cell? ⟨w.heap.size, 1, none⟩ = some (.slice p.ua p.curs.length p.uc) ∧ W.cell? ⟨w.heap.size, 2, none⟩ = some (.slice p.pa p.pool.length p.pc) ∧ W.cell? ⟨w.heap.size, 3, none⟩ = some (.int .i64 p.hor) ∧ W.cell? ⟨w.heap.size, 4, none⟩ = some (.int .i64 p.cells) ∧ W.cell? ⟨w.heap.size, 5, none⟩ = some (.int .i64 p.slots) ∧ W.cell? ⟨w.heap.size, 6, none⟩ = some (.int .i64 p.stack) ∧ W.cell? ⟨w.heap.size, 7, none⟩ = some (.slice p.da p.days.length p.dc) ∧ W.cell? ⟨X, 0, none⟩ = some (.slice x.na x.names.length x.nc) ∧ W.cell? ⟨X, 1, none⟩ = some (.slice x.ua x.curs.length x.uc) ∧ W.cell? ⟨X, 2, none⟩ = some (.slice x.pa x.pool.length x.pc) ∧ W.cell? ⟨X, 3, none⟩ = some (.int .i64 x.hor) ∧ W.cell? ⟨X, 4, none⟩ = some (.int .i64 x.cells) ∧ W.cell? ⟨X, 5, none⟩ = some (.int .i64 x.slots) ∧ W.cell? ⟨X, 6, none⟩ = some (.int .i64 x.stack) ∧ W.cell? ⟨X, 7, none⟩ = some (.slice x.da x.days.length x.dc) := by
  obtain ⟨a0, a1, a2, a3, a4, a5, a6, a7⟩ := box_all8 (box_arrC h.bp)
  obtain ⟨x0, x1, x2, x3, x4, x5, x6, x7⟩ := box_all8 (box_arrC h.bx)
  exact ⟨a0, a1, a2, a3, a4, a5, a6, a7, x0, x1, x2, x3, x4, x5, x6, x7⟩
set_option maxRecDepth 100000 in
set_option maxHeartbeats 8000000 in
theorem imageCanons_go {w : World} {p : Pg} (hp : PV w p) (hR : Rws w) :
    Calls Tryd.prog 3 #[p.agg] w fun e w' => e = .returned (.bool true) ∧ Below w.heap.size w w' := by
  have B0 := Lib.hid (allocBP w p.box)
  have TA := Lib.hid (p := BkP (w.alloc p.box) w.heap.size p.arr 26) (heapN _ _)
  have PA := Lib.hid (hp.later B0.out)
  have RA := Lib.hid (hR.below B0.out)
  have KO := Lib.hid (fun W q (h : PV W q) => own_any h)
  have KC := Lib.hid (p := ∀ W q, PV W q → Rws W → q.key = p.key → Calls Tryd.prog 5 #[q.agg] W fun e w' => e = .returned (.int .i64 (if canP p then 0 else 121)) ∧ Below W.heap.size W w') (fun W q h r k => by have z := canon_any h r; rw [can_key k] at z; exact z)
  have KR := Lib.hid (fun W (h : PV W p) => canonR_any h)
  have KI := Lib.hid (fun W q x (h : PV W q) (h' : PV W x) (h2 : OwnE W q x) => intact_any h h' h2)
  clear hp hR
  generalize (if canP p then (0 : Int) else 121) = RES at *
  unfold Pg.box at B0 TA PA RA
  unfold Pg.agg at KO KC KR KI
  unfold Pg.agg
  go_enter Tryd.func3, Tryd.ntmps3
  go_wp2_with (go_at_call 4; refine (KO.out _ p PA.out).mono ?_; rintro e w1 ⟨x, rfl, h1, h2⟩; have L2 := Lib.hid (show LC w (w1.alloc x.box) p x w1.heap.size from ⟨(B0.out.trans (h2.mono B0.out.size)).trans ((allocBP w1 x.box).mono (Nat.le_trans B0.out.size h2.size)), (TA.out.laterP h2).laterP (allocBP w1 x.box), heapN _ _, (PA.out.later h2).later (allocBP w1 x.box), h1.later (allocBP w1 x.box), (RA.out.below h2).below (allocBP w1 x.box)⟩); obtain ⟨cx0, cx1, cx2, cx3, cx4, cx5, cx6, cx7⟩ := box_all8 (box_arrC L2.out.bx); unfold Pg.box at L2 cx0 cx1 cx2 cx3 cx4 cx5 cx6 cx7; clear h1 h2)
  have LD := Lib.hid (L2.out.later (drew1B _))
  clear L2
  have L2 := LD
  clear LD PA TA B0 RA KO
  go_region_held3 (fun w' => w'.cell? ⟨w.heap.size, 0, none⟩ = some (.slice p.na p.names.length p.nc) ∧ w'.cell? ⟨w.heap.size, 1, none⟩ = some (.slice p.ua p.curs.length p.uc) ∧ w'.cell? ⟨w.heap.size, 2, none⟩ = some (.slice p.pa p.pool.length p.pc) ∧ w'.cell? ⟨w.heap.size, 3, none⟩ = some (.int .i64 p.hor) ∧ w'.cell? ⟨w.heap.size, 4, none⟩ = some (.int .i64 p.cells) ∧ w'.cell? ⟨w.heap.size, 5, none⟩ = some (.int .i64 p.slots) ∧ w'.cell? ⟨w.heap.size, 6, none⟩ = some (.int .i64 p.stack) ∧ w'.cell? ⟨w.heap.size, 7, none⟩ = some (.slice p.da p.days.length p.dc) ∧ w'.cell? ⟨w1.heap.size, 0, none⟩ = some (.slice x.na x.names.length x.nc) ∧ w'.cell? ⟨w1.heap.size, 1, none⟩ = some (.slice x.ua x.curs.length x.uc) ∧ w'.cell? ⟨w1.heap.size, 2, none⟩ = some (.slice x.pa x.pool.length x.pc) ∧ w'.cell? ⟨w1.heap.size, 3, none⟩ = some (.int .i64 x.hor) ∧ w'.cell? ⟨w1.heap.size, 4, none⟩ = some (.int .i64 x.cells) ∧ w'.cell? ⟨w1.heap.size, 5, none⟩ = some (.int .i64 x.slots) ∧ w'.cell? ⟨w1.heap.size, 6, none⟩ = some (.int .i64 x.stack) ∧ w'.cell? ⟨w1.heap.size, 7, none⟩ = some (.slice x.da x.days.length x.dc))
    (first | exact L5.out.allCells | exact L4.out.allCells | exact L3.out.allCells | exact L2.out.allCells)
    (first
      | (go_at_call 5; refine (KC.out _ x L2.out.px L2.out.rw_ L2.out.ox.key).mono ?_; rintro e w3 ⟨rfl, h2⟩; have L3 := Lib.hid (L2.out.later h2); clear h2)
      | (go_at_call 6; refine (KR.out _ L3.out.pp).mono ?_; rintro e w4 ⟨rfl, h2⟩; have L4 := Lib.hid (L3.out.later h2); clear h2)
      | (go_at_call 7; refine (KI.out _ p x L4.out.pp L4.out.px L4.out.ox).mono ?_; rintro e w5 ⟨rfl, h2⟩; have L5 := Lib.hid (L4.out.later h2); clear h2))
  go_wp2
  go_ret
  exact ⟨rfl, L5.out.bel⟩
end Go.Proofs.YtnebopckldmmkaaDoor
