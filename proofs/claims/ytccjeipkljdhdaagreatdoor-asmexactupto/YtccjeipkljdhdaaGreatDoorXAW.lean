import Derived.Test.YtccjeipkljdhdaaGreatDoorXAV
import Derived.Test.YtccjeipkljdhdaaGreatDoorXAJ
namespace Go.Proofs.YtccjeipkljdhdaaGreatDoor
open Go.RowKit
set_option linter.unusedVariables false
set_option linter.unusedSimpArgs false
/-- The day ahead of the i-th. -/
def preD (l : List Sg) : Nat → Int
  | 0 => -1
  | i + 1 => (l.getD i default).day
def totN (l : List Sg) (k : Nat) : Nat := ((l.take k).map (fun s => s.code.length)).sum
theorem totN_next {l : List Sg} {k : Nat} (h : k < l.length) : totN l (k + 1) = totN l k + (l.getD k default).code.length := by
  unfold totN
  rw [List.take_succ_eq_append_getElem h, List.map_append, List.sum_append]
  have e : l.getD k default = l[k] := by simp [List.getD, h]
  rw [e]
  rfl
def dayI (l : List Sg) (hor : Int) (i : Nat) : Prop := preD l i < (l.getD i default).day ∧ (l.getD i default).day ≤ hor
def dayP (p : Pg) : Prop := (∀ i, i < p.days.length → dayI p.days p.hor i) ∧ totN p.days p.days.length ≤ 262144
noncomputable instance (p : Pg) : Decidable (dayP p) := Classical.propDecidable _
theorem preD_le {l : List Sg} {hor : Int} {k : Nat} (h : ∀ i, i < k → dayI l hor i) (h0 : 0 ≤ hor) : (k : Int) ≤ preD l k + 1 ∧ preD l k ≤ hor := by
  induction k with
  | zero => simp [preD]; omega
  | succ k ih =>
    have := ih (fun i hi => h i (by omega))
    have h2 := h k (by omega)
    unfold dayI at h2
    simp only [preD]
    omega
theorem totN_le {l : List Sg} (h : ∀ s ∈ l, s.code.length ≤ 5864062014634) : ∀ k, totN l k ≤ k * 5864062014634 := by
  intro k
  unfold totN
  induction k generalizing l with
  | zero => simp
  | succ k ih =>
    cases l with
    | nil => simp
    | cons x r =>
      simp only [List.take_succ_cons, List.map_cons, List.sum_cons]
      have h1 := h x List.mem_cons_self
      have h2 := ih (l := r) (fun s hs => h s (List.mem_cons_of_mem _ hs))
      omega
theorem wrap_addP (a b : Nat) (h : a + b ≤ 9223372036854775807) : IntKind.i64.wrap ((a : Int) + (b : Int)) = (a : Int) + (b : Int) := by simp [IntKind.wrap, IntKind.bits, IntKind.signed]; omega
set_option maxRecDepth 100000 in
set_option maxHeartbeats 8000000 in
theorem daysFit_any {w : World} {p : Pg} (h : PV w p) (h0 : 0 ≤ p.hor) (h1 : p.hor ≤ 3660) : Calls Tryz.prog 46 #[p.agg] w fun e w' => e = .returned (.bool (decide (dayP p))) ∧ Below w.heap.size w w' := by
  have B0 := Lib.hid (allocBP w p.box)
  have TB := Lib.hid (p := BkP (w.alloc p.box) w.heap.size p.arr 27) (heapN _ _)
  have DR := Lib.hid h.days.2.2.2.2
  have CL := Lib.hid (p := ∀ s ∈ p.days, s.code.length ≤ 5864062014634) (fun s hs => (h.days.2.2.2.1 s hs).2.2.2.1)
  have IF_ := Lib.hid (p := ∀ s ∈ p.days, -9223372036854775808 ≤ s.day ∧ s.day ≤ 9223372036854775807) (fun s hs => by simpa [i64, Lit.wf, IntKind.min, IntKind.max, IntKind.bits, IntKind.signed] using (h.days.2.2.2.1 s hs).1)
  have DF := Lib.hid (p := ∀ i, i < p.days.length → ¬ dayI p.days p.hor i → decide (dayP p) = false) (fun i hi hn => decide_eq_false (fun z => hn (z.1 i hi)))
  have DT := Lib.hid (p := (∀ i, i < p.days.length → dayI p.days p.hor i) → decide (dayP p) = decide ((totN p.days p.days.length : Int) ≤ 262144)) (fun z => decide_eq_decide.2 ⟨fun q => by have := q.2; omega, fun q => ⟨z, by omega⟩⟩)
  have H0 := Lib.hid h0
  have H1 := Lib.hid h1
  unfold Pg.agg
  unfold Pg.box at B0 TB
  unfold Pg.arr at TB
  clear h h0 h1
  obtain ⟨na, nc, names, ua, uc, curs, pa, pc, pool, hor, cells, slots, stack, da, dc, days⟩ := p
  simp only at B0 TB DR CL IF_ DF DT H0 H1
  obtain ⟨_, _, _, t3, _, _, _, t7⟩ := box_all8 TB.out
  go_enter Tryz.func46, Tryz.ntmps46
  go_wp2
  clear t3 t7
  go_loopw [3, 4, 10] (fun a b t wr => ∃ k : Nat, k ≤ days.length ∧ t = .int .i64 (k : Int) ∧ a = .int .i64 (preD days k) ∧ b = .int .i64 (totN days k : Int) ∧ RowKit.Hid (∀ i, i < k → dayI days hor i) ∧ Below w.heap.size w wr ∧ BkP wr w.heap.size #[.slice na names.length nc, .slice ua curs.length uc, .slice pa pool.length pc, .int .i64 hor, .int .i64 cells, .int .i64 slots, .int .i64 stack, .slice da days.length dc] 27) (fun _ _ t _ => days.length - (intOf t).toNat)
  case atStart => exact ⟨0, by omega, rfl, rfl, rfl, (fun i hi => absurd hi (by omega)), B0.out, TB.out⟩
  case round =>
    clear B0 TB
    rename World => wr
    obtain ⟨k, hk, rfl, rfl, rfl, hE, hB, hT⟩ := hrel
    have BB := Lib.hid hB
    have TT := Lib.hid hT
    have pl := preD_le hE.out H0.out
    have pk := H1.out
    have tl := totN_le CL.out k
    have k61 : k ≤ 3661 := by have p1 := pl.1; have p2 := pl.2; omega
    have tl2 : totN days k ≤ 21468331035575074 := by omega
    by_cases hlt : k < days.length
    · obtain ⟨x, o, rfl, _, hc⟩ := (DR.out.later hB).oneP (by omega)
      have c0 := hc k hlt 0 (by omega)
      have c1 := hc k hlt 1 (by omega)
      simp only [Sg.cs, Nat.add_zero, List.getD_cons_zero, List.getD_cons_succ] at c0 c1
      have kc : (k : Int) < (days.length : Int) := by omega
      have ks : IntKind.i64.wrap ((k : Int) + 1) = (k : Int) + 1 := by simp [IntKind.wrap, IntKind.bits, IntKind.signed]; omega
      have cl := CL.out _ (sg_mem (i := k) hlt)
      have TN := Lib.hid (totN_next hlt)
      have kt := wrap_addP (totN days k) (days.getD k default).code.length (by omega)
      have DI := Lib.hid (p := dayI days hor k ↔ preD days k < (days.getD k default).day ∧ (days.getD k default).day ≤ hor) Iff.rfl
      have PN := Lib.hid (p := preD days (k + 1) = (days.getD k default).day) rfl
      have DFk := Lib.hid (DF.out k hlt)
      have T2 := Lib.hid (TT.out.laterP (allocBP wr (.cells #[.int .i64 (days.getD k default).day, .slice (days.getD k default).ca (days.getD k default).code.length (days.getD k default).cc] 39)))
      have B2 := Lib.hid (hB.alloc hB.size (.cells #[.int .i64 (days.getD k default).day, .slice (days.getD k default).ca (days.getD k default).code.length (days.getD k default).cc] 39))
      obtain ⟨_, _, _, u3, _, _, _, _⟩ := box_all8 T2.out
      generalize days.getD k default = s at *
      generalize preD days k = pd at *
      generalize totN days k = td at *
      obtain ⟨sd, sa, sc, sl⟩ := s
      simp only at c0 c1 cl TN kt DI PN DFk T2 B2 u3
      clear hc hB hT
      by_cases e : pd < sd
      · have b1 : decide (sd ≤ pd) = false := decide_eq_false (by omega)
        have d1 : ¬ sd ≤ pd := by omega
        by_cases e2 : sd ≤ hor
        · have b2 : decide (hor < sd) = false := decide_eq_false (by omega)
          have d2 : ¬ hor < sd := by omega
          have NX := Lib.hid (p := ∀ i, i < k + 1 → dayI days hor i) (fun i hi => by
            rcases (show i < k ∨ i = k by omega) with r | r
            · exact hE.out i r
            · rw [r]; exact DI.out.2 ⟨e, e2⟩)
          clear hE e e2
          go_wp2
          go_roundw
          case rel => exact ⟨k + 1, by omega, by go_num, by rw [PN.out], by rw [TN.out]; simp, NX.out, B2.out, T2.out⟩
          case measure => simp [intOf]; omega
        · have b2 : decide (hor < sd) = true := decide_eq_true (by omega)
          have d2 : hor < sd := by omega
          have RR := Lib.hid (DFk.out (fun q => e2 (DI.out.1 q).2))
          clear hE e e2
          go_wp2
          go_ret
          exact ⟨retBP RR.out.symm, B2.out⟩
      · have b1 : decide (sd ≤ pd) = true := decide_eq_true (by omega)
        have d1 : sd ≤ pd := by omega
        have RR := Lib.hid (DFk.out (fun q => e (DI.out.1 q).1))
        clear hE e
        go_wp2
        go_ret
        exact ⟨retBP RR.out.symm, B2.out⟩
    · obtain rfl : k = days.length := by omega
      have RR := Lib.hid (DT.out hE.out)
      clear hE hB hT
      go_wp2
      go_ret
      exact ⟨retBP RR.out.symm, BB.out⟩
end Go.Proofs.YtccjeipkljdhdaaGreatDoor

namespace Go.Proofs.YtccjeipkljdhdaaGreatDoor
open Go.RowKit
set_option linter.unusedVariables false
set_option linter.unusedSimpArgs false
def bsV (bs : List Bool) : List Value := bs.map Value.bool
/-- A row of marks that fills its block. -/
def RBo (W : World) (B g : Nat) (bs : List Bool) : Prop := W.ownsRow B 4 1 (.slice (some ⟨g, 0, none⟩) bs.length bs.length) bs.length (bsV bs)
theorem RBo.at {W : World} {B g : Nat} {bs : List Bool} (h : RBo W B g bs) (i : Nat) (hi : i < bs.length) : W.cell? ⟨g, i, none⟩ = some (.bool (bs.getD i false)) ∧ W.frozen? ⟨g, i, none⟩ = false := by
  refine ⟨own_cellsP h i _ ?_, World.ownsRow.frozenAt h i⟩
  simp [bsV, List.getD, hi]
theorem RBo.set {W : World} {B g : Nat} {bs : List Bool} (h : RBo W B g bs) (i : Nat) : RBo (W.setCell ⟨g, i, none⟩ (.bool true)) B g (bs.set i true) := by
  have := (World.ownsRow.stored h i (.bool true)).1
  unfold RBo
  rw [List.length_set, show bsV (bs.set i true) = (bsV bs).set i (.bool true) by simp [bsV, List.map_set]]
  exact this
theorem RBo.far {W W' : World} {B g : Nat} {bs : List Bool} (h : RBo W B g bs) {x : Nat} (k : W.grownBy W' (some x)) (hx : x ≠ g) : RBo W' B g bs := row_farP h k (fun a q e e2 => by injection e with e; have e3 : g = q := Option.some.inj e2; omega)
theorem RBo.later {W W' : World} {B g : Nat} {bs : List Bool} (h : RBo W B g bs) (k : Below W.heap.size W W') : RBo W' B g bs := row_farP h (gr_below k none) (fun a q e => by cases e)
theorem note_any {w : World} {B g : Nat} {bs : List Bool} (x : Nat) (h : RBo w B g bs) (hx : x ≤ 9223372036854775807) :
    Calls Tryz.prog 122 #[.slice (some ⟨g, 0, none⟩) bs.length bs.length, .int .i64 (x : Int)] w fun e w' => (x < bs.length ∧ e = .returned (.bool true) ∧ w' = w.setCell ⟨g, x, none⟩ (.bool true)) ∨ (¬ x < bs.length ∧ e = .returned (.bool false) ∧ w' = w) := by
  by_cases hlt : x < bs.length
  · obtain ⟨c0, c1⟩ := h.at x hlt
    have kc : (x : Int) < (bs.length : Int) := by omega
    have k1 : ¬ (bs.length : Int) ≤ (x : Int) := by omega
    have k2 : decide ((bs.length : Int) ≤ (x : Int)) = false := decide_eq_false k1
    clear h
    generalize bs.length = n at *
    go_enter Tryz.func122, Tryz.ntmps122
    go_wp2
    go_ret
    first | exact .inl ⟨hlt, rfl, rfl⟩ | exact ⟨rfl, rfl⟩
  · have k1 : (bs.length : Int) ≤ (x : Int) := by omega
    have k2 : decide ((bs.length : Int) ≤ (x : Int)) = true := decide_eq_true k1
    clear h
    generalize bs.length = n at *
    go_enter Tryz.func122, Tryz.ntmps122
    go_wp2
    go_ret
    first | exact .inr ⟨hlt, rfl, rfl⟩ | exact ⟨rfl, rfl⟩
set_option maxRecDepth 100000 in
theorem indexB_any {w : World} {B g : Nat} {bs : List Bool} (h : RBo w B g bs) (hn : bs.length ≤ 17592186043904) :
    Calls Tryz.prog 123 #[.slice (some ⟨g, 0, none⟩) bs.length bs.length, .bool false] w fun e w' => (∃ i : Int, e = .returned (.int .i64 i) ∧ (bs.all id = true → i = -1) ∧ (bs.all id = false → 0 ≤ i)) ∧ w' = w := by
  have H := Lib.hid (fun i hi => (h.at i hi).1)
  obtain ⟨n, hn'⟩ : ∃ n, bs.length = n := ⟨_, rfl⟩
  have LN := Lib.hid hn'
  rw [hn'] at H hn ⊢
  clear h hn'
  go_enter Tryz.func123, Tryz.ntmps123
  go_wp2
  go_loopw [8] (fun t wr => ∃ k : Nat, k ≤ n ∧ t = .int .i64 (k : Int) ∧ RowKit.Hid (∀ i, i < k → bs.getD i false = true) ∧ w = wr) (fun t _ => n - (intOf t).toNat)
  case atStart => exact ⟨0, by omega, rfl, (fun i hi => absurd hi (by omega)), rfl⟩
  case round =>
    obtain ⟨k, hk, rfl, hE, rfl⟩ := hrel
    by_cases hlt : k < n
    · have c0 := H.out k hlt
      have kc : (k : Int) < (n : Int) := by omega
      cases hb : bs.getD k false with
      | true =>
        rw [hb] at c0
        have NX := Lib.hid (p := ∀ i, i < k + 1 → bs.getD i false = true) (fun i hi => by
          rcases (show i < k ∨ i = k by omega) with r | r
          · exact hE.out i r
          · rw [r]; exact hb)
        clear hE hb
        go_wp2
        go_roundw
        case rel => exact ⟨k + 1, by omega, by go_num, NX.out, by first | rfl | trivial⟩
        case measure => simp [intOf]; omega
      | false =>
        rw [hb] at c0
        have NA := Lib.hid (p := bs.all id = false) (by
          rw [List.all_eq_false]
          refine ⟨bs[k]'(by rw [LN.out]; exact hlt), List.getElem_mem _, ?_⟩
          have : bs.getD k false = bs[k]'(by rw [LN.out]; exact hlt) := by simp [List.getD, show k < bs.length by rw [LN.out]; exact hlt]
          rw [← this, hb]; simp)
        clear hE hb
        go_wp2
        go_ret
        exact ⟨⟨_, rfl, (fun e => by rw [NA.out] at e; cases e), (fun _ => by omega)⟩, rfl⟩
    · obtain rfl : k = n := by omega
      have AA := Lib.hid (p := bs.all id = true) (by
        rw [List.all_eq_true]
        intro b hb
        obtain ⟨i, hi, rfl⟩ := List.getElem_of_mem hb
        have := hE.out i (by rw [LN.out] at hi; exact hi)
        simpa [List.getD, hi] using this)
      clear hE
      go_wp2
      go_ret
      exact ⟨⟨_, rfl, (fun _ => rfl), (fun e => by rw [AA.out] at e; cases e)⟩, rfl⟩
theorem containsB_any {w : World} {B g : Nat} {bs : List Bool} (h : RBo w B g bs) (hn : bs.length ≤ 17592186043904) :
    Calls Tryz.prog 107 #[.slice (some ⟨g, 0, none⟩) bs.length bs.length, .bool false] w fun e w' => e = .returned (.bool (!(bs.all id))) ∧ w' = w := by
  have KI := Lib.hid (indexB_any h hn)
  clear h
  cases hb : bs.all id with
  | true =>
    rw [hb] at KI
    go_enter Tryz.func107, Tryz.ntmps107
    go_wp2_with (go_at_call 123; refine KI.out.mono ?_; rintro e w1 ⟨⟨i, rfl, h1, _⟩, h2⟩; subst h2; obtain rfl := h1 rfl)
    go_ret
    exact ⟨rfl, rfl⟩
  | false =>
    rw [hb] at KI
    go_enter Tryz.func107, Tryz.ntmps107
    go_wp2_with (go_at_call 123; refine KI.out.mono ?_; rintro e w1 ⟨⟨i, rfl, _, h1⟩, h2⟩; subst h2; have i0 := h1 rfl; have i1 : decide (0 ≤ i) = true := decide_eq_true i0; clear h1)
    go_ret
    exact ⟨by first | rfl | simp [i1], rfl⟩
end Go.Proofs.YtccjeipkljdhdaaGreatDoor

namespace Go.Proofs.YtccjeipkljdhdaaGreatDoor
open Go.RowKit
set_option linter.unusedVariables false
set_option linter.unusedSimpArgs false
/-- Is what an instruction names there? -/
def inB (p : Pg) (i : In) : Prop := (i.o = 1 → i.a < p.pool.length) ∧ (i.o = 3 → i.a < p.names.length) ∧ (i.o = 28 → i.a < p.curs.length) ∧ (i.o = 4 ∨ i.o = 5 → i.a < p.cells) ∧ (i.o = 6 ∨ i.o = 7 → i.a < p.slots)
def mkB (op : Int) (bs : List Bool) (i : In) : List Bool := if i.o = op then bs.set i.a.toNat true else bs
/-- The marks, where they lie. -/
structure US (W : World) (p : Pg) (B ub gn gu gp : Nat) (bn bu bp : List Bool) : Prop where
  box : BkP W ub #[.slice (some ⟨gn, 0, none⟩) bn.length bn.length, .slice (some ⟨gu, 0, none⟩) bu.length bu.length, .slice (some ⟨gp, 0, none⟩) bp.length bp.length, .int .i64 p.cells, .int .i64 p.slots] 125
  rn : RBo W B gn bn
  ru : RBo W B gu bu
  rp : RBo W B gp bp
  ln : bn.length = p.names.length
  lu : bu.length = p.curs.length
  lp : bp.length = p.pool.length
  ne : gn ≠ gu ∧ gn ≠ gp ∧ gu ≠ gp ∧ ub ≠ gn ∧ ub ≠ gu ∧ ub ≠ gp
  bb : B ≤ ub ∧ B ≤ gn ∧ B ≤ gu ∧ B ≤ gp
theorem US.later {W W' : World} {p : Pg} {B ub gn gu gp : Nat} {bn bu bp : List Bool} (h : US W p B ub gn gu gp bn bu bp) (g : Below W.heap.size W W') : US W' p B ub gn gu gp bn bu bp :=
  ⟨h.box.laterP g, h.rn.later g, h.ru.later g, h.rp.later g, h.ln, h.lu, h.lp, h.ne, h.bb⟩
theorem box_set (W : World) (g i : Nat) (v : Value) {b : Nat} {cs : Array Value} {t : TypeId} (h : BkP W b cs t) (hn : b ≠ g) : BkP (W.setCell ⟨g, i, none⟩ v) b cs t := h.other g i v (fun e => hn e.symm)
theorem US.setN {W : World} {p : Pg} {B ub gn gu gp : Nat} {bn bu bp : List Bool} (h : US W p B ub gn gu gp bn bu bp) (i : Nat) : US (W.setCell ⟨gn, i, none⟩ (.bool true)) p B ub gn gu gp (bn.set i true) bu bp :=
  ⟨by rw [List.length_set]; exact box_set W gn i _ h.box h.ne.2.2.2.1, h.rn.set i, h.ru.far (setCell_gr W gn i _) h.ne.1, h.rp.far (setCell_gr W gn i _) h.ne.2.1, by rw [List.length_set]; exact h.ln, h.lu, h.lp, h.ne, h.bb⟩
theorem US.setU {W : World} {p : Pg} {B ub gn gu gp : Nat} {bn bu bp : List Bool} (h : US W p B ub gn gu gp bn bu bp) (i : Nat) : US (W.setCell ⟨gu, i, none⟩ (.bool true)) p B ub gn gu gp bn (bu.set i true) bp :=
  ⟨by rw [List.length_set]; exact box_set W gu i _ h.box h.ne.2.2.2.2.1, h.rn.far (setCell_gr W gu i _) (fun e => h.ne.1 e.symm), h.ru.set i, h.rp.far (setCell_gr W gu i _) h.ne.2.2.1, h.ln, by rw [List.length_set]; exact h.lu, h.lp, h.ne, h.bb⟩
theorem US.setP {W : World} {p : Pg} {B ub gn gu gp : Nat} {bn bu bp : List Bool} (h : US W p B ub gn gu gp bn bu bp) (i : Nat) : US (W.setCell ⟨gp, i, none⟩ (.bool true)) p B ub gn gu gp bn bu (bp.set i true) :=
  ⟨by rw [List.length_set]; exact box_set W gp i _ h.box h.ne.2.2.2.2.2, h.rn.far (setCell_gr W gp i _) (fun e => h.ne.2.1 e.symm), h.ru.far (setCell_gr W gp i _) (fun e => h.ne.2.2.1 e.symm), h.rp.set i, h.ln, h.lu, by rw [List.length_set]; exact h.lp, h.ne, h.bb⟩
theorem box_all5P {w : World} {x : Nat} {a b c d e : Value} {t : TypeId} (k : w.heap[x]? = some (.cells #[a, b, c, d, e] t)) : w.cell? ⟨x, 0, none⟩ = some a ∧ w.cell? ⟨x, 1, none⟩ = some b ∧ w.cell? ⟨x, 2, none⟩ = some c ∧ w.cell? ⟨x, 3, none⟩ = some d ∧ w.cell? ⟨x, 4, none⟩ = some e := by
  refine ⟨?_, ?_, ?_, ?_, ?_⟩ <;> simp [World.cell?, k]
/-- What take leaves. -/
structure TkE (w : World) (p : Pg) (B ub gn gu gp : Nat) (bn bu bp : List Bool) (i : In) (e : Ending) (w' : World) : Prop where
  say : ∃ b, e = .returned (.bool b) ∧ (b = true ↔ inB p i) ∧ (b = true → US w' p B ub gn gu gp (mkB 3 bn i) (mkB 28 bu i) (mkB 1 bp i))
  bel : Below B w w'
end Go.Proofs.YtccjeipkljdhdaaGreatDoor
