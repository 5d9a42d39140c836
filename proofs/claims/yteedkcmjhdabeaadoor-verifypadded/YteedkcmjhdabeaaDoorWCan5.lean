/-
  WALK: daysFit.
-/
import Derived.Test.YteedkcmjhdabeaaDoorWCan3
namespace Go.Proofs.YteedkcmjhdabeaaDoor
open Go.RowKit
set_option linter.unusedVariables false
set_option linter.unusedSimpArgs false
/-- The day ahead of the i-th. -/
def preD (l : List Sg) : Nat → Int
  | 0 => -1
  | i + 1 => (l.getD i default).day
def totN (l : List Sg) (k : Nat) : Nat := ((l.take k).map (fun s => s.code.length)).sum
theorem totN_next {l : List Sg} {k : Nat} (h : k < l.length) : totN l (k + 1) = totN l k + (l.getD k default).code.length := by
  unfold totN
  rw [List.take_succ_eq_append_getElem h, List.map_append, List.sum_append]
  have e : l.getD k default = l[k] := by simp [List.getD, h]
  rw [e]
  rfl
def dayI (l : List Sg) (hor : Int) (i : Nat) : Prop := preD l i < (l.getD i default).day ∧ (l.getD i default).day ≤ hor
def dayP (p : Pg) : Prop := (∀ i, i < p.days.length → dayI p.days p.hor i) ∧ totN p.days p.days.length ≤ 262144
noncomputable instance (p : Pg) : Decidable (dayP p) := Classical.propDecidable _
theorem preD_le {l : List Sg} {hor : Int} {k : Nat} (h : ∀ i, i < k → dayI l hor i) (h0 : 0 ≤ hor) : (k : Int) ≤ preD l k + 1 ∧ preD l k ≤ hor := by
  induction k with
  | zero => simp [preD]; omega
  | succ k ih =>
    have := ih (fun i hi => h i (by omega))
    have h2 := h k (by omega)
    unfold dayI at h2
    simp only [preD]
    omega
theorem totN_le {l : List Sg} (h : ∀ s ∈ l, s.code.length ≤ 5864062014634) : ∀ k, totN l k ≤ k * 5864062014634 := by
  intro k
  unfold totN
  induction k generalizing l with
  | zero => simp
  | succ k ih =>
    cases l with
    | nil => simp
    | cons x r =>
      simp only [List.take_succ_cons, List.map_cons, List.sum_cons]
      have h1 := h x List.mem_cons_self
      have h2 := ih (l := r) (fun s hs => h s (List.mem_cons_of_mem _ hs))
      omega
theorem wrap_addP (a b : Nat) (h : a + b ≤ 9223372036854775807) : IntKind.i64.wrap ((a : Int) + (b : Int)) = (a : Int) + (b : Int) := by simp [IntKind.wrap, IntKind.bits, IntKind.signed]; omega
set_option maxRecDepth 100000 in
set_option maxHeartbeats 8000000 in
theorem daysFit_any {w : World} {p : Pg} (h : PV w p) (h0 : 0 ≤ p.hor) (h1 : p.hor ≤ 3660) : Calls Tryd.prog 26 #[p.agg] w fun e w' => e = .returned (.bool (decide (dayP p))) ∧ Below w.heap.size w w' := by
  have B0 := Lib.hid (allocBP w p.box)
  have TB := Lib.hid (p := BkP (w.alloc p.box) w.heap.size p.arr 26) (heapN _ _)
  have DR := Lib.hid h.days.2.2.2.2
  have CL := Lib.hid (p := ∀ s ∈ p.days, s.code.length ≤ 5864062014634) (fun s hs => (h.days.2.2.2.1 s hs).2.2.2.1)
  have IF_ := Lib.hid (p := ∀ s ∈ p.days, -9223372036854775808 ≤ s.day ∧ s.day ≤ 9223372036854775807) (fun s hs => by simpa [i64, Lit.wf, IntKind.min, IntKind.max, IntKind.bits, IntKind.signed] using (h.days.2.2.2.1 s hs).1)
  have DF := Lib.hid (p := ∀ i, i < p.days.length → ¬ dayI p.days p.hor i → decide (dayP p) = false) (fun i hi hn => decide_eq_false (fun z => hn (z.1 i hi)))
  have DT := Lib.hid (p := (∀ i, i < p.days.length → dayI p.days p.hor i) → decide (dayP p) = decide ((totN p.days p.days.length : Int) ≤ 262144)) (fun z => decide_eq_decide.2 ⟨fun q => by have := q.2; omega, fun q => ⟨z, by omega⟩⟩)
  have H0 := Lib.hid h0
  have H1 := Lib.hid h1
  unfold Pg.agg
  unfold Pg.box at B0 TB
  unfold Pg.arr at TB
  clear h h0 h1
  obtain ⟨na, nc, names, ua, uc, curs, pa, pc, pool, hor, cells, slots, stack, da, dc, days⟩ := p
  simp only at B0 TB DR CL IF_ DF DT H0 H1
  obtain ⟨_, _, _, t3, _, _, _, t7⟩ := box_all8 TB.out
  go_enter Tryd.func26, Tryd.ntmps26
  go_wp2
  clear t3 t7
  go_loopw [3, 4, 10] (fun a b t wr => ∃ k : Nat, k ≤ days.length ∧ t = .int .i64 (k : Int) ∧ a = .int .i64 (preD days k) ∧ b = .int .i64 (totN days k : Int) ∧ RowKit.Hid (∀ i, i < k → dayI days hor i) ∧ Below w.heap.size w wr ∧ BkP wr w.heap.size #[.slice na names.length nc, .slice ua curs.length uc, .slice pa pool.length pc, .int .i64 hor, .int .i64 cells, .int .i64 slots, .int .i64 stack, .slice da days.length dc] 26) (fun _ _ t _ => days.length - (intOf t).toNat)
  case atStart => exact ⟨0, by omega, rfl, rfl, rfl, (fun i hi => absurd hi (by omega)), B0.out, TB.out⟩
  case round =>
    clear B0 TB
    rename World => wr
    obtain ⟨k, hk, rfl, rfl, rfl, hE, hB, hT⟩ := hrel
    have BB := Lib.hid hB
    have TT := Lib.hid hT
    have pl := preD_le hE.out H0.out
    have pk := H1.out
    have tl := totN_le CL.out k
    have k61 : k ≤ 3661 := by have p1 := pl.1; have p2 := pl.2; omega
    have tl2 : totN days k ≤ 21468331035575074 := by omega
    by_cases hlt : k < days.length
    · obtain ⟨x, o, rfl, _, hc⟩ := (DR.out.later hB).oneP (by omega)
      have c0 := hc k hlt 0 (by omega)
      have c1 := hc k hlt 1 (by omega)
      simp only [Sg.cs, Nat.add_zero, List.getD_cons_zero, List.getD_cons_succ] at c0 c1
      have kc : (k : Int) < (days.length : Int) := by omega
      have ks : IntKind.i64.wrap ((k : Int) + 1) = (k : Int) + 1 := by simp [IntKind.wrap, IntKind.bits, IntKind.signed]; omega
      have cl := CL.out _ (sg_mem (i := k) hlt)
      have TN := Lib.hid (totN_next hlt)
      have kt := wrap_addP (totN days k) (days.getD k default).code.length (by omega)
      have DI := Lib.hid (p := dayI days hor k ↔ preD days k < (days.getD k default).day ∧ (days.getD k default).day ≤ hor) Iff.rfl
      have PN := Lib.hid (p := preD days (k + 1) = (days.getD k default).day) rfl
      have DFk := Lib.hid (DF.out k hlt)
      have T2 := Lib.hid (TT.out.laterP (allocBP wr (.cells #[.int .i64 (days.getD k default).day, .slice (days.getD k default).ca (days.getD k default).code.length (days.getD k default).cc] 36)))
      have B2 := Lib.hid (hB.alloc hB.size (.cells #[.int .i64 (days.getD k default).day, .slice (days.getD k default).ca (days.getD k default).code.length (days.getD k default).cc] 36))
      obtain ⟨_, _, _, u3, _, _, _, _⟩ := box_all8 T2.out
      generalize days.getD k default = s at *
      generalize preD days k = pd at *
      generalize totN days k = td at *
      obtain ⟨sd, sa, sc, sl⟩ := s
      simp only at c0 c1 cl TN kt DI PN DFk T2 B2 u3
      clear hc hB hT
      by_cases e : pd < sd
      · have b1 : decide (sd ≤ pd) = false := decide_eq_false (by omega)
        have d1 : ¬ sd ≤ pd := by omega
        by_cases e2 : sd ≤ hor
        · have b2 : decide (hor < sd) = false := decide_eq_false (by omega)
          have d2 : ¬ hor < sd := by omega
          have NX := Lib.hid (p := ∀ i, i < k + 1 → dayI days hor i) (fun i hi => by
            rcases (show i < k ∨ i = k by omega) with r | r
            · exact hE.out i r
            · rw [r]; exact DI.out.2 ⟨e, e2⟩)
          clear hE e e2
          go_wp2
          go_roundw
          case rel => exact ⟨k + 1, by omega, by go_num, by rw [PN.out], by rw [TN.out]; simp, NX.out, B2.out, T2.out⟩
          case measure => simp [intOf]; omega
        · have b2 : decide (hor < sd) = true := decide_eq_true (by omega)
          have d2 : hor < sd := by omega
          have RR := Lib.hid (DFk.out (fun q => e2 (DI.out.1 q).2))
          clear hE e e2
          go_wp2
          go_ret
          exact ⟨retBP RR.out.symm, B2.out⟩
      · have b1 : decide (sd ≤ pd) = true := decide_eq_true (by omega)
        have d1 : sd ≤ pd := by omega
        have RR := Lib.hid (DFk.out (fun q => e (DI.out.1 q).1))
        clear hE e
        go_wp2
        go_ret
        exact ⟨retBP RR.out.symm, B2.out⟩
    · obtain rfl : k = days.length := by omega
      have RR := Lib.hid (DT.out hE.out)
      clear hE hB hT
      go_wp2
      go_ret
      exact ⟨retBP RR.out.symm, BB.out⟩
end Go.Proofs.YteedkcmjhdabeaaDoor
