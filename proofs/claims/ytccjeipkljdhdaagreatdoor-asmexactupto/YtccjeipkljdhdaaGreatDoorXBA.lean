import Derived.Test.YtccjeipkljdhdaaGreatDoorXAZ
namespace Go.Proofs.YtccjeipkljdhdaaGreatDoor
open Go.RowKit
set_option linter.unusedVariables false
set_option linter.unusedSimpArgs false
/-- The counts, where they lie. -/
structure UCx (W : World) (p : Pg) (B ub gn gu gp : Nat) (cn cu cp : List Int) : Prop where
  box : BkP W ub #[.slice (some ⟨gn, 0, none⟩) p.names.length p.names.length, .slice (some ⟨gu, 0, none⟩) p.curs.length p.curs.length, .slice (some ⟨gp, 0, none⟩) p.pool.length p.pool.length] 109
  rn : RNo W B gn cn
  ru : RNo W B gu cu
  rp : RNo W B gp cp
  ln : cn.length = p.names.length
  lu : cu.length = p.curs.length
  lp : cp.length = p.pool.length
  ne : gn ≠ gu ∧ gn ≠ gp ∧ gu ≠ gp ∧ ub ≠ gn ∧ ub ≠ gu ∧ ub ≠ gp
  bb : B ≤ ub ∧ B ≤ gn ∧ B ≤ gu ∧ B ≤ gp
theorem UCx.later {W W' : World} {p : Pg} {B ub gn gu gp : Nat} {cn cu cp : List Int} (h : UCx W p B ub gn gu gp cn cu cp) (g : Below W.heap.size W W') : UCx W' p B ub gn gu gp cn cu cp :=
  ⟨h.box.laterP g, h.rn.later g, h.ru.later g, h.rp.later g, h.ln, h.lu, h.lp, h.ne, h.bb⟩
theorem UCx.setN {W : World} {p : Pg} {B ub gn gu gp : Nat} {cn cu cp : List Int} (h : UCx W p B ub gn gu gp cn cu cp) (i : Nat) (v : Int) : UCx (W.setCell ⟨gn, i, none⟩ (.int .i64 v)) p B ub gn gu gp (cn.set i v) cu cp :=
  ⟨box_set W gn i _ h.box h.ne.2.2.2.1, h.rn.set i v, h.ru.far (setCell_gr W gn i _) h.ne.1, h.rp.far (setCell_gr W gn i _) h.ne.2.1, by rw [List.length_set]; exact h.ln, h.lu, h.lp, h.ne, h.bb⟩
theorem UCx.setU {W : World} {p : Pg} {B ub gn gu gp : Nat} {cn cu cp : List Int} (h : UCx W p B ub gn gu gp cn cu cp) (i : Nat) (v : Int) : UCx (W.setCell ⟨gu, i, none⟩ (.int .i64 v)) p B ub gn gu gp cn (cu.set i v) cp :=
  ⟨box_set W gu i _ h.box h.ne.2.2.2.2.1, h.rn.far (setCell_gr W gu i _) (fun e => h.ne.1 e.symm), h.ru.set i v, h.rp.far (setCell_gr W gu i _) h.ne.2.2.1, h.ln, by rw [List.length_set]; exact h.lu, h.lp, h.ne, h.bb⟩
theorem UCx.setP {W : World} {p : Pg} {B ub gn gu gp : Nat} {cn cu cp : List Int} (h : UCx W p B ub gn gu gp cn cu cp) (i : Nat) (v : Int) : UCx (W.setCell ⟨gp, i, none⟩ (.int .i64 v)) p B ub gn gu gp cn cu (cp.set i v) :=
  ⟨box_set W gp i _ h.box h.ne.2.2.2.2.2, h.rn.far (setCell_gr W gp i _) (fun e => h.ne.2.1 e.symm), h.ru.far (setCell_gr W gp i _) (fun e => h.ne.2.2.1 e.symm), h.rp.set i v, h.ln, h.lu, by rw [List.length_set]; exact h.lp, h.ne, h.bb⟩
def UC (W : World) (p : Pg) (B ub gn gu gp : Nat) (bn bu bp : List Bool) (M : Nat) : Prop := ∃ cn cu cp, UCx W p B ub gn gu gp cn cu cp ∧ Rel cn bn M ∧ Rel cu bu M ∧ Rel cp bp M
theorem UC.later {W W' : World} {p : Pg} {B ub gn gu gp : Nat} {bn bu bp : List Bool} {M : Nat} (h : UC W p B ub gn gu gp bn bu bp M) (g : Below W.heap.size W W') : UC W' p B ub gn gu gp bn bu bp M := by
  obtain ⟨cn, cu, cp, h1, h2⟩ := h
  exact ⟨cn, cu, cp, h1.later g, h2⟩
/-- What is not a row of counts stays. -/
structure Fr (w W : World) (gn gu gp : Nat) : Prop where
  sz : w.heap.size ≤ W.heap.size
  blk : ∀ b, b < w.heap.size → b ≠ gn → b ≠ gu → b ≠ gp → W.heap[b]? = w.heap[b]?
theorem Fr.later {w W W' : World} {gn gu gp : Nat} (h : Fr w W gn gu gp) (g : Below W.heap.size W W') : Fr w W' gn gu gp :=
  ⟨Nat.le_trans h.sz g.size, fun b hb n1 n2 n3 => (g.block b (Nat.lt_of_lt_of_le hb h.sz)).trans (h.blk b hb n1 n2 n3)⟩
theorem Fr.set {w W : World} {gn gu gp : Nat} (h : Fr w W gn gu gp) (g i : Nat) (v : Value) (hg : g = gn ∨ g = gu ∨ g = gp) : Fr w (W.setCell ⟨g, i, none⟩ v) gn gu gp := by
  have G := setCell_gr W g i v
  exact ⟨Nat.le_trans h.sz G.size, fun b hb n1 n2 n3 => (G.block b (Nat.lt_of_lt_of_le hb h.sz) (fun e => by injection e with e; rcases hg with r | r | r <;> omega)).trans (h.blk b hb n1 n2 n3)⟩
/-- What code leaves. -/
structure TcR (w0 w : World) (p : Pg) (ub gn gu gp : Nat) (bn bu bp : List Bool) (M : Nat) (l : List In) (e : Ending) (w' : World) : Prop where
  say : ∃ b, e = .returned (.bool b) ∧ (b = true ↔ codeP p l) ∧ (b = true → UC w' p w0.heap.size ub gn gu gp (l.foldl (mkB 3) bn) (l.foldl (mkB 28) bu) (l.foldl (mkB 1) bp) (M + l.length))
  bel : Below w0.heap.size w0 w'
  fr : Fr w w' gn gu gp
theorem box_all3U {w : World} {x : Nat} {a b c : Value} {t : TypeId} (k : BkP w x #[a, b, c] t) : w.cell? ⟨x, 0, none⟩ = some a ∧ w.cell? ⟨x, 1, none⟩ = some b ∧ w.cell? ⟨x, 2, none⟩ = some c := box_all3P k
theorem bel_set {g : Nat} {w W : World} (b : Below w.heap.size w W) (i : Nat) (v : Value) (h : w.heap.size ≤ g) : Below w.heap.size w (W.setCell ⟨g, i, none⟩ v) := b.grown (setCell_gr W g i v) b.size (fun k e => by injection e with e; omega)
theorem wrap_cnt (z : Int) (h0 : 0 ≤ z) (h1 : z ≤ 9223372036854775806) : IntKind.i64.wrap (z + 1) = z + 1 := by simp [IntKind.wrap, IntKind.bits, IntKind.signed]; omega
set_option maxRecDepth 100000 in
set_option maxHeartbeats 20000000 in
theorem codeR_any (w0 w : World) (p : Pg) (ub gn gu gp : Nat) (bn bu bp : List Bool) (M : Nat) (a : Option Addr) (n c : Nat) (l : List In) (hU : UC w p w0.heap.size ub gn gu gp bn bu bp M) (hI : IR w0 a n c l) (hB : Below w0.heap.size w0 w) (hM : M ≤ 9000000000000000000) :
    Calls Tryz.prog 62 #[p.agg, .slice a n c, .pointer (some ⟨ub, 0, none⟩)] w fun e w' => TcR w0 w p ub gn gu gp bn bu bp M l e w' := by
  obtain ⟨_, l1, b1, _, r1⟩ := hI
  have R1 := Lib.hid r1
  have B0 := Lib.hid (hB.alloc hB.size p.box)
  have U0 := Lib.hid (hU.later (allocBP w p.box))
  have T0 := Lib.hid (p := BkP (w.alloc p.box) w.heap.size p.arr 27) (heapN _ _)
  have FX0 := Lib.hid (p := Fr w (w.alloc p.box) gn gu gp) ⟨(allocBP w p.box).size, fun b hb _ _ _ => (allocBP w p.box).block b hb⟩
  have GL := Lib.hid (p := gn < w.heap.size ∧ gu < w.heap.size ∧ gp < w.heap.size) (by obtain ⟨cn, cu, cp, hx, _⟩ := hU; exact ⟨(World.ownsRow.lt hx.rn gn rfl).2, (World.ownsRow.lt hx.ru gu rfl).2, (World.ownsRow.lt hx.rp gp rfl).2⟩)
  have kw : IntKind.i64.wrap ((n : Int) - 1) = (n : Int) - 1 := by simp [IntKind.wrap, IntKind.bits, IntKind.signed]; omega
  have KB := Lib.hid (fun k W => bound_any (w := W) (p := p) k)
  clear r1 hB hU
  unfold Pg.box at B0 U0 T0 FX0
  unfold Pg.arr at T0
  unfold Pg.agg at KB
  unfold Pg.agg
  by_cases h2 : n < 2
  · have d1 : (n : Int) < 2 := by omega
    have d2 : decide ((n : Int) < 2) = true := decide_eq_true d1
    have NC := Lib.hid (p := ¬ codeP p l) (fun q => by have := q.1; omega)
    obtain ⟨na, nc, names, ua, uc, curs, pa, pc, pool, hor, cells, slots, stack, da, dc, days⟩ := p
    simp only at B0 NC FX0
    go_enter Tryz.func62, Tryz.ntmps62
    go_wp2
    go_ret
    exact ⟨⟨false, rfl, ⟨(fun e => by cases e), fun q => absurd q NC.out⟩, (fun e => by cases e)⟩, B0.out, FX0.out⟩
  · have d1 : ¬ (n : Int) < 2 := by omega
    have d2 : decide ((n : Int) < 2) = false := decide_eq_false d1
    have CP := Lib.hid (p := (∀ k, k < n → insI p l k) → codeP p l) (fun q => ⟨by omega, fun k hk => q k (by omega)⟩)
    have CN := Lib.hid (p := ∀ k, k < n → ¬ insI p l k → ¬ codeP p l) (fun k hk hn q => hn (q.2 k (by omega)))
    obtain ⟨na, nc, names, ua, uc, curs, pa, pc, pool, hor, cells, slots, stack, da, dc, days⟩ := p
    simp only at B0 U0 T0 CP CN KB FX0
    go_enter Tryz.func62, Tryz.ntmps62
    go_wp2
    clear d1 d2
    go_loopw [7] (fun t wr => ∃ k : Nat, k ≤ n ∧ t = .int .i64 (k : Int) ∧ RowKit.Hid (∀ i, i < k → insI ⟨na, nc, names, ua, uc, curs, pa, pc, pool, hor, cells, slots, stack, da, dc, days⟩ l i) ∧ UC wr ⟨na, nc, names, ua, uc, curs, pa, pc, pool, hor, cells, slots, stack, da, dc, days⟩ w0.heap.size ub gn gu gp ((l.take k).foldl (mkB 3) bn) ((l.take k).foldl (mkB 28) bu) ((l.take k).foldl (mkB 1) bp) (M + k) ∧ Below w0.heap.size w0 wr ∧ BkP wr w.heap.size #[.slice na names.length nc, .slice ua curs.length uc, .slice pa pool.length pc, .int .i64 hor, .int .i64 cells, .int .i64 slots, .int .i64 stack, .slice da days.length dc] 27 ∧ Fr w wr gn gu gp) (fun t _ => n - (intOf t).toNat)
    case atStart => exact ⟨0, by omega, rfl, (fun i hi => absurd hi (by omega)), U0.out, B0.out, T0.out, FX0.out⟩
    case round =>
      clear U0 B0 T0 FX0
      rename World => wr
      obtain ⟨k, hk, rfl, hE, hU, hB, hT, hF⟩ := hrel
      have BB := Lib.hid hB
      have UU := Lib.hid hU
      by_cases hlt : k < n
      · obtain ⟨x, o, rfl, _, hc⟩ := (R1.out.later hB).oneP (by omega)
        have c0 := hc k hlt 0 (by omega)
        have c1 := hc k hlt 1 (by omega)
        have c2 := hc k hlt 2 (by omega)
        simp only [icell, Nat.add_zero, List.getD_cons_zero, List.getD_cons_succ] at c0 c1 c2
        have kc : (k : Int) < (n : Int) := by omega
        have II := Lib.hid (p := insI ⟨na, nc, names, ua, uc, curs, pa, pc, pool, hor, cells, slots, stack, da, dc, days⟩ l k ↔ ((l.getD k default).o = 0 ↔ k + 1 = n) ∧ (l.getD k default).okP ∧ inB ⟨na, nc, names, ua, uc, curs, pa, pc, pool, hor, cells, slots, stack, da, dc, days⟩ (l.getD k default)) (by unfold insI; rw [l1])
        have F3 := Lib.hid (foldl_next (mkB 3) bn l k (by omega))
        have F28 := Lib.hid (foldl_next (mkB 28) bu l k (by omega))
        have F1 := Lib.hid (foldl_next (mkB 1) bp l k (by omega))
        have CNk := Lib.hid (CN.out k hlt)
        have NX := Lib.hid (p := insI ⟨na, nc, names, ua, uc, curs, pa, pc, pool, hor, cells, slots, stack, da, dc, days⟩ l k → ∀ i, i < k + 1 → insI ⟨na, nc, names, ua, uc, curs, pa, pc, pool, hor, cells, slots, stack, da, dc, days⟩ l i) (fun e i hi => by
          rcases (show i < k ∨ i = k by omega) with r | r
          · exact hE.out i r
          · rw [r]; exact e)
        generalize l.getD k default = s at *
        obtain ⟨so, sx, sy⟩ := s
        simp only at c0 c1 c2 II F3 F28 F1
        have U1 := Lib.hid (hU.later (allocBP wr (.cells #[.int .i64 so, .int .i64 sx, .int .i64 sy] 42)))
        have B1 := Lib.hid (hB.alloc hB.size (.cells #[.int .i64 so, .int .i64 sx, .int .i64 sy] 42))
        have TT1 := Lib.hid (hT.laterP (allocBP wr (.cells #[.int .i64 so, .int .i64 sx, .int .i64 sy] 42)))
        have TI := Lib.hid (p := BkP (wr.alloc (.cells #[.int .i64 so, .int .i64 sx, .int .i64 sy] 42)) wr.heap.size #[.int .i64 so, .int .i64 sx, .int .i64 sy] 42) (heapN _ _)
        have KV := Lib.hid (fun W => refValid_any so sx sy W)
        have FX1 := Lib.hid (hF.later (allocBP wr (.cells #[.int .i64 so, .int .i64 sx, .int .i64 sy] 42)))
        clear hc hE hU hB hT hF
        by_cases e2 : (⟨so, sx, sy⟩ : In).okP
        · rw [okV_pos e2] at KV
          have SX := Lib.hid (p := 0 ≤ sx ∧ sx ≤ 262143) (hi_lo e2)
          have IBk := Lib.hid (inB_bound (p := ⟨na, nc, names, ua, uc, curs, pa, pc, pool, hor, cells, slots, stack, da, dc, days⟩) e2)
          simp only at IBk
          by_cases e1 : (so = 0 ↔ k + 1 = n)
          · obtain ⟨xn, rfl⟩ : ∃ xn : Nat, sx = (xn : Int) := ⟨sx.toNat, by have := SX.out; omega⟩
            have OKI := Lib.hid (p := inB ⟨na, nc, names, ua, uc, curs, pa, pc, pool, hor, cells, slots, stack, da, dc, days⟩ ⟨so, (xn : Int), sy⟩ → ∀ i, i < k + 1 → insI ⟨na, nc, names, ua, uc, curs, pa, pc, pool, hor, cells, slots, stack, da, dc, days⟩ l i) (fun z => NX.out (II.out.2 ⟨e1, e2, z⟩))
            have NOI := Lib.hid (p := ¬ inB ⟨na, nc, names, ua, uc, curs, pa, pc, pool, hor, cells, slots, stack, da, dc, days⟩ ⟨so, (xn : Int), sy⟩ → ¬ codeP ⟨na, nc, names, ua, uc, curs, pa, pc, pool, hor, cells, slots, stack, da, dc, days⟩ l) (fun z => CNk.out (fun y => z (II.out.1 y).2.2))
            clear e2
            by_cases q1 : so = 1
            · have MB := Lib.hid (p := mkB 3 ((l.take k).foldl (mkB 3) bn) ⟨so, (xn : Int), sy⟩ = ((l.take k).foldl (mkB 3) bn) ∧ mkB 28 ((l.take k).foldl (mkB 28) bu) ⟨so, (xn : Int), sy⟩ = ((l.take k).foldl (mkB 28) bu) ∧ mkB 1 ((l.take k).foldl (mkB 1) bp) ⟨so, (xn : Int), sy⟩ = ((l.take k).foldl (mkB 1) bp).set xn true) (by rw [q1]; simp [mkB])
              have BD := Lib.hid (p := boundN ⟨na, nc, names, ua, uc, curs, pa, pc, pool, hor, cells, slots, stack, da, dc, days⟩ so = (pool.length : Int)) (by rw [q1]; simp [boundN])
              have t1 : (so == 0) = false := by rw [q1]; rfl
              have t2 : ((k : Int) == (n : Int) - 1) = false := by
                have : ¬ k + 1 = n := fun z => by have := e1.2 z; omega
                simp; omega
              have s1 : (so == 1) = true := by rw [q1]; rfl
              have KBk := Lib.hid (KB.out so)
              rw [BD.out] at IBk KBk
              have KB := KBk
              obtain ⟨bd, hbd⟩ : ∃ bd : Int, bd = (pool.length : Int) := ⟨_, rfl⟩
              rw [← hbd] at IBk KB
              have BD := Lib.hid (p := (xn : Int) < bd → (xn : Int) < (pool.length : Int)) (fun z => by omega)
              clear e1 KBk hbd q1
              by_cases e3 : (xn : Int) < bd
              · have BD := Lib.hid (BD.out e3)
                have b0 : decide (bd ≤ (xn : Int)) = false := decide_eq_false (by omega)
                have d0 : ¬ bd ≤ (xn : Int) := by omega
                have OK := Lib.hid (OKI.out (IBk.out.2 (by omega)))
                go_wp2_with (go_at_call 60; refine (KV.out _).mono ?_; rintro e w2 ⟨rfl, h2⟩; have B2 := Lib.hid (B1.out.trans (h2.mono B1.out.size)); have U2 := Lib.hid (U1.out.later h2); have FX2 := Lib.hid (FX1.out.later h2); have X2 := Lib.hid (TI.out.laterP h2); have T2 := Lib.hid (TT1.out.laterP h2); obtain ⟨v0, v1, v2⟩ := box_all3P X2.out; obtain ⟨y0, y1, y2, y3, y4, y5, y6, y7⟩ := box_all8 (T2.out); clear h2)
                go_region_held3 (fun w' => w'.cell? ⟨wr.heap.size, 0, none⟩ = some (.int .i64 so) ∧ w'.cell? ⟨wr.heap.size, 1, none⟩ = some (.int .i64 (xn : Int)) ∧ w'.cell? ⟨w.heap.size, 0, none⟩ = some (.slice na names.length nc) ∧ w'.cell? ⟨w.heap.size, 1, none⟩ = some (.slice ua curs.length uc) ∧ w'.cell? ⟨w.heap.size, 2, none⟩ = some (.slice pa pool.length pc) ∧ w'.cell? ⟨w.heap.size, 3, none⟩ = some (.int .i64 hor) ∧ w'.cell? ⟨w.heap.size, 4, none⟩ = some (.int .i64 cells) ∧ w'.cell? ⟨w.heap.size, 5, none⟩ = some (.int .i64 slots) ∧ w'.cell? ⟨w.heap.size, 6, none⟩ = some (.int .i64 stack) ∧ w'.cell? ⟨w.heap.size, 7, none⟩ = some (.slice da days.length dc))
                  (refine ⟨?_, ?_, ?_, ?_, ?_, ?_, ?_, ?_, ?_, ?_⟩ <;> first | assumption | (go_simp; done))
                  (first
                  | (go_at_call 93; refine (KB.out _).mono ?_; rintro e w3 ⟨rfl, h2⟩; have h3 : Below w2.heap.size w2 w3 := ⟨h2.os, h2.tape, h2.output, h2.size, h2.block⟩; have B3 := Lib.hid (B2.out.trans (h3.mono B2.out.size)); have U3 := Lib.hid (U2.out.later h3); have FX3 := Lib.hid (FX2.out.later h3); have X3 := Lib.hid (X2.out.laterP h3); have T3 := Lib.hid (T2.out.laterP h3); obtain ⟨z0, z1, z2⟩ := box_all3P X3.out; obtain ⟨t0, t1, t2, t3, t4, t5, t6, t7⟩ := box_all8 (T3.out); clear h2 h3))
                obtain ⟨cn, cu, cp, hx, r1, r2, r3⟩ := U3.out
                have hl : xn < cp.length := by rw [hx.lp]; have := BD.out; simp only at this ⊢; omega
                have hl3 : xn < pool.length := by have := hx.lp; simp only at this; omega
                have hl4 : (xn : Int) < (pool.length : Int) := by omega
                obtain ⟨m0, m1⟩ := hx.rp.at xn hl
                obtain ⟨f0, f1, f2⟩ := box_all3U hx.box
                have cb := (r3.2 xn hl)
                have cw : IntKind.i64.wrap (cp.getD xn 0 + 1) = cp.getD xn 0 + 1 := wrap_cnt _ (by omega) (by have := cb.2.1; have := hM; omega)
                have U4 := Lib.hid (show UC (w3.setCell ⟨gp, xn, none⟩ (.int .i64 (cp.getD xn 0 + 1))).drew _ w0.heap.size ub gn gu gp _ _ _ (M + (k + 1)) from ⟨_, _, _, (hx.setP xn (cp.getD xn 0 + 1)).later (drew1B _), r1.wide (by omega), r2.wide (by omega), r3.set xn hl⟩)
                have B4 := Lib.hid ((bel_set B3.out xn (.int .i64 (cp.getD xn 0 + 1)) hx.bb.2.2.2).drew)
                have T4 := Lib.hid ((T3.out.other gp xn (.int .i64 (cp.getD xn 0 + 1)) (by have := GL.out.2.2; omega)).laterP (drew1B _))
                have FX4 := Lib.hid ((FX3.out.set gp xn (.int .i64 (cp.getD xn 0 + 1)) (by simp)).later (drew1B _))
                generalize cp.getD xn 0 = cv at *
                clear hx r1 r2 r3 cb
                go_wp2
                go_region
                all_goals
                  go_wp2
                  go_roundw
                  case rel =>
                    refine ⟨k + 1, by omega, by go_num, OK.out, ?_, B4.out, T4.out, FX4.out⟩
                    rw [F3.out, F28.out, F1.out, MB.out.1, MB.out.2.1, MB.out.2.2]
                    exact U4.out
                  case measure => simp [intOf]; omega
              · have b0 : decide (bd ≤ (xn : Int)) = true := decide_eq_true (by omega)
                have d0 : bd ≤ (xn : Int) := by omega
                have NO := Lib.hid (NOI.out (fun z => by have := IBk.out.1 z; omega))
                go_wp2_with (go_at_call 60; refine (KV.out _).mono ?_; rintro e w2 ⟨rfl, h2⟩; have B2 := Lib.hid (B1.out.trans (h2.mono B1.out.size)); have U2 := Lib.hid (U1.out.later h2); have FX2 := Lib.hid (FX1.out.later h2); have X2 := Lib.hid (TI.out.laterP h2); have T2 := Lib.hid (TT1.out.laterP h2); obtain ⟨v0, v1, v2⟩ := box_all3P X2.out; obtain ⟨y0, y1, y2, y3, y4, y5, y6, y7⟩ := box_all8 (T2.out); clear h2)
                go_region_held3 (fun w' => w'.cell? ⟨wr.heap.size, 0, none⟩ = some (.int .i64 so) ∧ w'.cell? ⟨wr.heap.size, 1, none⟩ = some (.int .i64 (xn : Int)) ∧ w'.cell? ⟨w.heap.size, 0, none⟩ = some (.slice na names.length nc) ∧ w'.cell? ⟨w.heap.size, 1, none⟩ = some (.slice ua curs.length uc) ∧ w'.cell? ⟨w.heap.size, 2, none⟩ = some (.slice pa pool.length pc) ∧ w'.cell? ⟨w.heap.size, 3, none⟩ = some (.int .i64 hor) ∧ w'.cell? ⟨w.heap.size, 4, none⟩ = some (.int .i64 cells) ∧ w'.cell? ⟨w.heap.size, 5, none⟩ = some (.int .i64 slots) ∧ w'.cell? ⟨w.heap.size, 6, none⟩ = some (.int .i64 stack) ∧ w'.cell? ⟨w.heap.size, 7, none⟩ = some (.slice da days.length dc))
                  (refine ⟨?_, ?_, ?_, ?_, ?_, ?_, ?_, ?_, ?_, ?_⟩ <;> first | assumption | (go_simp; done))
                  (first
                  | (go_at_call 93; refine (KB.out _).mono ?_; rintro e w3 ⟨rfl, h2⟩; have h3 : Below w2.heap.size w2 w3 := ⟨h2.os, h2.tape, h2.output, h2.size, h2.block⟩; have B3 := Lib.hid (B2.out.trans (h3.mono B2.out.size)); have U3 := Lib.hid (U2.out.later h3); have FX3 := Lib.hid (FX2.out.later h3); have X3 := Lib.hid (X2.out.laterP h3); have T3 := Lib.hid (T2.out.laterP h3); obtain ⟨z0, z1, z2⟩ := box_all3P X3.out; obtain ⟨t0, t1, t2, t3, t4, t5, t6, t7⟩ := box_all8 (T3.out); clear h2 h3))
                go_wp2
                go_ret
                exact ⟨⟨false, rfl, ⟨(fun e => by cases e), fun z => absurd z NO.out⟩, (fun e => by cases e)⟩, B3.out, FX3.out⟩
            by_cases q3 : so = 3
            · have MB := Lib.hid (p := mkB 3 ((l.take k).foldl (mkB 3) bn) ⟨so, (xn : Int), sy⟩ = ((l.take k).foldl (mkB 3) bn).set xn true ∧ mkB 28 ((l.take k).foldl (mkB 28) bu) ⟨so, (xn : Int), sy⟩ = ((l.take k).foldl (mkB 28) bu) ∧ mkB 1 ((l.take k).foldl (mkB 1) bp) ⟨so, (xn : Int), sy⟩ = ((l.take k).foldl (mkB 1) bp)) (by rw [q3]; simp [mkB])
              have BD := Lib.hid (p := boundN ⟨na, nc, names, ua, uc, curs, pa, pc, pool, hor, cells, slots, stack, da, dc, days⟩ so = (names.length : Int)) (by rw [q3]; simp [boundN])
              have t1 : (so == 0) = false := by rw [q3]; rfl
              have t2 : ((k : Int) == (n : Int) - 1) = false := by
                have : ¬ k + 1 = n := fun z => by have := e1.2 z; omega
                simp; omega
              have s1 : (so == 1) = false := by rw [q3]; rfl
              have s3 : (so == 3) = true := by rw [q3]; rfl
              have KBk := Lib.hid (KB.out so)
              rw [BD.out] at IBk KBk
              have KB := KBk
              obtain ⟨bd, hbd⟩ : ∃ bd : Int, bd = (names.length : Int) := ⟨_, rfl⟩
              rw [← hbd] at IBk KB
              have BD := Lib.hid (p := (xn : Int) < bd → (xn : Int) < (names.length : Int)) (fun z => by omega)
              clear e1 KBk hbd q3
              by_cases e3 : (xn : Int) < bd
              · have BD := Lib.hid (BD.out e3)
                have b0 : decide (bd ≤ (xn : Int)) = false := decide_eq_false (by omega)
                have d0 : ¬ bd ≤ (xn : Int) := by omega
                have OK := Lib.hid (OKI.out (IBk.out.2 (by omega)))
                go_wp2_with (go_at_call 60; refine (KV.out _).mono ?_; rintro e w2 ⟨rfl, h2⟩; have B2 := Lib.hid (B1.out.trans (h2.mono B1.out.size)); have U2 := Lib.hid (U1.out.later h2); have FX2 := Lib.hid (FX1.out.later h2); have X2 := Lib.hid (TI.out.laterP h2); have T2 := Lib.hid (TT1.out.laterP h2); obtain ⟨v0, v1, v2⟩ := box_all3P X2.out; obtain ⟨y0, y1, y2, y3, y4, y5, y6, y7⟩ := box_all8 (T2.out); clear h2)
                go_region_held3 (fun w' => w'.cell? ⟨wr.heap.size, 0, none⟩ = some (.int .i64 so) ∧ w'.cell? ⟨wr.heap.size, 1, none⟩ = some (.int .i64 (xn : Int)) ∧ w'.cell? ⟨w.heap.size, 0, none⟩ = some (.slice na names.length nc) ∧ w'.cell? ⟨w.heap.size, 1, none⟩ = some (.slice ua curs.length uc) ∧ w'.cell? ⟨w.heap.size, 2, none⟩ = some (.slice pa pool.length pc) ∧ w'.cell? ⟨w.heap.size, 3, none⟩ = some (.int .i64 hor) ∧ w'.cell? ⟨w.heap.size, 4, none⟩ = some (.int .i64 cells) ∧ w'.cell? ⟨w.heap.size, 5, none⟩ = some (.int .i64 slots) ∧ w'.cell? ⟨w.heap.size, 6, none⟩ = some (.int .i64 stack) ∧ w'.cell? ⟨w.heap.size, 7, none⟩ = some (.slice da days.length dc))
                  (refine ⟨?_, ?_, ?_, ?_, ?_, ?_, ?_, ?_, ?_, ?_⟩ <;> first | assumption | (go_simp; done))
                  (first
                  | (go_at_call 93; refine (KB.out _).mono ?_; rintro e w3 ⟨rfl, h2⟩; have h3 : Below w2.heap.size w2 w3 := ⟨h2.os, h2.tape, h2.output, h2.size, h2.block⟩; have B3 := Lib.hid (B2.out.trans (h3.mono B2.out.size)); have U3 := Lib.hid (U2.out.later h3); have FX3 := Lib.hid (FX2.out.later h3); have X3 := Lib.hid (X2.out.laterP h3); have T3 := Lib.hid (T2.out.laterP h3); obtain ⟨z0, z1, z2⟩ := box_all3P X3.out; obtain ⟨t0, t1, t2, t3, t4, t5, t6, t7⟩ := box_all8 (T3.out); clear h2 h3))
                obtain ⟨cn, cu, cp, hx, r1, r2, r3⟩ := U3.out
                have hl : xn < cn.length := by rw [hx.ln]; have := BD.out; simp only at this ⊢; omega
                have hl3 : xn < names.length := by have := hx.ln; simp only at this; omega
                have hl4 : (xn : Int) < (names.length : Int) := by omega
                obtain ⟨m0, m1⟩ := hx.rn.at xn hl
                obtain ⟨f0, f1, f2⟩ := box_all3U hx.box
                have cb := (r1.2 xn hl)
                have cw : IntKind.i64.wrap (cn.getD xn 0 + 1) = cn.getD xn 0 + 1 := wrap_cnt _ (by omega) (by have := cb.2.1; have := hM; omega)
                have U4 := Lib.hid (show UC (w3.setCell ⟨gn, xn, none⟩ (.int .i64 (cn.getD xn 0 + 1))).drew _ w0.heap.size ub gn gu gp _ _ _ (M + (k + 1)) from ⟨_, _, _, (hx.setN xn (cn.getD xn 0 + 1)).later (drew1B _), r1.set xn hl, r2.wide (by omega), r3.wide (by omega)⟩)
                have B4 := Lib.hid ((bel_set B3.out xn (.int .i64 (cn.getD xn 0 + 1)) hx.bb.2.1).drew)
                have T4 := Lib.hid ((T3.out.other gn xn (.int .i64 (cn.getD xn 0 + 1)) (by have := GL.out.1; omega)).laterP (drew1B _))
                have FX4 := Lib.hid ((FX3.out.set gn xn (.int .i64 (cn.getD xn 0 + 1)) (by simp)).later (drew1B _))
                generalize cn.getD xn 0 = cv at *
                clear hx r1 r2 r3 cb
                go_wp2
                go_region
                all_goals
                  go_wp2
                  go_roundw
                  case rel =>
                    refine ⟨k + 1, by omega, by go_num, OK.out, ?_, B4.out, T4.out, FX4.out⟩
                    rw [F3.out, F28.out, F1.out, MB.out.1, MB.out.2.1, MB.out.2.2]
                    exact U4.out
                  case measure => simp [intOf]; omega
              · have b0 : decide (bd ≤ (xn : Int)) = true := decide_eq_true (by omega)
                have d0 : bd ≤ (xn : Int) := by omega
                have NO := Lib.hid (NOI.out (fun z => by have := IBk.out.1 z; omega))
                go_wp2_with (go_at_call 60; refine (KV.out _).mono ?_; rintro e w2 ⟨rfl, h2⟩; have B2 := Lib.hid (B1.out.trans (h2.mono B1.out.size)); have U2 := Lib.hid (U1.out.later h2); have FX2 := Lib.hid (FX1.out.later h2); have X2 := Lib.hid (TI.out.laterP h2); have T2 := Lib.hid (TT1.out.laterP h2); obtain ⟨v0, v1, v2⟩ := box_all3P X2.out; obtain ⟨y0, y1, y2, y3, y4, y5, y6, y7⟩ := box_all8 (T2.out); clear h2)
                go_region_held3 (fun w' => w'.cell? ⟨wr.heap.size, 0, none⟩ = some (.int .i64 so) ∧ w'.cell? ⟨wr.heap.size, 1, none⟩ = some (.int .i64 (xn : Int)) ∧ w'.cell? ⟨w.heap.size, 0, none⟩ = some (.slice na names.length nc) ∧ w'.cell? ⟨w.heap.size, 1, none⟩ = some (.slice ua curs.length uc) ∧ w'.cell? ⟨w.heap.size, 2, none⟩ = some (.slice pa pool.length pc) ∧ w'.cell? ⟨w.heap.size, 3, none⟩ = some (.int .i64 hor) ∧ w'.cell? ⟨w.heap.size, 4, none⟩ = some (.int .i64 cells) ∧ w'.cell? ⟨w.heap.size, 5, none⟩ = some (.int .i64 slots) ∧ w'.cell? ⟨w.heap.size, 6, none⟩ = some (.int .i64 stack) ∧ w'.cell? ⟨w.heap.size, 7, none⟩ = some (.slice da days.length dc))
                  (refine ⟨?_, ?_, ?_, ?_, ?_, ?_, ?_, ?_, ?_, ?_⟩ <;> first | assumption | (go_simp; done))
                  (first
                  | (go_at_call 93; refine (KB.out _).mono ?_; rintro e w3 ⟨rfl, h2⟩; have h3 : Below w2.heap.size w2 w3 := ⟨h2.os, h2.tape, h2.output, h2.size, h2.block⟩; have B3 := Lib.hid (B2.out.trans (h3.mono B2.out.size)); have U3 := Lib.hid (U2.out.later h3); have FX3 := Lib.hid (FX2.out.later h3); have X3 := Lib.hid (X2.out.laterP h3); have T3 := Lib.hid (T2.out.laterP h3); obtain ⟨z0, z1, z2⟩ := box_all3P X3.out; obtain ⟨t0, t1, t2, t3, t4, t5, t6, t7⟩ := box_all8 (T3.out); clear h2 h3))
                go_wp2
                go_ret
                exact ⟨⟨false, rfl, ⟨(fun e => by cases e), fun z => absurd z NO.out⟩, (fun e => by cases e)⟩, B3.out, FX3.out⟩
            by_cases q28 : so = 28
            · have MB := Lib.hid (p := mkB 3 ((l.take k).foldl (mkB 3) bn) ⟨so, (xn : Int), sy⟩ = ((l.take k).foldl (mkB 3) bn) ∧ mkB 28 ((l.take k).foldl (mkB 28) bu) ⟨so, (xn : Int), sy⟩ = ((l.take k).foldl (mkB 28) bu).set xn true ∧ mkB 1 ((l.take k).foldl (mkB 1) bp) ⟨so, (xn : Int), sy⟩ = ((l.take k).foldl (mkB 1) bp)) (by rw [q28]; simp [mkB])
              have BD := Lib.hid (p := boundN ⟨na, nc, names, ua, uc, curs, pa, pc, pool, hor, cells, slots, stack, da, dc, days⟩ so = (curs.length : Int)) (by rw [q28]; simp [boundN])
              have t1 : (so == 0) = false := by rw [q28]; rfl
              have t2 : ((k : Int) == (n : Int) - 1) = false := by
                have : ¬ k + 1 = n := fun z => by have := e1.2 z; omega
                simp; omega
              have s1 : (so == 1) = false := by rw [q28]; rfl
              have s3 : (so == 3) = false := by rw [q28]; rfl
              have s28 : (so == 28) = true := by rw [q28]; rfl
              have KBk := Lib.hid (KB.out so)
              rw [BD.out] at IBk KBk
              have KB := KBk
              obtain ⟨bd, hbd⟩ : ∃ bd : Int, bd = (curs.length : Int) := ⟨_, rfl⟩
              rw [← hbd] at IBk KB
              have BD := Lib.hid (p := (xn : Int) < bd → (xn : Int) < (curs.length : Int)) (fun z => by omega)
              clear e1 KBk hbd q28
              by_cases e3 : (xn : Int) < bd
              · have BD := Lib.hid (BD.out e3)
                have b0 : decide (bd ≤ (xn : Int)) = false := decide_eq_false (by omega)
                have d0 : ¬ bd ≤ (xn : Int) := by omega
                have OK := Lib.hid (OKI.out (IBk.out.2 (by omega)))
                go_wp2_with (go_at_call 60; refine (KV.out _).mono ?_; rintro e w2 ⟨rfl, h2⟩; have B2 := Lib.hid (B1.out.trans (h2.mono B1.out.size)); have U2 := Lib.hid (U1.out.later h2); have FX2 := Lib.hid (FX1.out.later h2); have X2 := Lib.hid (TI.out.laterP h2); have T2 := Lib.hid (TT1.out.laterP h2); obtain ⟨v0, v1, v2⟩ := box_all3P X2.out; obtain ⟨y0, y1, y2, y3, y4, y5, y6, y7⟩ := box_all8 (T2.out); clear h2)
                go_region_held3 (fun w' => w'.cell? ⟨wr.heap.size, 0, none⟩ = some (.int .i64 so) ∧ w'.cell? ⟨wr.heap.size, 1, none⟩ = some (.int .i64 (xn : Int)) ∧ w'.cell? ⟨w.heap.size, 0, none⟩ = some (.slice na names.length nc) ∧ w'.cell? ⟨w.heap.size, 1, none⟩ = some (.slice ua curs.length uc) ∧ w'.cell? ⟨w.heap.size, 2, none⟩ = some (.slice pa pool.length pc) ∧ w'.cell? ⟨w.heap.size, 3, none⟩ = some (.int .i64 hor) ∧ w'.cell? ⟨w.heap.size, 4, none⟩ = some (.int .i64 cells) ∧ w'.cell? ⟨w.heap.size, 5, none⟩ = some (.int .i64 slots) ∧ w'.cell? ⟨w.heap.size, 6, none⟩ = some (.int .i64 stack) ∧ w'.cell? ⟨w.heap.size, 7, none⟩ = some (.slice da days.length dc))
                  (refine ⟨?_, ?_, ?_, ?_, ?_, ?_, ?_, ?_, ?_, ?_⟩ <;> first | assumption | (go_simp; done))
                  (first
                  | (go_at_call 93; refine (KB.out _).mono ?_; rintro e w3 ⟨rfl, h2⟩; have h3 : Below w2.heap.size w2 w3 := ⟨h2.os, h2.tape, h2.output, h2.size, h2.block⟩; have B3 := Lib.hid (B2.out.trans (h3.mono B2.out.size)); have U3 := Lib.hid (U2.out.later h3); have FX3 := Lib.hid (FX2.out.later h3); have X3 := Lib.hid (X2.out.laterP h3); have T3 := Lib.hid (T2.out.laterP h3); obtain ⟨z0, z1, z2⟩ := box_all3P X3.out; obtain ⟨t0, t1, t2, t3, t4, t5, t6, t7⟩ := box_all8 (T3.out); clear h2 h3))
                obtain ⟨cn, cu, cp, hx, r1, r2, r3⟩ := U3.out
                have hl : xn < cu.length := by rw [hx.lu]; have := BD.out; simp only at this ⊢; omega
                have hl3 : xn < curs.length := by have := hx.lu; simp only at this; omega
                have hl4 : (xn : Int) < (curs.length : Int) := by omega
                obtain ⟨m0, m1⟩ := hx.ru.at xn hl
                obtain ⟨f0, f1, f2⟩ := box_all3U hx.box
                have cb := (r2.2 xn hl)
                have cw : IntKind.i64.wrap (cu.getD xn 0 + 1) = cu.getD xn 0 + 1 := wrap_cnt _ (by omega) (by have := cb.2.1; have := hM; omega)
                have U4 := Lib.hid (show UC (w3.setCell ⟨gu, xn, none⟩ (.int .i64 (cu.getD xn 0 + 1))).drew _ w0.heap.size ub gn gu gp _ _ _ (M + (k + 1)) from ⟨_, _, _, (hx.setU xn (cu.getD xn 0 + 1)).later (drew1B _), r1.wide (by omega), r2.set xn hl, r3.wide (by omega)⟩)
                have B4 := Lib.hid ((bel_set B3.out xn (.int .i64 (cu.getD xn 0 + 1)) hx.bb.2.2.1).drew)
                have T4 := Lib.hid ((T3.out.other gu xn (.int .i64 (cu.getD xn 0 + 1)) (by have := GL.out.2.1; omega)).laterP (drew1B _))
                have FX4 := Lib.hid ((FX3.out.set gu xn (.int .i64 (cu.getD xn 0 + 1)) (by simp)).later (drew1B _))
                generalize cu.getD xn 0 = cv at *
                clear hx r1 r2 r3 cb
                go_wp2
                go_region
                all_goals
                  go_wp2
                  go_roundw
                  case rel =>
                    refine ⟨k + 1, by omega, by go_num, OK.out, ?_, B4.out, T4.out, FX4.out⟩
                    rw [F3.out, F28.out, F1.out, MB.out.1, MB.out.2.1, MB.out.2.2]
                    exact U4.out
                  case measure => simp [intOf]; omega
              · have b0 : decide (bd ≤ (xn : Int)) = true := decide_eq_true (by omega)
                have d0 : bd ≤ (xn : Int) := by omega
                have NO := Lib.hid (NOI.out (fun z => by have := IBk.out.1 z; omega))
                go_wp2_with (go_at_call 60; refine (KV.out _).mono ?_; rintro e w2 ⟨rfl, h2⟩; have B2 := Lib.hid (B1.out.trans (h2.mono B1.out.size)); have U2 := Lib.hid (U1.out.later h2); have FX2 := Lib.hid (FX1.out.later h2); have X2 := Lib.hid (TI.out.laterP h2); have T2 := Lib.hid (TT1.out.laterP h2); obtain ⟨v0, v1, v2⟩ := box_all3P X2.out; obtain ⟨y0, y1, y2, y3, y4, y5, y6, y7⟩ := box_all8 (T2.out); clear h2)
                go_region_held3 (fun w' => w'.cell? ⟨wr.heap.size, 0, none⟩ = some (.int .i64 so) ∧ w'.cell? ⟨wr.heap.size, 1, none⟩ = some (.int .i64 (xn : Int)) ∧ w'.cell? ⟨w.heap.size, 0, none⟩ = some (.slice na names.length nc) ∧ w'.cell? ⟨w.heap.size, 1, none⟩ = some (.slice ua curs.length uc) ∧ w'.cell? ⟨w.heap.size, 2, none⟩ = some (.slice pa pool.length pc) ∧ w'.cell? ⟨w.heap.size, 3, none⟩ = some (.int .i64 hor) ∧ w'.cell? ⟨w.heap.size, 4, none⟩ = some (.int .i64 cells) ∧ w'.cell? ⟨w.heap.size, 5, none⟩ = some (.int .i64 slots) ∧ w'.cell? ⟨w.heap.size, 6, none⟩ = some (.int .i64 stack) ∧ w'.cell? ⟨w.heap.size, 7, none⟩ = some (.slice da days.length dc))
                  (refine ⟨?_, ?_, ?_, ?_, ?_, ?_, ?_, ?_, ?_, ?_⟩ <;> first | assumption | (go_simp; done))
                  (first
                  | (go_at_call 93; refine (KB.out _).mono ?_; rintro e w3 ⟨rfl, h2⟩; have h3 : Below w2.heap.size w2 w3 := ⟨h2.os, h2.tape, h2.output, h2.size, h2.block⟩; have B3 := Lib.hid (B2.out.trans (h3.mono B2.out.size)); have U3 := Lib.hid (U2.out.later h3); have FX3 := Lib.hid (FX2.out.later h3); have X3 := Lib.hid (X2.out.laterP h3); have T3 := Lib.hid (T2.out.laterP h3); obtain ⟨z0, z1, z2⟩ := box_all3P X3.out; obtain ⟨t0, t1, t2, t3, t4, t5, t6, t7⟩ := box_all8 (T3.out); clear h2 h3))
                go_wp2
                go_ret
                exact ⟨⟨false, rfl, ⟨(fun e => by cases e), fun z => absurd z NO.out⟩, (fun e => by cases e)⟩, B3.out, FX3.out⟩
            have MB := Lib.hid (p := mkB 3 ((l.take k).foldl (mkB 3) bn) ⟨so, (xn : Int), sy⟩ = ((l.take k).foldl (mkB 3) bn) ∧ mkB 28 ((l.take k).foldl (mkB 28) bu) ⟨so, (xn : Int), sy⟩ = ((l.take k).foldl (mkB 28) bu) ∧ mkB 1 ((l.take k).foldl (mkB 1) bp) ⟨so, (xn : Int), sy⟩ = ((l.take k).foldl (mkB 1) bp)) (by simp [mkB, q1, q3, q28])
            have s1 : (so == 1) = false := by simpa using q1
            have s3 : (so == 3) = false := by simpa using q3
            have s28 : (so == 28) = false := by simpa using q28
            have KBk := Lib.hid (KB.out so)
            generalize boundN ⟨na, nc, names, ua, uc, curs, pa, pc, pool, hor, cells, slots, stack, da, dc, days⟩ so = bd at IBk KBk
            have KB := KBk
            clear KBk q1 q3 q28
            by_cases q0 : so = 0
            · have t1 : (so == 0) = true := by simpa using q0
              have t2 : ((k : Int) == (n : Int) - 1) = true := by have := e1.1 q0; simp; omega
              clear e1 q0
              by_cases e3 : (xn : Int) < bd
              · have b0 : decide (bd ≤ (xn : Int)) = false := decide_eq_false (by omega)
                have d0 : ¬ bd ≤ (xn : Int) := by omega
                have OK := Lib.hid (OKI.out (IBk.out.2 (by omega)))
                go_wp2_with (go_at_call 60; refine (KV.out _).mono ?_; rintro e w2 ⟨rfl, h2⟩; have B2 := Lib.hid (B1.out.trans (h2.mono B1.out.size)); have U2 := Lib.hid (U1.out.later h2); have FX2 := Lib.hid (FX1.out.later h2); have X2 := Lib.hid (TI.out.laterP h2); have T2 := Lib.hid (TT1.out.laterP h2); obtain ⟨v0, v1, v2⟩ := box_all3P X2.out; obtain ⟨y0, y1, y2, y3, y4, y5, y6, y7⟩ := box_all8 (T2.out); clear h2)
                go_region_held3 (fun w' => w'.cell? ⟨wr.heap.size, 0, none⟩ = some (.int .i64 so) ∧ w'.cell? ⟨wr.heap.size, 1, none⟩ = some (.int .i64 (xn : Int)) ∧ w'.cell? ⟨w.heap.size, 0, none⟩ = some (.slice na names.length nc) ∧ w'.cell? ⟨w.heap.size, 1, none⟩ = some (.slice ua curs.length uc) ∧ w'.cell? ⟨w.heap.size, 2, none⟩ = some (.slice pa pool.length pc) ∧ w'.cell? ⟨w.heap.size, 3, none⟩ = some (.int .i64 hor) ∧ w'.cell? ⟨w.heap.size, 4, none⟩ = some (.int .i64 cells) ∧ w'.cell? ⟨w.heap.size, 5, none⟩ = some (.int .i64 slots) ∧ w'.cell? ⟨w.heap.size, 6, none⟩ = some (.int .i64 stack) ∧ w'.cell? ⟨w.heap.size, 7, none⟩ = some (.slice da days.length dc))
                  (refine ⟨?_, ?_, ?_, ?_, ?_, ?_, ?_, ?_, ?_, ?_⟩ <;> first | assumption | (go_simp; done))
                  (first
                  | (go_at_call 93; refine (KB.out _).mono ?_; rintro e w3 ⟨rfl, h2⟩; have h3 : Below w2.heap.size w2 w3 := ⟨h2.os, h2.tape, h2.output, h2.size, h2.block⟩; have B3 := Lib.hid (B2.out.trans (h3.mono B2.out.size)); have U3 := Lib.hid (U2.out.later h3); have FX3 := Lib.hid (FX2.out.later h3); have X3 := Lib.hid (X2.out.laterP h3); have T3 := Lib.hid (T2.out.laterP h3); obtain ⟨z0, z1, z2⟩ := box_all3P X3.out; obtain ⟨t0, t1, t2, t3, t4, t5, t6, t7⟩ := box_all8 (T3.out); clear h2 h3))
                go_wp2
                go_roundw
                case rel =>
                  refine ⟨k + 1, by omega, by go_num, OK.out, ?_, B3.out, T3.out, FX3.out⟩
                  rw [F3.out, F28.out, F1.out, MB.out.1, MB.out.2.1, MB.out.2.2]
                  obtain ⟨cn, cu, cp, hx, r1, r2, r3⟩ := U3.out
                  exact ⟨cn, cu, cp, hx, r1.wide (by omega), r2.wide (by omega), r3.wide (by omega)⟩
                case measure => simp [intOf]; omega
              · have b0 : decide (bd ≤ (xn : Int)) = true := decide_eq_true (by omega)
                have d0 : bd ≤ (xn : Int) := by omega
                have NO := Lib.hid (NOI.out (fun z => by have := IBk.out.1 z; omega))
                go_wp2_with (go_at_call 60; refine (KV.out _).mono ?_; rintro e w2 ⟨rfl, h2⟩; have B2 := Lib.hid (B1.out.trans (h2.mono B1.out.size)); have U2 := Lib.hid (U1.out.later h2); have FX2 := Lib.hid (FX1.out.later h2); have X2 := Lib.hid (TI.out.laterP h2); have T2 := Lib.hid (TT1.out.laterP h2); obtain ⟨v0, v1, v2⟩ := box_all3P X2.out; obtain ⟨y0, y1, y2, y3, y4, y5, y6, y7⟩ := box_all8 (T2.out); clear h2)
                go_region_held3 (fun w' => w'.cell? ⟨wr.heap.size, 0, none⟩ = some (.int .i64 so) ∧ w'.cell? ⟨wr.heap.size, 1, none⟩ = some (.int .i64 (xn : Int)) ∧ w'.cell? ⟨w.heap.size, 0, none⟩ = some (.slice na names.length nc) ∧ w'.cell? ⟨w.heap.size, 1, none⟩ = some (.slice ua curs.length uc) ∧ w'.cell? ⟨w.heap.size, 2, none⟩ = some (.slice pa pool.length pc) ∧ w'.cell? ⟨w.heap.size, 3, none⟩ = some (.int .i64 hor) ∧ w'.cell? ⟨w.heap.size, 4, none⟩ = some (.int .i64 cells) ∧ w'.cell? ⟨w.heap.size, 5, none⟩ = some (.int .i64 slots) ∧ w'.cell? ⟨w.heap.size, 6, none⟩ = some (.int .i64 stack) ∧ w'.cell? ⟨w.heap.size, 7, none⟩ = some (.slice da days.length dc))
                  (refine ⟨?_, ?_, ?_, ?_, ?_, ?_, ?_, ?_, ?_, ?_⟩ <;> first | assumption | (go_simp; done))
                  (first
                  | (go_at_call 93; refine (KB.out _).mono ?_; rintro e w3 ⟨rfl, h2⟩; have h3 : Below w2.heap.size w2 w3 := ⟨h2.os, h2.tape, h2.output, h2.size, h2.block⟩; have B3 := Lib.hid (B2.out.trans (h3.mono B2.out.size)); have U3 := Lib.hid (U2.out.later h3); have FX3 := Lib.hid (FX2.out.later h3); have X3 := Lib.hid (X2.out.laterP h3); have T3 := Lib.hid (T2.out.laterP h3); obtain ⟨z0, z1, z2⟩ := box_all3P X3.out; obtain ⟨t0, t1, t2, t3, t4, t5, t6, t7⟩ := box_all8 (T3.out); clear h2 h3))
                go_wp2
                go_ret
                exact ⟨⟨false, rfl, ⟨(fun e => by cases e), fun z => absurd z NO.out⟩, (fun e => by cases e)⟩, B3.out, FX3.out⟩
            · have t1 : (so == 0) = false := by simpa using q0
              have t2 : ((k : Int) == (n : Int) - 1) = false := by
                have : ¬ k + 1 = n := fun z => q0 (e1.2 z)
                simp; omega
              clear e1 q0
              by_cases e3 : (xn : Int) < bd
              · have b0 : decide (bd ≤ (xn : Int)) = false := decide_eq_false (by omega)
                have d0 : ¬ bd ≤ (xn : Int) := by omega
                have OK := Lib.hid (OKI.out (IBk.out.2 (by omega)))
                go_wp2_with (go_at_call 60; refine (KV.out _).mono ?_; rintro e w2 ⟨rfl, h2⟩; have B2 := Lib.hid (B1.out.trans (h2.mono B1.out.size)); have U2 := Lib.hid (U1.out.later h2); have FX2 := Lib.hid (FX1.out.later h2); have X2 := Lib.hid (TI.out.laterP h2); have T2 := Lib.hid (TT1.out.laterP h2); obtain ⟨v0, v1, v2⟩ := box_all3P X2.out; obtain ⟨y0, y1, y2, y3, y4, y5, y6, y7⟩ := box_all8 (T2.out); clear h2)
                go_region_held3 (fun w' => w'.cell? ⟨wr.heap.size, 0, none⟩ = some (.int .i64 so) ∧ w'.cell? ⟨wr.heap.size, 1, none⟩ = some (.int .i64 (xn : Int)) ∧ w'.cell? ⟨w.heap.size, 0, none⟩ = some (.slice na names.length nc) ∧ w'.cell? ⟨w.heap.size, 1, none⟩ = some (.slice ua curs.length uc) ∧ w'.cell? ⟨w.heap.size, 2, none⟩ = some (.slice pa pool.length pc) ∧ w'.cell? ⟨w.heap.size, 3, none⟩ = some (.int .i64 hor) ∧ w'.cell? ⟨w.heap.size, 4, none⟩ = some (.int .i64 cells) ∧ w'.cell? ⟨w.heap.size, 5, none⟩ = some (.int .i64 slots) ∧ w'.cell? ⟨w.heap.size, 6, none⟩ = some (.int .i64 stack) ∧ w'.cell? ⟨w.heap.size, 7, none⟩ = some (.slice da days.length dc))
                  (refine ⟨?_, ?_, ?_, ?_, ?_, ?_, ?_, ?_, ?_, ?_⟩ <;> first | assumption | (go_simp; done))
                  (first
                  | (go_at_call 93; refine (KB.out _).mono ?_; rintro e w3 ⟨rfl, h2⟩; have h3 : Below w2.heap.size w2 w3 := ⟨h2.os, h2.tape, h2.output, h2.size, h2.block⟩; have B3 := Lib.hid (B2.out.trans (h3.mono B2.out.size)); have U3 := Lib.hid (U2.out.later h3); have FX3 := Lib.hid (FX2.out.later h3); have X3 := Lib.hid (X2.out.laterP h3); have T3 := Lib.hid (T2.out.laterP h3); obtain ⟨z0, z1, z2⟩ := box_all3P X3.out; obtain ⟨t0, t1, t2, t3, t4, t5, t6, t7⟩ := box_all8 (T3.out); clear h2 h3))
                go_wp2
                go_roundw
                case rel =>
                  refine ⟨k + 1, by omega, by go_num, OK.out, ?_, B3.out, T3.out, FX3.out⟩
                  rw [F3.out, F28.out, F1.out, MB.out.1, MB.out.2.1, MB.out.2.2]
                  obtain ⟨cn, cu, cp, hx, r1, r2, r3⟩ := U3.out
                  exact ⟨cn, cu, cp, hx, r1.wide (by omega), r2.wide (by omega), r3.wide (by omega)⟩
                case measure => simp [intOf]; omega
              · have b0 : decide (bd ≤ (xn : Int)) = true := decide_eq_true (by omega)
                have d0 : bd ≤ (xn : Int) := by omega
                have NO := Lib.hid (NOI.out (fun z => by have := IBk.out.1 z; omega))
                go_wp2_with (go_at_call 60; refine (KV.out _).mono ?_; rintro e w2 ⟨rfl, h2⟩; have B2 := Lib.hid (B1.out.trans (h2.mono B1.out.size)); have U2 := Lib.hid (U1.out.later h2); have FX2 := Lib.hid (FX1.out.later h2); have X2 := Lib.hid (TI.out.laterP h2); have T2 := Lib.hid (TT1.out.laterP h2); obtain ⟨v0, v1, v2⟩ := box_all3P X2.out; obtain ⟨y0, y1, y2, y3, y4, y5, y6, y7⟩ := box_all8 (T2.out); clear h2)
                go_region_held3 (fun w' => w'.cell? ⟨wr.heap.size, 0, none⟩ = some (.int .i64 so) ∧ w'.cell? ⟨wr.heap.size, 1, none⟩ = some (.int .i64 (xn : Int)) ∧ w'.cell? ⟨w.heap.size, 0, none⟩ = some (.slice na names.length nc) ∧ w'.cell? ⟨w.heap.size, 1, none⟩ = some (.slice ua curs.length uc) ∧ w'.cell? ⟨w.heap.size, 2, none⟩ = some (.slice pa pool.length pc) ∧ w'.cell? ⟨w.heap.size, 3, none⟩ = some (.int .i64 hor) ∧ w'.cell? ⟨w.heap.size, 4, none⟩ = some (.int .i64 cells) ∧ w'.cell? ⟨w.heap.size, 5, none⟩ = some (.int .i64 slots) ∧ w'.cell? ⟨w.heap.size, 6, none⟩ = some (.int .i64 stack) ∧ w'.cell? ⟨w.heap.size, 7, none⟩ = some (.slice da days.length dc))
                  (refine ⟨?_, ?_, ?_, ?_, ?_, ?_, ?_, ?_, ?_, ?_⟩ <;> first | assumption | (go_simp; done))
                  (first
                  | (go_at_call 93; refine (KB.out _).mono ?_; rintro e w3 ⟨rfl, h2⟩; have h3 : Below w2.heap.size w2 w3 := ⟨h2.os, h2.tape, h2.output, h2.size, h2.block⟩; have B3 := Lib.hid (B2.out.trans (h3.mono B2.out.size)); have U3 := Lib.hid (U2.out.later h3); have FX3 := Lib.hid (FX2.out.later h3); have X3 := Lib.hid (X2.out.laterP h3); have T3 := Lib.hid (T2.out.laterP h3); obtain ⟨z0, z1, z2⟩ := box_all3P X3.out; obtain ⟨t0, t1, t2, t3, t4, t5, t6, t7⟩ := box_all8 (T3.out); clear h2 h3))
                go_wp2
                go_ret
                exact ⟨⟨false, rfl, ⟨(fun e => by cases e), fun z => absurd z NO.out⟩, (fun e => by cases e)⟩, B3.out, FX3.out⟩
          · have NO := Lib.hid (CNk.out (fun z => e1 (II.out.1 z).1))
            by_cases q : so = 0
            · have t1 : (so == 0) = true := by simpa using q
              have t2 : ((k : Int) == (n : Int) - 1) = false := by simp; intro z; exact e1 ⟨fun _ => by omega, fun _ => q⟩
              clear e1 e2 q
              go_wp2_with (go_at_call 60; refine (KV.out _).mono ?_; rintro e w2 ⟨rfl, h2⟩; have B2 := Lib.hid (B1.out.trans (h2.mono B1.out.size)); have U2 := Lib.hid (U1.out.later h2); have FX2 := Lib.hid (FX1.out.later h2); have X2 := Lib.hid (TI.out.laterP h2); have T2 := Lib.hid (TT1.out.laterP h2); obtain ⟨v0, v1, v2⟩ := box_all3P X2.out; obtain ⟨y0, y1, y2, y3, y4, y5, y6, y7⟩ := box_all8 (T2.out); clear h2)
              go_ret
              exact ⟨⟨false, rfl, ⟨(fun e => by cases e), fun z => absurd z NO.out⟩, (fun e => by cases e)⟩, B2.out, FX2.out⟩
            · have t1 : (so == 0) = false := by simpa using q
              have t2 : ((k : Int) == (n : Int) - 1) = true := by
                by_cases r : k + 1 = n
                · simp; omega
                · exact absurd ⟨fun z => absurd z q, fun z => absurd z r⟩ e1
              clear e1 e2 q
              go_wp2_with (go_at_call 60; refine (KV.out _).mono ?_; rintro e w2 ⟨rfl, h2⟩; have B2 := Lib.hid (B1.out.trans (h2.mono B1.out.size)); have U2 := Lib.hid (U1.out.later h2); have FX2 := Lib.hid (FX1.out.later h2); have X2 := Lib.hid (TI.out.laterP h2); have T2 := Lib.hid (TT1.out.laterP h2); obtain ⟨v0, v1, v2⟩ := box_all3P X2.out; obtain ⟨y0, y1, y2, y3, y4, y5, y6, y7⟩ := box_all8 (T2.out); clear h2)
              go_ret
              exact ⟨⟨false, rfl, ⟨(fun e => by cases e), fun z => absurd z NO.out⟩, (fun e => by cases e)⟩, B2.out, FX2.out⟩
        · rw [okV_neg e2] at KV
          have NO := Lib.hid (CNk.out (fun z => e2 (II.out.1 z).2.1))
          clear e2
          go_wp2_with (go_at_call 60; refine (KV.out _).mono ?_; rintro e w2 ⟨rfl, h2⟩; have B2 := Lib.hid (B1.out.trans (h2.mono B1.out.size)); have U2 := Lib.hid (U1.out.later h2); have FX2 := Lib.hid (FX1.out.later h2); have X2 := Lib.hid (TI.out.laterP h2); have T2 := Lib.hid (TT1.out.laterP h2); obtain ⟨v0, v1, v2⟩ := box_all3P X2.out; obtain ⟨y0, y1, y2, y3, y4, y5, y6, y7⟩ := box_all8 (T2.out); clear h2)
          go_ret
          exact ⟨⟨false, rfl, ⟨(fun e => by cases e), fun z => absurd z NO.out⟩, (fun e => by cases e)⟩, B2.out, FX2.out⟩
      · obtain rfl : k = n := by omega
        have CC := Lib.hid (CP.out hE.out)
        have LT := Lib.hid (p := l.take k = l ∧ l.length = k) ⟨List.take_of_length_le (by omega), l1⟩
        have FF := Lib.hid hF
        clear hE hU hB hT hF
        go_wp2
        go_ret
        exact ⟨⟨true, rfl, ⟨fun _ => CC.out, fun _ => rfl⟩, fun _ => by have := UU.out; rw [LT.out.1] at this; rw [LT.out.2]; exact this⟩, BB.out, FF.out⟩
end Go.Proofs.YtccjeipkljdhdaaGreatDoor
