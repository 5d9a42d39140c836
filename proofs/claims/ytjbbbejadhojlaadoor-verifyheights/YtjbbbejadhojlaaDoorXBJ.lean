import Derived.Test.YtjbbbejadhojlaaDoorXBI
namespace Go.Proofs.YtjbbbejadhojlaaDoor
open Go.RowKit
set_option linter.unusedVariables false
set_option linter.unusedSimpArgs false
/-- The code of the first d days is turned about. -/
def cdR (p : Pg) (d e : Nat) : List In := if e < d then (p.days.getD e default).code.reverse else (p.days.getD e default).code
theorem cdR_next (p : Pg) (d : Nat) : updL (cdR p d) d (p.days.getD d default).code.reverse = cdR p (d + 1) := by
  funext e
  unfold updL cdR
  by_cases z : e = d
  · subst z
    rw [if_pos rfl, if_pos (by omega)]
  · rw [if_neg z]
    have : (e < d) ↔ (e < d + 1) := by omega
    simp only [this]
/-- The segments that were made. -/
def QR (p : Pg) (d : Nat) (Q : List Sg) : Prop := Q.length = d ∧ ∀ e, e < d → (Q.getD e default).key = ((p.days.getD e default).day, (p.days.getD e default).code.reverse)
theorem QR.next {p : Pg} {d : Nat} {Q : List Sg} (h : QR p d Q) {s : Sg} (hs : s.key = ((p.days.getD d default).day, (p.days.getD d default).code.reverse)) : QR p (d + 1) (Q ++ [s]) := by
  refine ⟨by rw [List.length_append, h.1]; rfl, fun e he => ?_⟩
  by_cases z : e = d
  · subst z
    have : (Q ++ [s]).getD e default = s := by
      have := getD_snoc_eqR (l := Q) (x := s) (d := default)
      rw [h.1] at this
      exact this
    rw [this]
    exact hs
  · rw [getD_snoc_ltR (by rw [h.1]; omega)]
    exact h.2 e (by omega)
def TuE (wb w : World) (p : Pg) (gn gc gp gd : Nat) (cg : Nat → Nat) (e : Ending) (w' : World) : Prop := ∃ q : Pg, e = .returned q.agg ∧ (∀ V, Below wb.heap.size w V → w'.heap.size ≤ V.heap.size → (∀ u, w.heap.size ≤ u → u < w'.heap.size → V.heap[u]? = w'.heap[u]?) → PV V q) ∧ q.key = (hdP p gn gc gp gd cg (cdR p p.days.length)).key ∧ HnP w' wb.heap.size p gn gc gp gd cg (cdR p p.days.length) ∧ Below wb.heap.size w w' ∧ ∀ u, u < w.heap.size → (∀ d, d < p.days.length → u ≠ cg d) → w'.heap[u]? = w.heap[u]?
theorem tu_end {wb w : World} {p : Pg} {gn gc gp gd : Nat} {cg : Nat → Nat} {qa : Option Addr} {qc : Nat} {Q : List Sg} {W : World} (hp : PV wb p) (hb : Below wb.heap.size wb w) (h : TuI wb w p gn gc gp gd cg (cdR p p.days.length) (.slice qa p.days.length qc) Q W) (hq : QR p p.days.length Q) {V : World} (hs : W.heap.size ≤ V.heap.size) (be : Below wb.heap.size w V) (far : ∀ u, u ≠ w.heap.size + 2 → V.heap[u]? = W.heap[u]?) : TuE wb w p gn gc gp gd cg (.returned (.agg (qA p (.slice qa p.days.length qc)))) V := by
  have hw := hb.size
  have ne : ∀ {u : Nat} {cs : Array Value} {t : TypeId}, BkP W u cs t → t ≠ 26 → u ≠ w.heap.size + 2 := fun {u cs t} bk ht z => bk_ne h.rb bk (fun q => ht q.symm) z.symm
  have kk : ∀ {u : Nat} {cs : Array Value} {t : TypeId}, BkP W u cs t → t ≠ 26 → BkP V u cs t := fun {u cs t} bk ht => (far u (ne bk ht)).trans bk
  have qo : V.ownsRow w.heap.size 43 2 (.slice qa p.days.length qc) p.days.length (flatV p.days.length (fun i => (Q.getD i default).cs)) := by
    have o := h.qo
    unfold OwSg at o
    rw [hq.1] at o
    exact own_blkG o (fun u hu => far u (fun z => own_neB o h.rb (by decide) (by rw [hu, z])))
  refine ⟨{ p with da := qa, dc := qc, days := Q }, ?_, fun V' be' hs2 kp => ?_, ?_, ⟨kk h.hn.bn (by decide), kk h.hn.bc (by decide), kk h.hn.bp (by decide), kk h.hn.bd (by decide), fun d hd => ⟨kk (h.hn.bi d hd).1 (by decide), (h.hn.bi d hd).2⟩, h.hn.lo, h.hn.inj⟩, be, fun u hu hn => (far u (by omega)).trans (h.far u hu hn)⟩
  · unfold Pg.agg qA
    simp only [hq.1]
  · have pv := hp.later (hb.trans be')
    obtain ⟨r1, r2, r3⟩ := own_rowR (by omega) (own_blkG qo (fun u hu => kp u (World.ownsRow.lt qo u hu).1 (World.ownsRow.lt qo u hu).2)) (fun i => rfl)
    refine ⟨pv.names, pv.curs, pv.pool, pv.hor, pv.cells, pv.slots, pv.stack, ?_⟩
    show GL V' qa Q.length qc Q
    rw [hq.1]
    refine ⟨r2, hq.1, hp.days.2.2.1, fun s hs' => ?_, r1⟩
    have q := h.qs s hs'
    refine ⟨q.1.1, q.1.2.far (Nat.le_trans hs hs2) (fun y u m e => ?_)⟩
    obtain ⟨q1, cur, q2⟩ := q.2 y u m e
    have l2 := q2.lt
    exact (kp y q1 (by omega)).trans (far y (ne q2 (by decide)))
  · refine key_eq rfl rfl rfl rfl rfl rfl rfl ?_
    have l2 : (hdP p gn gc gp gd cg (cdR p p.days.length)).days.length = p.days.length := by show ((List.range p.days.length).map _).length = _; simp
    refine keys_eq (by rw [l2]; exact hq.1) (fun e he => ?_)
    have he : e < p.days.length := by rw [← hq.1]; exact he
    rw [hq.2 e he]
    have : (hdP p gn gc gp gd cg (cdR p p.days.length)).days.getD e default = ⟨(p.days.getD e default).day, some ⟨cg e, 0, none⟩, (p.days.getD e default).code.length + 3, cdR p p.days.length e⟩ := by
      show ((List.range p.days.length).map _).getD e default = _
      simp [he]
    rw [this]
    unfold Sg.key cdR
    simp only
    rw [if_pos he]
theorem tu_start {wb w : World} {p : Pg} {gn gc gp gd : Nat} {cg : Nat → Nat} (hb : Below wb.heap.size wb w) (hn : HnP w wb.heap.size p gn gc gp gd cg (fun d => (p.days.getD d default).code)) : TuI wb w p gn gc gp gd cg (cdR p 0) (.slice none 0 0) [] ((((w.alloc (.cells (hdA p gn gc gp gd) 26)).alloc (.cells p.arr 26)).alloc (.cells zeroP 26)).alloc (.cells (qA p (.slice none 0 0)) 26)) := by
  obtain ⟨W1, h1⟩ : ∃ W, w.alloc (.cells (hdA p gn gc gp gd) 26) = W := ⟨_, rfl⟩
  rw [h1]
  obtain ⟨W2, h2⟩ : ∃ W, W1.alloc (.cells p.arr 26) = W := ⟨_, rfl⟩
  rw [h2]
  obtain ⟨W3, h3⟩ : ∃ W, W2.alloc (.cells zeroP 26) = W := ⟨_, rfl⟩
  rw [h3]
  have s1 : W1.heap.size = w.heap.size + 1 := by rw [← h1]; simp
  have s2 : W2.heap.size = w.heap.size + 2 := by rw [← h2]; simp [s1]
  have s3 : W3.heap.size = w.heap.size + 3 := by rw [← h3]; simp [s2]
  have b1 : Below w.heap.size w W1 := by rw [← h1]; exact allocBP _ _
  have b2 : Below W1.heap.size W1 W2 := by rw [← h2]; exact allocBP _ _
  have b3 : Below W2.heap.size W2 W3 := by rw [← h3]; exact allocBP _ _
  have b4 := allocBP W3 (.cells (qA p (.slice none 0 0)) 26)
  have t1 : BkP W1 w.heap.size (hdA p gn gc gp gd) 26 := by rw [← h1]; exact heapN _ _
  have t2 : BkP W2 W1.heap.size p.arr 26 := by rw [← h2]; exact heapN _ _
  have t3 : BkP W3 W2.heap.size zeroP 26 := by rw [← h3]; exact heapN _ _
  have t4 : BkP (W3.alloc (.cells (qA p (.slice none 0 0)) 26)) W3.heap.size (qA p (.slice none 0 0)) 26 := heapN _ _
  rw [s1] at t2
  rw [s2] at t3
  rw [s3] at t4
  have b12 := b1.trans (b2.mono b1.size)
  have b13 := b12.trans (b3.mono b12.size)
  have b14 := b13.trans (b4.mono b13.size)
  have ec : (fun d => (p.days.getD d default).code) = cdR p 0 := by
    funext e
    unfold cdR
    rw [if_neg (by omega)]
  rw [ec] at hn
  exact ⟨b14.mono hb.size, fun u hu _ => b14.block u hu, ((t1.lat b2).lat b3).lat b4, (t2.lat b3).lat b4, t3.lat b4, t4, hn.lat b14, fun d hd => (hn.bi d hd).1.lt, hn.bd.lt, World.ownsRow_nil _ _ _ _, fun s hs => (by cases hs)⟩
set_option maxRecDepth 100000 in
set_option maxHeartbeats 6400000 in
theorem turned_any {wb w : World} {p : Pg} (hp : PV wb p) (hb : Below wb.heap.size wb w) {gn gc gp gd : Nat} {cg : Nat → Nat} (hn : HnP w wb.heap.size p gn gc gp gd cg (fun d => (p.days.getD d default).code)) : Calls Tryd.prog 9 #[(hdP p gn gc gp gd cg (fun d => (p.days.getD d default).code)).agg, p.agg] w fun e w' => TuE wb w p gn gc gp gd cg e w' := by
  have b4 := hp.days.2.2.1
  have hbs := hb.size
  have S0 := Lib.hid (tu_start hb hn)
  have FE := Lib.hid (fun qa qc Q W (h : TuI wb w p gn gc gp gd cg (cdR p p.days.length) (.slice qa p.days.length qc) Q W) (hq : QR p p.days.length Q) V (hs : W.heap.size ≤ V.heap.size) (be : Below wb.heap.size w V) far => tu_end hp hb h hq (V := V) hs be far)
  have DC := Lib.hid (p := ∀ k, k < p.days.length → ∃ y u, p.da = some ⟨y, u, none⟩ ∧ ∀ V, Below wb.heap.size w V → (V.cell? ⟨y, u + k * 2, none⟩ = some (.int .i64 (p.days.getD k default).day) ∧ V.cell? ⟨y, u + k * 2 + 1, none⟩ = some (.slice (p.days.getD k default).ca (p.days.getD k default).code.length (p.days.getD k default).cc))) (fun k hk => by
    rcases hp.days.2.2.2.2 with z | ⟨y, u, e, ly, hc⟩
    · omega
    · have c0 := hc k hk 0 (by omega)
      have c1 := hc k hk 1 (by omega)
      simp only [Sg.cs, Nat.add_zero, List.getD_cons_zero, List.getD_cons_succ] at c0 c1
      exact ⟨y, u, e, fun V bb => ⟨((hb.trans bb).cell (p := ⟨y, u + k * 2, none⟩) ly).trans c0, ((hb.trans bb).cell (p := ⟨y, u + k * 2 + 1, none⟩) ly).trans c1⟩⟩)
  have GG := Lib.hid (p := ∀ k, k < p.days.length → i64 (p.days.getD k default).day ∧ (p.days.getD k default).code.length ≤ 5864062014634 ∧ (∀ i ∈ (p.days.getD k default).code, i64 i.o ∧ i64 i.a ∧ i64 i.b) ∧ ∀ m, m < (p.days.getD k default).code.length → ∃ z v, (p.days.getD k default).ca = some ⟨z, v, none⟩ ∧ z < wb.heap.size ∧ ∀ V, Below wb.heap.size w V → V.cell? ⟨z, v + m * 3, none⟩ = some (.int .i64 ((p.days.getD k default).code.getD m default).o) ∧ V.cell? ⟨z, v + m * 3 + 1, none⟩ = some (.int .i64 ((p.days.getD k default).code.getD m default).a) ∧ V.cell? ⟨z, v + m * 3 + 2, none⟩ = some (.int .i64 ((p.days.getD k default).code.getD m default).b)) (fun k hk => by
    have g := hp.days.2.2.2.1 _ (sg_mem hk)
    refine ⟨g.1, g.2.2.2.1, g.2.2.2.2.1, fun m hm => ?_⟩
    rcases g.2.2.2.2.2 with z | ⟨z, v, e, lz, hc⟩
    · omega
    · exact ⟨z, v, e, lz, fun V bb => ⟨((hb.trans bb).cell (p := ⟨z, v + m * 3, none⟩) lz).trans (hc m hm 0 (by omega)), ((hb.trans bb).cell (p := ⟨z, v + m * 3 + 1, none⟩) lz).trans (hc m hm 1 (by omega)), ((hb.trans bb).cell (p := ⟨z, v + m * 3 + 2, none⟩) lz).trans (hc m hm 2 (by omega))⟩⟩)
  have PA := Lib.hid (p := ∀ cd qv Q V, TuI wb w p gn gc gp gd cg cd qv Q V → BkP V w.heap.size (hdA p gn gc gp gd) 26 ∧ BkP V (w.heap.size + 1) p.arr 26 ∧ BkP V (w.heap.size + 3) (qA p qv) 26) (fun cd qv Q V q => ⟨q.ib, q.pb, q.qb⟩)
  have SD := Lib.hid (p := ∀ cd qv Q V, TuI wb w p gn gc gp gd cg cd qv Q V → ∀ k, k < p.days.length → V.cell? ⟨gd, k * 2 + 1, none⟩ = some (.slice (some ⟨cg k, 0, none⟩) (p.days.getD k default).code.length ((p.days.getD k default).code.length + 3))) (fun cd qv Q V q k hk => by
    have e1 := sgG_at p.days cg k 1 (by omega)
    rw [if_pos hk] at e1
    rw [q.hn.bd.cell, fullA_at _ _ _ (by omega), e1]
    rfl)
  rw [hdP_agg]
  clear hp hn
  unfold Pg.agg at *
  unfold Pg.arr hdA qA zeroP at *
  obtain ⟨na, nc, names, ua, uc, curs, pa, pc, pool, hor, cells, slots, stack, da, dc, days⟩ := p
  simp only at *
  go_enter Tryd.func9, Tryd.ntmps9
  go_wp2
  generalize hW : World.alloc _ _ = W5 at *
  clear hW
  go_loopw [6] (fun t wr => ∃ (d : Nat) (qa : Option Addr) (qc : Nat) (Q : List Sg), d ≤ days.length ∧ t = .int .i64 (d : Int) ∧ RowKit.Hid (TuI wb w ⟨na, nc, names, ua, uc, curs, pa, pc, pool, hor, cells, slots, stack, da, dc, days⟩ gn gc gp gd cg (cdR ⟨na, nc, names, ua, uc, curs, pa, pc, pool, hor, cells, slots, stack, da, dc, days⟩ d) (.slice qa d qc) Q wr ∧ QR ⟨na, nc, names, ua, uc, curs, pa, pc, pool, hor, cells, slots, stack, da, dc, days⟩ d Q)) (fun t _ => days.length - (intOf t).toNat)
  case atStart => exact ⟨0, none, 0, [], by omega, rfl, S0.out, rfl, fun e he => by omega⟩
  case round =>
    clear S0
    rename World => wr
    obtain ⟨d, qa, qc, Q, hd, rfl, hH⟩ := hrel
    obtain ⟨hT, hQ⟩ := hH.out
    obtain ⟨ib0, pb0, qb0⟩ := PA.out _ _ _ _ hT
    obtain ⟨_, _, _, _, _, _, _, i7⟩ := box_all8 ib0
    obtain ⟨_, _, _, _, _, _, _, p7⟩ := box_all8 pb0
    by_cases hlt : d < days.length
    · have kc : (d : Int) < (days.length : Int) := by omega
      have kd0 : ¬ (d : Int) < 0 := by omega
      have ks : IntKind.i64.wrap ((d : Int) + 1) = (d : Int) + 1 := by simp [IntKind.wrap, IntKind.bits, IntKind.signed]; omega
      obtain ⟨y, u, rfl, hc⟩ := DC.out d hlt
      obtain ⟨c0, c1⟩ := hc wr hT.be
      obtain ⟨g1, g2, g3, g4⟩ := GG.out d hlt
      have sd := SD.out _ _ _ _ hT d hlt
      have cl := hT.cl d hlt
      have cb := (hT.hn.bi d hlt)
      have ws : w.heap.size + 3 < wr.heap.size := hT.qb.lt
      have hT0 := Lib.hid hT
      have HQ := Lib.hid hQ
      have HC := Lib.hid hc
      have WB0 := Lib.hid hT.be
      have crd : cdR ⟨na, nc, names, ua, uc, curs, pa, pc, pool, hor, cells, slots, stack, some ⟨y, u, none⟩, dc, days⟩ d d = (days.getD d default).code := by unfold cdR; rw [if_neg (by omega)]
      have T0 := Lib.hid (p := TnI wb wr (cg d) (days.getD d default).code 0 none 0 wr) ⟨Below.refl _ _, fun _ _ _ => rfl, by have q := cb.1; rw [crd] at q; rw [revT_zero]; exact q, by rw [List.take_zero]; exact World.ownsRow_nil _ _ _ _⟩
      have CBL := Lib.hid (p := wb.heap.size ≤ cg d ∧ cg d < wr.heap.size) ⟨cb.2.2, by omega⟩
      have NT := Lib.hid (p := ∀ V a c, TnI wb wr (cg d) (days.getD d default).code (days.getD d default).code.length a c V → TuI wb w ⟨na, nc, names, ua, uc, curs, pa, pc, pool, hor, cells, slots, stack, some ⟨y, u, none⟩, dc, days⟩ gn gc gp gd cg (cdR ⟨na, nc, names, ua, uc, curs, pa, pc, pool, hor, cells, slots, stack, some ⟨y, u, none⟩, dc, days⟩ (d + 1)) (.slice qa d qc) Q V ∧ (GV V ⟨(days.getD d default).day, a, c, (days.getD d default).code.reverse⟩ ∧ ∀ y u m, a = some ⟨y, u, m⟩ → w.heap.size ≤ y ∧ ∃ cur, BkP V y cur 51)) (fun V a c h => by
        have cb2 := h.cb
        rw [revT_all] at cb2
        have t := hT.turn hlt hbs h.bb h.fa (x := (days.getD d default).code.reverse) (by simp) cb2
        have e := cdR_next ⟨na, nc, names, ua, uc, curs, pa, pc, pool, hor, cells, slots, stack, some ⟨y, u, none⟩, dc, days⟩ d
        simp only at e
        rw [e] at t
        have lo := h.lo
        unfold OwIn at lo
        rw [List.take_of_length_le (by simp)] at lo
        have rl : (days.getD d default).code.reverse.length = (days.getD d default).code.length := by simp
        rw [rl] at lo
        obtain ⟨r1, r2, r3⟩ := own_rowR (by omega) lo (fun i => rfl)
        refine ⟨t, ⟨g1, ?_⟩, fun y u m e => ?_⟩
        · show IR V a (days.getD d default).code.reverse.length c (days.getD d default).code.reverse
          rw [rl]
          exact ⟨r2, rl, g2, fun i hi => g3 i (List.mem_reverse.1 hi), r1⟩
        · obtain ⟨q1, q2⟩ := r3 y u m e
          exact ⟨by omega, q2⟩)
      have NS := Lib.hid (p := ∀ V a i c, TnI wb wr (cg d) (days.getD d default).code i a c V → Below wb.heap.size w V ∧ (∀ v, v < wr.heap.size → v ≠ cg d → V.heap[v]? = wr.heap[v]?)) (fun V a i c h => ⟨hT.be.trans h.bb, h.fa⟩)
      have IBC := Lib.hid (p := ∀ V : World, (∀ v, v < wr.heap.size → v ≠ cg d → V.heap[v]? = wr.heap[v]?) → V.cell? ⟨w.heap.size, 7, none⟩ = some (.slice (some ⟨gd, 0, none⟩) days.length (days.length + 3)) ∧ V.cell? ⟨gd, d * 2 + 1, none⟩ = some (.slice (some ⟨cg d, 0, none⟩) (days.getD d default).code.length ((days.getD d default).code.length + 3))) (fun V q => ⟨(World.cell?_of_block (a := ⟨w.heap.size, 7, none⟩) (q w.heap.size (by omega) (by omega))).trans i7, (World.cell?_of_block (a := ⟨gd, d * 2 + 1, none⟩) (q gd hT.hn.bd.lt (fun z => bk_ne hT.hn.bd cb.1 (by decide) z))).trans sd⟩)
      clear hH hT hQ ib0 pb0 qb0 i7 sd cb hc crd
      obtain ⟨sg, hsg⟩ : ∃ sg, days.getD d default = sg := ⟨_, rfl⟩
      rw [hsg] at c0 c1 g1 g2 g3 g4 T0 NT NS IBC HC
      have HSG := Lib.hid hsg
      clear hsg
      obtain ⟨sd, sa, sc, sl⟩ := sg
      simp only at c0 c1 g1 g2 g3 g4 T0 NT NS IBC HC
      have G4 := Lib.hid g4
      obtain ⟨n, hnl⟩ : ∃ n, sl.length = n := ⟨_, rfl⟩
      have HL := Lib.hid hnl
      rw [hnl] at c1 g2 IBC HC
      have SLN := Lib.hid hnl
      clear g4 g3 hnl
      go_wp2
      clear p7 c0 c1
      go_loopw [8, 9] (fun lv t w2 => ∃ (i : Nat) (la : Option Addr) (lc : Nat), i ≤ n ∧ lv = .slice la i lc ∧ t = .int .i64 (i : Int) ∧ RowKit.Hid (TnI wb wr (cg d) sl i la lc w2)) (fun _ t _ => n - (intOf t).toNat)
      case atStart => exact ⟨0, none, 0, by omega, rfl, rfl, T0.out⟩
      case round =>
        clear T0
        rename World => w2
        obtain ⟨i, la, lc, hi, rfl, rfl, hI⟩ := hrel
        have hI0 := hI.out
        by_cases hin : i < n
        · have ic : (i : Int) < (n : Int) := by omega
          have i0 : ¬ (i : Int) < 0 := by omega
          have is : IntKind.i64.wrap ((i : Int) + 1) = (i : Int) + 1 := by simp [IntKind.wrap, IntKind.bits, IntKind.signed]; omega
          obtain ⟨n1, hn1⟩ : ∃ n1, n - 1 = n1 := ⟨_, rfl⟩
          obtain ⟨m, hm⟩ : ∃ m, n1 - i = m := ⟨_, rfl⟩
          have k1 : IntKind.i64.wrap ((n : Int) - 1) = (n1 : Int) := by simp [IntKind.wrap, IntKind.bits, IntKind.signed]; omega
          have k2 : IntKind.i64.wrap ((n1 : Int) - (i : Int)) = (m : Int) := by simp [IntKind.wrap, IntKind.bits, IntKind.signed]; omega
          have mn : m < n := by omega
          have mc : (m : Int) < (n : Int) := by omega
          have m0 : ¬ (m : Int) < 0 := by omega
          obtain ⟨z, v, rfl, lz, hcc⟩ := G4.out m (by rw [SLN.out]; exact mn)
          obtain ⟨q0, q1, q2⟩ := hcc w2 (NS.out _ _ _ _ hI0).1
          have em : sl.getD (sl.length - 1 - i) default = sl.getD m default := by rw [SLN.out, hn1, hm]
          obtain ⟨a7, c7, w7, R7, ⟨v0, v1, v2, e0, e1, e2⟩, ⟨f0, f1, f2⟩, Z7⟩ := hI0.step (by rw [SLN.out]; exact hin) (by rw [SLN.out]; omega) CBL.out.2 CBL.out.1 (x := sl.getD m default) em.symm
          have SF := Lib.hid (p := ∀ V : World, Below wb.heap.size w V → (∀ v, v < wr.heap.size → v ≠ cg d → V.heap[v]? = wr.heap[v]?) → (V.cell? ⟨w.heap.size, 7, none⟩ = some (.slice (some ⟨gd, 0, none⟩) days.length (days.length + 3)) ∧ V.cell? ⟨gd, d * 2 + 1, none⟩ = some (.slice (some ⟨cg d, 0, none⟩) n (n + 3))) ∧ (V.cell? ⟨z, v + m * 3, none⟩ = some (.int .i64 (sl.getD m default).o) ∧ V.cell? ⟨z, v + m * 3 + 1, none⟩ = some (.int .i64 (sl.getD m default).a) ∧ V.cell? ⟨z, v + m * 3 + 2, none⟩ = some (.int .i64 (sl.getD m default).b))) (fun V bb q => ⟨IBC.out V q, hcc V bb⟩)
          have WBE := Lib.hid (p := Below wb.heap.size w wr) WB0.out
          have B7 := Lib.hid (p := Below wb.heap.size w w7) (WBE.out.trans Z7.out.1)
          have B8 := Lib.hid (p := Below wb.heap.size w (set3 w7.drew (cg d) (i * 3) (.int .i64 (sl.getD m default).o) (.int .i64 (sl.getD m default).a) (.int .i64 (sl.getD m default).b)) ∧ (∀ v, v < wr.heap.size → v ≠ cg d → (set3 w7.drew (cg d) (i * 3) (.int .i64 (sl.getD m default).o) (.int .i64 (sl.getD m default).a) (.int .i64 (sl.getD m default).b)).heap[v]? = wr.heap[v]?) ∧ TnI wb wr (cg d) sl (i + 1) a7 c7 (set3 w7.drew (cg d) (i * 3) (.int .i64 (sl.getD m default).o) (.int .i64 (sl.getD m default).a) (.int .i64 (sl.getD m default).b))) (by
            have z := Z7.out.2.2
            have bz : Below wb.heap.size wr (set3 w7.drew (cg d) (i * 3) (.int .i64 (sl.getD m default).o) (.int .i64 (sl.getD m default).a) (.int .i64 (sl.getD m default).b)) := ⟨z.bb.os, z.bb.tape, z.bb.output, z.bb.size, z.bb.block⟩
            exact ⟨WBE.out.trans bz, z.fa, z.sameH rfl bz⟩)
          obtain ⟨⟨s7, sg1⟩, ⟨t0, t1, t2⟩⟩ := SF.out w7 B7.out Z7.out.2.1
          clear hI hI0 hcc em
          generalize sl.getD m default = x at *
          obtain ⟨xo, xa, xb⟩ := x
          simp only at q0 q1 q2 R7 SF B8 t0 t1 t2
          go_upto_region 12 with (at_builtin; refine wp_app_runR rfl _ _ 41 rfl _ _ _ w7 rfl rfl R7.out ?_)
          clear q0 q1 q2
          refine wp_region_held_drew (S := (fun w' => (w'.cell? ⟨w.heap.size, 7, none⟩ = some (.slice (some ⟨gd, 0, none⟩) days.length (days.length + 3)) ∧ w'.cell? ⟨gd, d * 2 + 1, none⟩ = some (.slice (some ⟨cg d, 0, none⟩) n (n + 3))) ∧ (w'.cell? ⟨z, v + m * 3, none⟩ = some (.int .i64 xo) ∧ w'.cell? ⟨z, v + m * 3 + 1, none⟩ = some (.int .i64 xa) ∧ w'.cell? ⟨z, v + m * 3 + 2, none⟩ = some (.int .i64 xb)))) (by kernel_rfl) ?_ (fun hHeld => ?_)
          · (try dsimp only)
            exact ⟨⟨s7, sg1⟩, ⟨t0, t1, t2⟩⟩
          refine wpAnyH_take (i := 0) (oi := { dst := some 42, op := Op.fieldAddr 26 (Operand.tmp 2) 7, type := 0, pos := "law.go:59", after := #[], guard := none }) (v := ?_) rfl (by kernel_rfl) (by kernel_rfl) (by kernel_rfl) (fun _ _ _ h => h) (Or.inl ⟨by rfl, ?_⟩) (by assumption) ?_
          rotate_left 1
          · intro w' hSw; (try dsimp only at hSw); go_simp; try with_reducible rfl
          (try simp only [Act.put, List.setIfInBounds_toArray, List.set_cons_zero, List.set_cons_succ])
          refine wpAnyH_take (i := 1) (oi := { dst := some 43, op := Op.load 24 (Operand.tmp 42), type := 24, pos := "law.go:59", after := #[{ on := 0, ground := Ground.data }], guard := none }) (v := ?_) rfl (by kernel_rfl) (by kernel_rfl) (by kernel_rfl) (fun _ _ _ h => h) (Or.inl ⟨by rfl, ?_⟩) (by assumption) ?_
          rotate_left 1
          · intro w' hSw; (try dsimp only at hSw); go_simp; try with_reducible rfl
          (try simp only [Act.put, List.setIfInBounds_toArray, List.set_cons_zero, List.set_cons_succ])
          refine wpAnyH_take (i := 2) (oi := { dst := some 44, op := Op.move (Operand.tmp 6), type := 3, pos := "law.go:59", after := #[], guard := none }) (v := ?_) rfl (by kernel_rfl) (by kernel_rfl) (by kernel_rfl) (fun _ _ _ h => h) (Or.inl ⟨by rfl, ?_⟩) (by assumption) ?_
          rotate_left 1
          · intro w' hSw; (try dsimp only at hSw); go_simp; try with_reducible rfl
          (try simp only [Act.put, List.setIfInBounds_toArray, List.set_cons_zero, List.set_cons_succ])
          refine wpAnyH_take (i := 3) (oi := { dst := some 45, op := Op.indexAddr 24 (Operand.tmp 43) (Operand.tmp 44), type := 0, pos := "law.go:59", after := #[{ on := 1, ground := Ground.data }, { on := 2, ground := Ground.data }], guard := none }) (v := ?_) rfl (by kernel_rfl) (by kernel_rfl) (by kernel_rfl) (fun _ _ _ h => h) (Or.inl ⟨by rfl, ?_⟩) (by assumption) ?_
          rotate_left 1
          · intro w' hSw; (try dsimp only at hSw); go_simp; try with_reducible rfl
          (try simp only [Act.put, List.setIfInBounds_toArray, List.set_cons_zero, List.set_cons_succ])
          refine wpAnyH_take (i := 4) (oi := { dst := some 46, op := Op.fieldAddr 43 (Operand.tmp 45) 1, type := 0, pos := "law.go:59", after := #[{ on := 3, ground := Ground.data }], guard := none }) (v := ?_) rfl (by kernel_rfl) (by kernel_rfl) (by kernel_rfl) (fun _ _ _ h => h) (Or.inl ⟨by rfl, ?_⟩) (by assumption) ?_
          rotate_left 1
          · intro w' hSw; (try dsimp only at hSw); go_simp; try with_reducible rfl
          (try simp only [Act.put, List.setIfInBounds_toArray, List.set_cons_zero, List.set_cons_succ])
          refine wpAnyH_take (i := 5) (oi := { dst := some 47, op := Op.load 41 (Operand.tmp 46), type := 41, pos := "law.go:59", after := #[{ on := 4, ground := Ground.data }], guard := none }) (v := ?_) rfl (by kernel_rfl) (by kernel_rfl) (by kernel_rfl) (fun _ _ _ h => h) (Or.inl ⟨by rfl, ?_⟩) (by assumption) ?_
          rotate_left 1
          · intro w' hSw; (try dsimp only at hSw); go_simp; try with_reducible rfl
          (try simp only [Act.put, List.setIfInBounds_toArray, List.set_cons_zero, List.set_cons_succ])
          refine wpAnyH_take (i := 6) (oi := { dst := some 48, op := Op.move (Operand.tmp 9), type := 3, pos := "law.go:59", after := #[], guard := none }) (v := ?_) rfl (by kernel_rfl) (by kernel_rfl) (by kernel_rfl) (fun _ _ _ h => h) (Or.inl ⟨by rfl, ?_⟩) (by assumption) ?_
          rotate_left 1
          · intro w' hSw; (try dsimp only at hSw); go_simp; try with_reducible rfl
          (try simp only [Act.put, List.setIfInBounds_toArray, List.set_cons_zero, List.set_cons_succ])
          refine wpAnyH_take (i := 7) (oi := { dst := some 49, op := Op.move (Operand.tmp 7), type := 41, pos := "law.go:59", after := #[], guard := none }) (v := ?_) rfl (by kernel_rfl) (by kernel_rfl) (by kernel_rfl) (fun _ _ _ h => h) (Or.inl ⟨by rfl, ?_⟩) (by assumption) ?_
          rotate_left 1
          · intro w' hSw; (try dsimp only at hSw); go_simp; try with_reducible rfl
          (try simp only [Act.put, List.setIfInBounds_toArray, List.set_cons_zero, List.set_cons_succ])
          refine wpAnyH_take (i := 8) (oi := { dst := some 50, op := Op.move (Operand.tmp 7), type := 41, pos := "law.go:59", after := #[], guard := none }) (v := ?_) rfl (by kernel_rfl) (by kernel_rfl) (by kernel_rfl) (fun _ _ _ h => h) (Or.inl ⟨by rfl, ?_⟩) (by assumption) ?_
          rotate_left 1
          · intro w' hSw; (try dsimp only at hSw); go_simp; try with_reducible rfl
          (try simp only [Act.put, List.setIfInBounds_toArray, List.set_cons_zero, List.set_cons_succ])
          refine wpAnyH_take (i := 9) (oi := { dst := some 51, op := Op.call { callee := Callee.builtin Builtin.len, args := #[Operand.tmp 50], argTypes := #[41] }, type := 3, pos := "law.go:59", after := #[{ on := 8, ground := Ground.data }], guard := none }) (v := ?_) rfl (by kernel_rfl) (by kernel_rfl) (by kernel_rfl) (fun _ _ _ h => h) (Or.inl ⟨by rfl, ?_⟩) (by assumption) ?_
          rotate_left 1
          · intro w' hSw; (try dsimp only at hSw); go_simp; try with_reducible rfl
          (try simp only [Act.put, List.setIfInBounds_toArray, List.set_cons_zero, List.set_cons_succ])
          refine wpAnyH_take (i := 10) (oi := { dst := some 52, op := Op.binOp BinOp.sub 3 (Operand.tmp 51) (Operand.const (Value.int IntKind.i64 1)) 3, type := 3, pos := "law.go:59", after := #[{ on := 9, ground := Ground.data }], guard := none }) (v := ?_) rfl (by kernel_rfl) (by kernel_rfl) (by kernel_rfl) (fun _ _ _ h => h) (Or.inl ⟨by rfl, ?_⟩) (by assumption) ?_
          rotate_left 1
          · intro w' hSw; (try dsimp only at hSw); go_simp; try with_reducible rfl
          (try simp only [Act.put, List.setIfInBounds_toArray, List.set_cons_zero, List.set_cons_succ])
          refine wpAnyH_take (i := 11) (oi := { dst := some 53, op := Op.move (Operand.tmp 9), type := 3, pos := "law.go:59", after := #[], guard := none }) (v := ?_) rfl (by kernel_rfl) (by kernel_rfl) (by kernel_rfl) (fun _ _ _ h => h) (Or.inl ⟨by rfl, ?_⟩) (by assumption) ?_
          rotate_left 1
          · intro w' hSw; (try dsimp only at hSw); go_simp; try with_reducible rfl
          (try simp only [Act.put, List.setIfInBounds_toArray, List.set_cons_zero, List.set_cons_succ])
          refine wpAnyH_take (i := 12) (oi := { dst := some 54, op := Op.binOp BinOp.sub 3 (Operand.tmp 52) (Operand.tmp 53) 3, type := 3, pos := "law.go:59", after := #[{ on := 10, ground := Ground.data }, { on := 11, ground := Ground.data }], guard := none }) (v := ?_) rfl (by kernel_rfl) (by kernel_rfl) (by kernel_rfl) (fun _ _ _ h => h) (Or.inl ⟨by rfl, ?_⟩) (by assumption) ?_
          rotate_left 1
          · intro w' hSw; (try dsimp only at hSw); go_simp; try with_reducible rfl
          (try simp only [Act.put, List.setIfInBounds_toArray, List.set_cons_zero, List.set_cons_succ])
          refine wpAnyH_take (i := 13) (oi := { dst := some 55, op := Op.indexAddr 41 (Operand.tmp 49) (Operand.tmp 54), type := 0, pos := "law.go:59", after := #[{ on := 7, ground := Ground.data }, { on := 12, ground := Ground.data }], guard := none }) (v := ?_) rfl (by kernel_rfl) (by kernel_rfl) (by kernel_rfl) (fun _ _ _ h => h) (Or.inl ⟨by rfl, ?_⟩) (by assumption) ?_
          rotate_left 1
          · intro w' hSw; (try dsimp only at hSw); go_simp; try with_reducible rfl
          (try simp only [Act.put, List.setIfInBounds_toArray, List.set_cons_zero, List.set_cons_succ])
          refine wpAnyH_take (i := 14) (oi := { dst := some 56, op := Op.load 51 (Operand.tmp 55), type := 51, pos := "law.go:59", after := #[{ on := 13, ground := Ground.data }], guard := none }) (v := ?_) rfl (by kernel_rfl) (by kernel_rfl) (by kernel_rfl) (fun _ _ _ h => h) (Or.inl ⟨by rfl, ?_⟩) (by assumption) ?_
          rotate_left 1
          · intro w' hSw; (try dsimp only at hSw); go_simp; try with_reducible rfl
          (try simp only [Act.put, List.setIfInBounds_toArray, List.set_cons_zero, List.set_cons_succ])
          refine wpAnyH_take (i := 15) (oi := { dst := some 57, op := Op.indexAddr 41 (Operand.tmp 47) (Operand.tmp 48), type := 0, pos := "law.go:59", after := #[{ on := 5, ground := Ground.data }, { on := 6, ground := Ground.data }, { on := 0, ground := Ground.phase }, { on := 1, ground := Ground.phase }, { on := 2, ground := Ground.phase }, { on := 3, ground := Ground.phase }, { on := 4, ground := Ground.phase }, { on := 5, ground := Ground.phase }, { on := 6, ground := Ground.phase }, { on := 7, ground := Ground.phase }, { on := 8, ground := Ground.phase }, { on := 9, ground := Ground.phase }, { on := 10, ground := Ground.phase }, { on := 11, ground := Ground.phase }, { on := 12, ground := Ground.phase }, { on := 13, ground := Ground.phase }, { on := 14, ground := Ground.phase }], guard := none }) (v := ?_) rfl (by kernel_rfl) (by kernel_rfl) (by kernel_rfl) (fun _ _ _ h => h) (Or.inl ⟨by rfl, ?_⟩) (by assumption) ?_
          rotate_left 1
          · intro w' hSw; (try dsimp only at hSw); go_simp; try with_reducible rfl
          (try simp only [Act.put, List.setIfInBounds_toArray, List.set_cons_zero, List.set_cons_succ])
          refine wpAnyH_ready (rs := [16]) (by kernel_rfl) (by simp) ?_
          refine AllReadyH.cons (o := { dst := none, op := Op.store 51 (Operand.tmp 57) (Operand.tmp 56), type := 0, pos := "law.go:59", after := #[{ on := 15, ground := Ground.data }, { on := 14, ground := Ground.data }, { on := 0, ground := Ground.phase }, { on := 1, ground := Ground.phase }, { on := 2, ground := Ground.phase }, { on := 3, ground := Ground.phase }, { on := 4, ground := Ground.phase }, { on := 5, ground := Ground.phase }, { on := 6, ground := Ground.phase }, { on := 7, ground := Ground.phase }, { on := 8, ground := Ground.phase }, { on := 9, ground := Ground.phase }, { on := 10, ground := Ground.phase }, { on := 11, ground := Ground.phase }, { on := 12, ground := Ground.phase }, { on := 13, ground := Ground.phase }, { on := 14, ground := Ground.phase }], guard := none }) rfl (fun K' hK => ?_) AllReadyH.nil
          go_simp
          refine hK.out _ _ ?_ (fun hHeld => ?_)
          · (try dsimp only)
            exact SF.out _ B8.out.1 B8.out.2.1
          clear hK K'
          (try simp only [Act.put, List.setIfInBounds_toArray, List.set_cons_zero, List.set_cons_succ])
          refine wpAnyH_done (by kernel_rfl) ?_ _
          go_wp2
          refine ⟨⟨i + 1, a7, c7, by omega, rfl, by go_num, B8.out.2.2⟩, ?_⟩
          simp [intOf]
          omega
        · obtain rfl : n = i := by omega
          obtain ⟨hT2, hG⟩ := NT.out w2 la lc (by rw [SLN.out]; exact hI0)
          obtain ⟨_, pb0, qb0⟩ := PA.out _ _ _ _ hT2
          obtain ⟨_, _, _, _, _, _, _, p7⟩ := box_all8 pb0
          obtain ⟨_, _, _, _, _, _, _, x7⟩ := box_all8 qb0
          obtain ⟨c0, _⟩ := HC.out w2 hT2.be
          have rl : sl.reverse.length = n := by rw [List.length_reverse]; exact SLN.out
          have hTa := (hT2.lat (drew1R w2) hbs).lat (allocBP w2.drew (.cells #[.int .i64 sd, .slice la n lc] 43)) hbs
          have hGa : GV (w2.drew.alloc (.cells #[.int .i64 sd, .slice la n lc] 43)) ⟨sd, la, lc, sl.reverse⟩ ∧ ∀ y u m, la = some ⟨y, u, m⟩ → w.heap.size ≤ y ∧ ∃ cur, BkP (w2.drew.alloc (.cells #[.int .i64 sd, .slice la n lc] 43)) y cur 51 := by
            have ab : Below w2.heap.size w2 (w2.drew.alloc (.cells #[.int .i64 sd, .slice la n lc] 43)) := (drew1R w2).trans (allocBP w2.drew _)
            refine ⟨hG.1.later ab, fun y u m e => ?_⟩
            obtain ⟨q1, cur, q2⟩ := hG.2 y u m e
            exact ⟨q1, cur, q2.lat ab⟩
          obtain ⟨a8, c8, w8, R8, x8, f8, Z8⟩ := hTa.push hbs (by omega) (s := ⟨sd, la, lc, sl.reverse⟩) hGa (g := w2.heap.size) (by
            simp only
            rw [rl]
            exact heapN _ _)
          obtain ⟨be8, pb8, t8⟩ := Z8.out
          obtain ⟨_, _, _, _, _, _, _, p8⟩ := box_all8 pb8
          obtain ⟨_, pb9, _⟩ := PA.out _ _ _ _ t8
          obtain ⟨_, _, _, _, _, _, _, p9⟩ := box_all8 pb9
          have S8 := Lib.hid (p := w8.cell? ⟨w.heap.size + 1, 7, none⟩ = some (.slice (some ⟨y, u, none⟩) days.length dc) ∧ w8.cell? ⟨y, u + d * 2, none⟩ = some (.int .i64 sd)) ⟨p8, (HC.out w8 be8).1⟩
          have S9 := Lib.hid (p := (w8.setCell ⟨w.heap.size + 3, 7, none⟩ (.slice a8 (d + 1) c8)).cell? ⟨w.heap.size + 1, 7, none⟩ = some (.slice (some ⟨y, u, none⟩) days.length dc) ∧ (w8.setCell ⟨w.heap.size + 3, 7, none⟩ (.slice a8 (d + 1) c8)).cell? ⟨y, u + d * 2, none⟩ = some (.int .i64 sd)) ⟨p9, (HC.out _ t8.be).1⟩
          have TA := Lib.hid hTa
          obtain ⟨_, pba, qba⟩ := PA.out _ _ _ _ hTa
          obtain ⟨_, _, _, _, _, _, _, pa7⟩ := box_all8 pba
          obtain ⟨_, _, _, _, _, _, _, xa7⟩ := box_all8 qba
          have SA := Lib.hid (p := (w2.drew.alloc (.cells #[.int .i64 sd, .slice la n lc] 43)).cell? ⟨w.heap.size + 1, 7, none⟩ = some (.slice (some ⟨y, u, none⟩) days.length dc) ∧ (w2.drew.alloc (.cells #[.int .i64 sd, .slice la n lc] 43)).cell? ⟨y, u + d * 2, none⟩ = some (.int .i64 sd)) ⟨pa7, (HC.out _ hTa.be).1⟩
          have xb7 : (w2.alloc (.cells #[.int .i64 sd, .slice la n lc] 43)).cell? ⟨w.heap.size + 3, 7, none⟩ = some (.slice qa d qc) := xa7
          have xd7 : w2.drew.cell? ⟨w.heap.size + 3, 7, none⟩ = some (.slice qa d qc) := x7
          have NXT := Lib.hid (p := TuI wb w ⟨na, nc, names, ua, uc, curs, pa, pc, pool, hor, cells, slots, stack, some ⟨y, u, none⟩, dc, days⟩ gn gc gp gd cg (cdR ⟨na, nc, names, ua, uc, curs, pa, pc, pool, hor, cells, slots, stack, some ⟨y, u, none⟩, dc, days⟩ (d + 1)) (.slice a8 (d + 1) c8) (Q ++ [⟨sd, la, lc, sl.reverse⟩]) (w8.setCell ⟨w.heap.size + 3, 7, none⟩ (.slice a8 (d + 1) c8)) ∧ QR ⟨na, nc, names, ua, uc, curs, pa, pc, pool, hor, cells, slots, stack, some ⟨y, u, none⟩, dc, days⟩ (d + 1) (Q ++ [⟨sd, la, lc, sl.reverse⟩])) ⟨t8, HQ.out.next (by simp only; rw [HSG.out]; rfl)⟩
          clear hI hI0 hT2 hG pb0 qb0 hTa hGa be8 pb8 t8 pb9 pba qba p8 p9 pa7 Z8 TA
          go_upto_region 13 with fail
          refine wp_region_held_drew (S := (fun w' => w'.cell? ⟨w.heap.size + 1, 7, none⟩ = some (.slice (some ⟨y, u, none⟩) days.length dc) ∧ w'.cell? ⟨y, u + d * 2, none⟩ = some (.int .i64 sd))) (by kernel_rfl) ?_ (fun hHeld => ?_)
          · (try dsimp only)
            exact ⟨p7, c0⟩
          refine wpAnyH_take (i := 0) (oi := { dst := some 58, op := Op.fieldAddr 26 (Operand.tmp 5) 7, type := 0, pos := "law.go:61", after := #[], guard := none }) (v := ?_) rfl (by kernel_rfl) (by kernel_rfl) (by kernel_rfl) (fun _ _ _ h => h) (Or.inl ⟨by rfl, ?_⟩) (by assumption) ?_
          rotate_left 1
          · intro w' hSw; (try dsimp only at hSw); go_simp; try with_reducible rfl
          (try simp only [Act.put, List.setIfInBounds_toArray, List.set_cons_zero, List.set_cons_succ])
          refine wpAnyH_take (i := 2) (oi := { dst := some 60, op := Op.fieldAddr 26 (Operand.tmp 3) 7, type := 0, pos := "law.go:61", after := #[], guard := none }) (v := ?_) rfl (by kernel_rfl) (by kernel_rfl) (by kernel_rfl) (fun _ _ _ h => h) (Or.inl ⟨by rfl, ?_⟩) (by assumption) ?_
          rotate_left 1
          · intro w' hSw; (try dsimp only at hSw); go_simp; try with_reducible rfl
          (try simp only [Act.put, List.setIfInBounds_toArray, List.set_cons_zero, List.set_cons_succ])
          refine wpAnyH_take (i := 3) (oi := { dst := some 61, op := Op.load 24 (Operand.tmp 60), type := 24, pos := "law.go:61", after := #[{ on := 2, ground := Ground.data }], guard := none }) (v := ?_) rfl (by kernel_rfl) (by kernel_rfl) (by kernel_rfl) (fun _ _ _ h => h) (Or.inl ⟨by rfl, ?_⟩) (by assumption) ?_
          rotate_left 1
          · intro w' hSw; (try dsimp only at hSw); go_simp; try with_reducible rfl
          (try simp only [Act.put, List.setIfInBounds_toArray, List.set_cons_zero, List.set_cons_succ])
          refine wpAnyH_take (i := 4) (oi := { dst := some 62, op := Op.move (Operand.tmp 6), type := 3, pos := "law.go:61", after := #[], guard := none }) (v := ?_) rfl (by kernel_rfl) (by kernel_rfl) (by kernel_rfl) (fun _ _ _ h => h) (Or.inl ⟨by rfl, ?_⟩) (by assumption) ?_
          rotate_left 1
          · intro w' hSw; (try dsimp only at hSw); go_simp; try with_reducible rfl
          (try simp only [Act.put, List.setIfInBounds_toArray, List.set_cons_zero, List.set_cons_succ])
          refine wpAnyH_take (i := 5) (oi := { dst := some 63, op := Op.indexAddr 24 (Operand.tmp 61) (Operand.tmp 62), type := 0, pos := "law.go:61", after := #[{ on := 3, ground := Ground.data }, { on := 4, ground := Ground.data }], guard := none }) (v := ?_) rfl (by kernel_rfl) (by kernel_rfl) (by kernel_rfl) (fun _ _ _ h => h) (Or.inl ⟨by rfl, ?_⟩) (by assumption) ?_
          rotate_left 1
          · intro w' hSw; (try dsimp only at hSw); go_simp; try with_reducible rfl
          (try simp only [Act.put, List.setIfInBounds_toArray, List.set_cons_zero, List.set_cons_succ])
          refine wpAnyH_take (i := 6) (oi := { dst := some 64, op := Op.fieldAddr 43 (Operand.tmp 63) 0, type := 0, pos := "law.go:61", after := #[{ on := 5, ground := Ground.data }], guard := none }) (v := ?_) rfl (by kernel_rfl) (by kernel_rfl) (by kernel_rfl) (fun _ _ _ h => h) (Or.inl ⟨by rfl, ?_⟩) (by assumption) ?_
          rotate_left 1
          · intro w' hSw; (try dsimp only at hSw); go_simp; try with_reducible rfl
          (try simp only [Act.put, List.setIfInBounds_toArray, List.set_cons_zero, List.set_cons_succ])
          refine wpAnyH_take (i := 7) (oi := { dst := some 65, op := Op.load 3 (Operand.tmp 64), type := 3, pos := "law.go:61", after := #[{ on := 6, ground := Ground.data }], guard := none }) (v := ?_) rfl (by kernel_rfl) (by kernel_rfl) (by kernel_rfl) (fun _ _ _ h => h) (Or.inl ⟨by rfl, ?_⟩) (by assumption) ?_
          rotate_left 1
          · intro w' hSw; (try dsimp only at hSw); go_simp; try with_reducible rfl
          (try simp only [Act.put, List.setIfInBounds_toArray, List.set_cons_zero, List.set_cons_succ])
          refine wpAnyH_take (i := 8) (oi := { dst := some 66, op := Op.move (Operand.tmp 8), type := 41, pos := "law.go:61", after := #[], guard := none }) (v := ?_) rfl (by kernel_rfl) (by kernel_rfl) (by kernel_rfl) (fun _ _ _ h => h) (Or.inl ⟨by rfl, ?_⟩) (by assumption) ?_
          rotate_left 1
          · intro w' hSw; (try dsimp only at hSw); go_simp; try with_reducible rfl
          (try simp only [Act.put, List.setIfInBounds_toArray, List.set_cons_zero, List.set_cons_succ])
          refine wpAnyH_take (i := 9) (oi := { dst := some 67, op := Op.build 43 #[(0, Operand.tmp 65), (1, Operand.tmp 66)], type := 43, pos := "law.go:61", after := #[{ on := 7, ground := Ground.data }, { on := 8, ground := Ground.data }], guard := none }) (v := ?_) rfl (by kernel_rfl) (by kernel_rfl) (by kernel_rfl) (fun _ _ _ h => h) (Or.inl ⟨by rfl, ?_⟩) (by assumption) ?_
          rotate_left 1
          · intro w' hSw; (try dsimp only at hSw); go_simp; try with_reducible rfl
          (try simp only [Act.put, List.setIfInBounds_toArray, List.set_cons_zero, List.set_cons_succ])
          refine wpAnyH_ready (rs := [1, 10]) (by kernel_rfl) (by simp) ?_
          refine AllReadyH.cons (o := { dst := some 59, op := Op.load 24 (Operand.tmp 58), type := 24, pos := "law.go:61", after := #[{ on := 0, ground := Ground.data }], guard := none }) rfl (fun K' hK => ?_) (AllReadyH.cons (o := { dst := some 68, op := Op.buildSlice 24 1 #[(0, Operand.tmp 67)], type := 24, pos := "law.go:61", after := #[{ on := 9, ground := Ground.data }], guard := none }) rfl (fun K' hK => ?_) AllReadyH.nil)
          · go_simp
            refine hK.out _ _ ?_ (fun hHeld => ?_)
            · (try dsimp only)
              exact hHeld
            clear hK K'
            (try simp only [Act.put, List.setIfInBounds_toArray, List.set_cons_zero, List.set_cons_succ])
            refine wpAnyH_ready (rs := [10]) (by kernel_rfl) (by simp) ?_
            refine AllReadyH.cons (o := { dst := some 68, op := Op.buildSlice 24 1 #[(0, Operand.tmp 67)], type := 24, pos := "law.go:61", after := #[{ on := 9, ground := Ground.data }], guard := none }) rfl (fun K' hK => ?_) AllReadyH.nil
            go_simp
            refine hK.out _ _ ?_ (fun hHeld => ?_)
            · (try dsimp only)
              exact SA.out
            clear hK K'
            (try simp only [Act.put, List.setIfInBounds_toArray, List.set_cons_zero, List.set_cons_succ])
            refine wpAnyH_ready (rs := [11]) (by kernel_rfl) (by simp) ?_
            refine AllReadyH.cons (o := { dst := some 69, op := Op.call { callee := Callee.builtin Builtin.append, args := #[Operand.tmp 59, Operand.tmp 68], argTypes := #[24, 24] }, type := 24, pos := "law.go:61", after := #[{ on := 1, ground := Ground.data }, { on := 10, ground := Ground.data }], guard := none }) rfl (fun K' hK => ?_) AllReadyH.nil
            refine step_app_runR rfl _ _ 24 rfl _ _ _ w8 rfl rfl R8.out ?_
            refine hK.out _ _ ?_ (fun hHeld => ?_)
            · (try dsimp only)
              exact S8.out
            clear hK K'
            (try simp only [Act.put, List.setIfInBounds_toArray, List.set_cons_zero, List.set_cons_succ])
            refine wpAnyH_take (i := 12) (oi := { dst := some 70, op := Op.fieldAddr 26 (Operand.tmp 5) 7, type := 0, pos := "law.go:61", after := #[{ on := 0, ground := Ground.phase }, { on := 1, ground := Ground.phase }, { on := 2, ground := Ground.phase }, { on := 3, ground := Ground.phase }, { on := 4, ground := Ground.phase }, { on := 5, ground := Ground.phase }, { on := 6, ground := Ground.phase }, { on := 7, ground := Ground.phase }, { on := 8, ground := Ground.phase }, { on := 9, ground := Ground.phase }, { on := 10, ground := Ground.phase }, { on := 11, ground := Ground.phase }], guard := none }) (v := ?_) rfl (by kernel_rfl) (by kernel_rfl) (by kernel_rfl) (fun _ _ _ h => h) (Or.inl ⟨by rfl, ?_⟩) (by assumption) ?_
            rotate_left 1
            · intro w' hSw; (try dsimp only at hSw); go_simp; try with_reducible rfl
            (try simp only [Act.put, List.setIfInBounds_toArray, List.set_cons_zero, List.set_cons_succ])
            refine wpAnyH_ready (rs := [13]) (by kernel_rfl) (by simp) ?_
            refine AllReadyH.cons (o := { dst := none, op := Op.store 24 (Operand.tmp 70) (Operand.tmp 69), type := 0, pos := "law.go:61", after := #[{ on := 12, ground := Ground.data }, { on := 11, ground := Ground.data }, { on := 11, ground := Ground.chain }, { on := 0, ground := Ground.phase }, { on := 1, ground := Ground.phase }, { on := 2, ground := Ground.phase }, { on := 3, ground := Ground.phase }, { on := 4, ground := Ground.phase }, { on := 5, ground := Ground.phase }, { on := 6, ground := Ground.phase }, { on := 7, ground := Ground.phase }, { on := 8, ground := Ground.phase }, { on := 9, ground := Ground.phase }, { on := 10, ground := Ground.phase }, { on := 11, ground := Ground.phase }], guard := none }) rfl (fun K' hK => ?_) AllReadyH.nil
            go_simp
            refine hK.out _ _ ?_ (fun hHeld => ?_)
            · (try dsimp only)
              exact S9.out
            clear hK K'
            (try simp only [Act.put, List.setIfInBounds_toArray, List.set_cons_zero, List.set_cons_succ])
            refine wpAnyH_done (by kernel_rfl) ?_ _
            go_wp2
            go_roundw
            case rel => exact ⟨d + 1, a8, c8, _, by omega, by go_num, NXT.out⟩
            case measure => simp [intOf]; omega
          · go_simp
            refine hK.out _ _ ?_ (fun hHeld => ?_)
            · (try dsimp only)
              exact SA.out
            clear hK K'
            (try simp only [Act.put, List.setIfInBounds_toArray, List.set_cons_zero, List.set_cons_succ])
            refine wpAnyH_ready (rs := [1]) (by kernel_rfl) (by simp) ?_
            refine AllReadyH.cons (o := { dst := some 59, op := Op.load 24 (Operand.tmp 58), type := 24, pos := "law.go:61", after := #[{ on := 0, ground := Ground.data }], guard := none }) rfl (fun K' hK => ?_) AllReadyH.nil
            go_simp
            refine hK.out _ _ ?_ (fun hHeld => ?_)
            · (try dsimp only)
              exact hHeld
            clear hK K'
            (try simp only [Act.put, List.setIfInBounds_toArray, List.set_cons_zero, List.set_cons_succ])
            refine wpAnyH_ready (rs := [11]) (by kernel_rfl) (by simp) ?_
            refine AllReadyH.cons (o := { dst := some 69, op := Op.call { callee := Callee.builtin Builtin.append, args := #[Operand.tmp 59, Operand.tmp 68], argTypes := #[24, 24] }, type := 24, pos := "law.go:61", after := #[{ on := 1, ground := Ground.data }, { on := 10, ground := Ground.data }], guard := none }) rfl (fun K' hK => ?_) AllReadyH.nil
            refine step_app_runR rfl _ _ 24 rfl _ _ _ w8 rfl rfl R8.out ?_
            refine hK.out _ _ ?_ (fun hHeld => ?_)
            · (try dsimp only)
              exact S8.out
            clear hK K'
            (try simp only [Act.put, List.setIfInBounds_toArray, List.set_cons_zero, List.set_cons_succ])
            refine wpAnyH_take (i := 12) (oi := { dst := some 70, op := Op.fieldAddr 26 (Operand.tmp 5) 7, type := 0, pos := "law.go:61", after := #[{ on := 0, ground := Ground.phase }, { on := 1, ground := Ground.phase }, { on := 2, ground := Ground.phase }, { on := 3, ground := Ground.phase }, { on := 4, ground := Ground.phase }, { on := 5, ground := Ground.phase }, { on := 6, ground := Ground.phase }, { on := 7, ground := Ground.phase }, { on := 8, ground := Ground.phase }, { on := 9, ground := Ground.phase }, { on := 10, ground := Ground.phase }, { on := 11, ground := Ground.phase }], guard := none }) (v := ?_) rfl (by kernel_rfl) (by kernel_rfl) (by kernel_rfl) (fun _ _ _ h => h) (Or.inl ⟨by rfl, ?_⟩) (by assumption) ?_
            rotate_left 1
            · intro w' hSw; (try dsimp only at hSw); go_simp; try with_reducible rfl
            (try simp only [Act.put, List.setIfInBounds_toArray, List.set_cons_zero, List.set_cons_succ])
            refine wpAnyH_ready (rs := [13]) (by kernel_rfl) (by simp) ?_
            refine AllReadyH.cons (o := { dst := none, op := Op.store 24 (Operand.tmp 70) (Operand.tmp 69), type := 0, pos := "law.go:61", after := #[{ on := 12, ground := Ground.data }, { on := 11, ground := Ground.data }, { on := 11, ground := Ground.chain }, { on := 0, ground := Ground.phase }, { on := 1, ground := Ground.phase }, { on := 2, ground := Ground.phase }, { on := 3, ground := Ground.phase }, { on := 4, ground := Ground.phase }, { on := 5, ground := Ground.phase }, { on := 6, ground := Ground.phase }, { on := 7, ground := Ground.phase }, { on := 8, ground := Ground.phase }, { on := 9, ground := Ground.phase }, { on := 10, ground := Ground.phase }, { on := 11, ground := Ground.phase }], guard := none }) rfl (fun K' hK => ?_) AllReadyH.nil
            go_simp
            refine hK.out _ _ ?_ (fun hHeld => ?_)
            · (try dsimp only)
              exact S9.out
            clear hK K'
            (try simp only [Act.put, List.setIfInBounds_toArray, List.set_cons_zero, List.set_cons_succ])
            refine wpAnyH_done (by kernel_rfl) ?_ _
            go_wp2
            go_roundw
            case rel => exact ⟨d + 1, a8, c8, _, by omega, by go_num, NXT.out⟩
            case measure => simp [intOf]; omega
    · obtain rfl : days.length = d := by omega
      obtain ⟨z0, z1, z2, z3, z4, z5, z6, z7⟩ := box_all8 qb0
      have rb := hT.rb
      unfold zeroP at rb
      obtain ⟨r0, r1, r2, r3, r4, r5, r6, r7⟩ := box_all8 rb
      have g0 := rb.frozen 0
      have g1 := rb.frozen 1
      have g2 := rb.frozen 2
      have g3 := rb.frozen 3
      have g4 := rb.frozen 4
      have g5 := rb.frozen 5
      have g6 := rb.frozen 6
      have g7 := rb.frozen 7
      have F := Lib.hid (FE.out qa qc Q wr hT hQ)
      have BE := Lib.hid hT.be
      clear hH hT hQ ib0 pb0 qb0 rb FE
      go_wp2
      refine bodyPost_ret (v := .agg #[.slice na names.length nc, .slice ua curs.length uc, .slice pa pool.length pc, .int .i64 hor, .int .i64 cells, .int .i64 slots, .int .i64 stack, .slice qa days.length qc]) ?r rfl ?s
      case r => simp [results, Tryd.results9, go_sem, r0, r1, r2, r3, r4, r5, r6, r7, g0, g1, g2, g3, g4, g5, g6, g7]
      case s =>
        refine F.out _ (by simp) ?_ (fun v hv => ?_)
        · exact (((((((BE.out.setCell (by show wb.heap.size ≤ w.heap.size + 2; omega) _).setCell (by show wb.heap.size ≤ w.heap.size + 2; omega) _).setCell (by show wb.heap.size ≤ w.heap.size + 2; omega) _).setCell (by show wb.heap.size ≤ w.heap.size + 2; omega) _).setCell (by show wb.heap.size ≤ w.heap.size + 2; omega) _).setCell (by show wb.heap.size ≤ w.heap.size + 2; omega) _).setCell (by show wb.heap.size ≤ w.heap.size + 2; omega) _).setCell (by show wb.heap.size ≤ w.heap.size + 2; omega) _
        · simp only [bk_blockG hv]
end Go.Proofs.YtjbbbejadhojlaaDoor
