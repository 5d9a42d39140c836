import Derived.Test.YtknlpadoladpfaaGreatDoorXAP
import Derived.Deep.Cut
import Derived.Deep.CutRange
import Derived.Deep.DeepCutAuto
namespace Go.Proofs.YtknlpadoladpfaaGreatDoor
open Go.RowKit
set_option linter.unusedVariables false
set_option linter.unusedSimpArgs false

theorem bnot_ofL {e : Int} (h : ¬ e = 0) : (e == 0) = false := by rw [beq_eq_false_iff_ne]; exact h
theorem plR_q : plR = plRq 0 := rfl
/-- What lies when the tables are made. -/
structure LkF (w W : World) (t u p q : Tb) (bp bq : Nat) : Prop where
  bel : Below w.heap.size w W
  fa : W.heap[w.heap.size]? = some (.cells #[.slice t.an t.ln t.cn, .slice t.ar t.lr t.cr] 25)
  fb : W.heap[w.heap.size + 1]? = some (.cells #[.slice u.an u.ln u.cn, .slice u.ar u.lr u.cr] 25)
  fp : W.heap[bp]? = some (.cells #[.slice p.an p.ln p.cn, .slice p.ar p.lr p.cr] 25)
  fq : W.heap[bq]? = some (.cells #[.slice q.an q.ln q.cn, .slice q.ar q.lr q.cr] 25)
  tp : TbIs W p plS (plRq 0)
  tq : TbIs W q plS (plRq 1)
theorem LkF.later {w W W' : World} {t u p q : Tb} {bp bq : Nat} (h : LkF w W t u p q bp bq) (b : Below W.heap.size W W') : LkF w W' t u p q bp bq :=
  ⟨h.bel.trans (b.mono h.bel.size), (b.block _ (blk_lt h.fa)).trans h.fa, (b.block _ (blk_lt h.fb)).trans h.fb, (b.block _ (blk_lt h.fp)).trans h.fp, (b.block _ (blk_lt h.fq)).trans h.fq, h.tp.later b, h.tq.later b⟩
theorem LkF.cells {w W : World} {t u p q : Tb} {bp bq : Nat} (h : LkF w W t u p q bp bq) : W.cell? ⟨w.heap.size, 0, none⟩ = some (.slice t.an t.ln t.cn) ∧ W.cell? ⟨w.heap.size, 1, none⟩ = some (.slice t.ar t.lr t.cr) ∧ W.cell? ⟨w.heap.size + 1, 0, none⟩ = some (.slice u.an u.ln u.cn) ∧ W.cell? ⟨w.heap.size + 1, 1, none⟩ = some (.slice u.ar u.lr u.cr) ∧ W.cell? ⟨bp, 0, none⟩ = some (.slice p.an p.ln p.cn) ∧ W.cell? ⟨bp, 1, none⟩ = some (.slice p.ar p.lr p.cr) ∧ W.cell? ⟨bq, 0, none⟩ = some (.slice q.an q.ln q.cn) ∧ W.cell? ⟨bq, 1, none⟩ = some (.slice q.ar q.lr q.cr) :=
  ⟨(box_all2 h.fa).1, (box_all2 h.fa).2.1, (box_all2 h.fb).1, (box_all2 h.fb).2.1, (box_all2 h.fp).1, (box_all2 h.fp).2.1, (box_all2 h.fq).1, (box_all2 h.fq).2.1⟩
/-- And the table that was cut. -/
structure LkC (w W : World) (t u p q c : Tb) (bp bq bc : Nat) (ss : List ByteArray) (rc : List (List Cl)) : Prop where
  lf : LkF w W t u p q bp bq
  hc : W.heap[bc]? = some (.cells #[.slice c.an c.ln c.cn, .slice c.ar c.lr c.cr] 25)
  tc : TbIs W c ss rc
theorem LkC.later {w W W' : World} {t u p q c : Tb} {bp bq bc : Nat} {ss : List ByteArray} {rc : List (List Cl)} (h : LkC w W t u p q c bp bq bc ss rc) (b : Below W.heap.size W W') : LkC w W' t u p q c bp bq bc ss rc :=
  ⟨h.lf.later b, (b.block _ (blk_lt h.hc)).trans h.hc, h.tc.later b⟩
theorem LkC.c2 {w W : World} {t u p q c : Tb} {bp bq bc : Nat} {ss : List ByteArray} {rc : List (List Cl)} (h : LkC w W t u p q c bp bq bc ss rc) : W.cell? ⟨w.heap.size, 0, none⟩ = some (.slice t.an t.ln t.cn) ∧ W.cell? ⟨w.heap.size, 1, none⟩ = some (.slice t.ar t.lr t.cr) := ⟨h.lf.cells.1, h.lf.cells.2.1⟩
/-- And the overlay. -/
structure LkD (w W : World) (t u p q c o : Tb) (bp bq bc bx : Nat) (ss : List ByteArray) (rc rs : List (List Cl)) : Prop where
  lc : LkC w W t u p q c bp bq bc ss rc
  hx : W.heap[bx]? = some (.cells #[.slice o.an o.ln o.cn, .slice o.ar o.lr o.cr] 25)
  tx : TbIs W o ss rs
theorem LkD.later {w W W' : World} {t u p q c o : Tb} {bp bq bc bx : Nat} {ss : List ByteArray} {rc rs : List (List Cl)} (h : LkD w W t u p q c o bp bq bc bx ss rc rs) (b : Below W.heap.size W W') : LkD w W' t u p q c o bp bq bc bx ss rc rs :=
  ⟨h.lc.later b, (b.block _ (blk_lt h.hx)).trans h.hx, h.tx.later b⟩
theorem LkD.c6 {w W : World} {t u p q c o : Tb} {bp bq bc bx : Nat} {ss : List ByteArray} {rc rs : List (List Cl)} (h : LkD w W t u p q c o bp bq bc bx ss rc rs) : W.cell? ⟨w.heap.size, 0, none⟩ = some (.slice t.an t.ln t.cn) ∧ W.cell? ⟨w.heap.size, 1, none⟩ = some (.slice t.ar t.lr t.cr) ∧ W.cell? ⟨bc, 0, none⟩ = some (.slice c.an c.ln c.cn) ∧ W.cell? ⟨bc, 1, none⟩ = some (.slice c.ar c.lr c.cr) ∧ W.cell? ⟨bx, 0, none⟩ = some (.slice o.an o.ln o.cn) ∧ W.cell? ⟨bx, 1, none⟩ = some (.slice o.ar o.lr o.cr) :=
  ⟨h.lc.lf.cells.1, h.lc.lf.cells.2.1, (box_all2 h.lc.hc).1, (box_all2 h.lc.hc).2.1, (box_all2 h.hx).1, (box_all2 h.hx).2.1⟩
/-- The overlay's box is made last, or ahead of the call. -/
theorem lkD_last {w WS wo X : World} {t u p q c o : Tb} {bp bq bc B : Nat} {ss : List ByteArray} {rc rs : List (List Cl)} (h : LkC w WS t u p q c bp bq bc ss rc) (b : Below WS.heap.size WS wo) (k : PsT B wo o ⟨0, 0, ss, rs⟩) (h1 : X.os = wo.os) (h2 : X.tape = wo.tape) (h3 : X.output = wo.output) (h4 : X.heap = (wo.alloc (.cells #[.slice o.an o.ln o.cn, .slice o.ar o.lr o.cr] 25)).heap) :
    LkD w X t u p q c o bp bq bc wo.heap.size ss rc rs := by
  have bX : Below wo.heap.size wo X := below_eq (below_al wo _) h1 h2 h3 h4
  exact ⟨h.later (b.trans (bX.mono b.size)), by rw [h4]; exact World.alloc_heap_new wo _, k.is.later bX⟩
theorem lkD_first {w WS wo X : World} {t u p q c o : Tb} {bp bq bc bx B : Nat} {ss : List ByteArray} {rc rs : List (List Cl)} (h : LkC w WS t u p q c bp bq bc ss rc) (b : Below WS.heap.size WS wo) (k : PsT B wo o ⟨0, 0, ss, rs⟩) (g : Gd ss rs) (hx : wo.heap[bx]? = some (.cells #[.slice none 0 0, .slice none 0 0] 25)) (l1 : WS.heap.size ≤ bx) (l2 : bx < B)
    (h1 : X.os = wo.os) (h2 : X.tape = wo.tape) (h3 : X.output = wo.output) (h4 : X.heap = ((wo.setCell ⟨bx, 0, none⟩ (.slice o.an o.ln o.cn)).setCell ⟨bx, 1, none⟩ (.slice o.ar o.lr o.cr)).heap) :
    LkD w X t u p q c o bp bq bc bx ss rc rs := by
  have b2 := (b.setCell (p := ⟨bx, 0, none⟩) l1 (.slice o.an o.ln o.cn)).setCell (p := ⟨bx, 1, none⟩) l1 (.slice o.ar o.lr o.cr)
  have k2 := (k.under g l2 (o := 0) (.slice o.an o.ln o.cn)).under g l2 (o := 1) (.slice o.ar o.lr o.cr)
  have bX : Below ((wo.setCell ⟨bx, 0, none⟩ (.slice o.an o.ln o.cn)).setCell ⟨bx, 1, none⟩ (.slice o.ar o.lr o.cr)).heap.size ((wo.setCell ⟨bx, 0, none⟩ (.slice o.an o.ln o.cn)).setCell ⟨bx, 1, none⟩ (.slice o.ar o.lr o.cr)) X := below_eq (Below.refl _ _) h1 h2 h3 h4
  exact ⟨h.later (below_eq b2 h1 h2 h3 h4), by rw [h4]; exact box_set2 hx, k2.is.later bX⟩
theorem ov_box {WS W wo : World} {o : Obj} (b : Below WS.heap.size WS W) (hB : Below (W.alloc o).heap.size (W.alloc o) wo) : WS.heap.size ≤ W.heap.size ∧ W.heap.size < (W.alloc o).heap.size ∧ wo.heap[W.heap.size]? = some o ∧ Below WS.heap.size WS wo := by
  have l : W.heap.size < (W.alloc o).heap.size := by simp
  exact ⟨b.size, l, (hB.block _ l).trans (World.alloc_heap_new W o), (b.alloc b.size o).trans (hB.mono (b.alloc b.size o).size)⟩
theorem set_blk (W : World) (g o j : Nat) (v : Value) (h : ¬ j = g) : (W.setCell ⟨g, o, none⟩ v).heap[j]? = W.heap[j]? := by
  have h' : ¬ g = j := fun e => h e.symm
  simp [World.setCell, Array.getElem?_modify, h']
/-- The worlds ahead of the change of the second plain table. -/
theorem like_made {w w0 w2 w3 w4 W : World} {t u p : Tb} (hw0 : (w.alloc (.cells #[.slice t.an t.ln t.cn, .slice t.ar t.lr t.cr] 25)).alloc (.cells #[.slice u.an u.ln u.cn, .slice u.ar u.lr u.cr] 25) = w0) (b2 : Below w0.heap.size w0 w2) (b3 : Below w2.heap.size w2 w3) (tp : TbIs w3 p plS (plRq 0)) {V : World} (hV : w3.alloc (.cells #[.slice p.an p.ln p.cn, .slice p.ar p.lr p.cr] 25) = V)
    (h4 : w4 = als V (plO V.heap.size)) {U X : World} (hU : w4.alloc (.cells #[.slice (plTq V.heap.size 0).an 2 2, .slice (plTq V.heap.size 0).ar 3 3] 25) = U) (o : Obj)
    (hX : X.heap = (((U.alloc o).setCell ⟨V.heap.size + 6, 2, none⟩ (.bool true)).setCell ⟨V.heap.size + 6, 3, none⟩ (.int .i64 1)).heap) (ho : X.os = U.os) (ht : X.tape = U.tape) (hp : X.output = U.output) :
    LkF w X t u p (plTq V.heap.size 1) w3.heap.size w4.heap.size := by
  have d0 : Below w.heap.size w w0 := by rw [← hw0]; exact two_boxes w _ _ _ _ _
  have d3 : Below w0.heap.size w0 w3 := b2.trans (b3.mono b2.size)
  have dV : Below w3.heap.size w3 V := by rw [← hV]; exact below_al _ _
  have d4 : Below V.heap.size V w4 := by rw [h4]; exact als_below _ _ _ _ (Nat.le_refl _) (Below.refl _ _)
  have dU : Below w4.heap.size w4 U := by rw [← hU]; exact below_al _ _
  have dU2 : Below V.heap.size V (U.alloc o) := (d4.trans (dU.mono d4.size)).alloc (Nat.le_trans d4.size dU.size) o
  have sV : V.heap.size = w3.heap.size + 1 := by rw [← hV]; simp
  have dX : Below V.heap.size V X := by
    have := (dU2.setCell (p := ⟨V.heap.size + 6, 2, none⟩) (by show _ ≤ V.heap.size + 6; omega) (.bool true)).setCell (p := ⟨V.heap.size + 6, 3, none⟩) (by show _ ≤ V.heap.size + 6; omega) (.int .i64 1)
    exact below_eq this ho ht hp hX
  have e0 : Below w0.heap.size w0 V := d3.trans (dV.mono d3.size)
  have eX : Below w0.heap.size w0 X := e0.trans (dX.mono e0.size)
  have hb := two_cells (w := w) (W := X) (by rw [hw0]; exact eX)
  have l3 : w3.heap.size < V.heap.size := by omega
  have blk : ∀ k, k ≠ 6 → k < 9 → X.heap[V.heap.size + k]? = (plO V.heap.size)[k]? := fun k hk h9 => by
    have nk : ¬ V.heap.size + k = V.heap.size + 6 := by omega
    have s4 : w4.heap.size = V.heap.size + 9 := by rw [h4, als_heap]; simp [plO]
    have q1 : (U.alloc o).heap[V.heap.size + k]? = (plO V.heap.size)[k]? := by
      rw [Below.heap_alloc _ _ _ (by have := dU.size; omega), dU.block _ (by omega), h4]
      exact als_blk V _ k
    rw [hX, set_blk _ _ _ _ _ nk, set_blk _ _ _ _ _ nk]
    exact q1
  refine ⟨d0.trans (eX.mono d0.size), hb.1, hb.2, ?_, ?_, (tp.later dV).later dX, plTq_is X V.heap.size 1 (by decide) (blk 1 (by omega) (by omega)) (blk 4 (by omega) (by omega)) ?_ (blk 7 (by omega) (by omega)) (blk 8 (by omega) (by omega))⟩
  · exact (dX.block _ l3).trans (by rw [← hV]; exact World.alloc_heap_new w3 _)
  · have s4 : w4.heap.size = V.heap.size + 9 := by rw [h4, als_heap]; simp [plO]
    have nk : ¬ w4.heap.size = V.heap.size + 6 := by omega
    have q1 : (U.alloc o).heap[w4.heap.size]? = some (.cells #[.slice (plTq V.heap.size 0).an 2 2, .slice (plTq V.heap.size 0).ar 3 3] 25) := by
      rw [Below.heap_alloc _ _ _ (by rw [← hU]; simp), ← hU]
      exact World.alloc_heap_new w4 _
    rw [hX, set_blk _ _ _ _ _ nk, set_blk _ _ _ _ _ nk]
    exact q1
  · have s4 : w4.heap.size = V.heap.size + 9 := by rw [h4, als_heap]; simp [plO]
    have q1 : (U.alloc o).heap[V.heap.size + 6]? = some (.cells #[.bool false, .int .i64 0, .bool true, .int .i64 0] 29) := by
      rw [Below.heap_alloc _ _ _ (by have := dU.size; omega), dU.block _ (by omega), h4]
      exact als_blk V _ 6
    have q2 := Joins.block_setCell (i := 3) (Joins.block_setCell (i := 2) q1 (.bool true)) (.int .i64 1)
    rw [hX]
    exact q2
set_option maxRecDepth 100000 in
set_option maxHeartbeats 8000000 in
theorem tableLike_go (t u : Tb) (last : Int) (w : World) (h0 : TbOk w t) (k0 : TbOk w u) (G : Grd w) (hl : -9223372036854775808 ≤ last ∧ last ≤ 9223372036854775807) :
    Calls Tryz.prog 3 #[t.val, u.val, .int .i64 last] w fun e w' => e = .returned (.bool true) ∧ Below w.heap.size w w' := by
  have KPL := Lib.hid (fun W => plain_any W)
  have KPX := Lib.hid (fun W => plainX_any W)
  have KT := Lib.hid (fun v W => toldT_any v W)
  have KB := Lib.hid (fun p W (hp : TbIs W p plS plR) b => plainBack p w W hp G b)
  obtain ⟨rsA, hrsA⟩ : ∃ rsA, t.rs.map (·.cs) = rsA := ⟨_, rfl⟩
  obtain ⟨rsB, hrsB⟩ : ∃ rsB, u.rs.map (·.cs) = rsB := ⟨_, rfl⟩
  have HT := Lib.hid (p := TbIs w t t.ss rsA) (by have := tbIs_of h0; rwa [hrsA] at this)
  have HQ := Lib.hid (p := TbIs w u u.ss rsB) (by have := tbIs_of k0; rwa [hrsB] at this)
  have GR := Lib.hid G
  have hwf : ∀ r ∈ rsA, ∀ c ∈ r, (Lit.int .i64 c.v).wf = true := fun r hr c hc => by
    rw [← hrsA] at hr
    obtain ⟨q, hq, rfl⟩ := List.mem_map.1 hr
    exact (h0.rl.2.2.1 q hq).1.2.2.1 c hc
  have KC0 := Lib.hid (p := validE t.ss rsA = 0 → 0 ≤ last → last ≤ 5000 → ∀ (W : World) (x : Tb), TbIs W x t.ss rsA → Calls Tryz.prog 11 #[x.val, .int .i64 (last + 1)] W fun e w' => ∃ c : Tb, e = .returned (.tuple #[c.val, .int .i64 0]) ∧ TbIs w' c t.ss (rsA.take (last + 1).toNat) ∧ Below W.heap.size W w') (fun hv a b W x hx => by
    refine (cut_any x t.ss rsA (last + 1) W hx (by omega)).mono ?_
    rintro e w' ⟨c, h1, h2, h3⟩
    have ec : cutE t.ss rsA (last + 1) = 0 := by unfold cutE; rw [if_neg (by omega), hv]
    rw [ec] at h1 h2
    rw [if_pos rfl, if_pos rfl] at h2
    exact ⟨c, h1, h2, h3⟩)
  have KO0 := Lib.hid (p := validE t.ss rsA = 0 → ∀ (W : World) (x y : Tb), TbIs W x t.ss rsA → TbIs W y t.ss rsA → Calls Tryz.prog 12 #[x.val, y.val] W fun e w' => ∃ c : Tb, e = .returned (.tuple #[c.val, .int .i64 0]) ∧ PsT W.heap.size w' c ⟨0, 0, t.ss, rsA⟩ ∧ Below W.heap.size W w') (fun hv W x y hx hy => overlaySame_any x y t.ss rsA W hx hy (gd_valid hv hwf))
  have GD0 := Lib.hid (p := validE t.ss rsA = 0 → Gd t.ss rsA) (fun hv => gd_valid hv hwf)
  clear h0 k0 hrsA hrsB hwf
  obtain ⟨an, ln, cn, tss, ar, lr, cr, trs⟩ := t
  obtain ⟨bn, mn, dn, uss, br, mr, dr, urs⟩ := u
  obtain ⟨w0, hw0⟩ : ∃ w0, (w.alloc (.cells #[.slice an ln cn, .slice ar lr cr] 25)).alloc (.cells #[.slice bn mn dn, .slice br mr dr] 25) = w0 := ⟨_, rfl⟩
  have HW0 := Lib.hid hw0
  have B0 := Lib.hid (p := Below w.heap.size w w0) (by rw [← hw0]; exact two_boxes w _ _ _ _ _)
  have PM := Lib.hid True.intro
  have PN := Lib.hid True.intro
  show Calls Tryz.prog 3 #[.agg #[.slice an ln cn, .slice ar lr cr], .agg #[.slice bn mn dn, .slice br mr dr], .int .i64 last] w _
  go_enter Tryz.func3, Tryz.ntmps3
  go_wp2_with (first
    | (go_at_call 6; have qq := PM; refine (KPL.out _).mono ?_; rintro e w1 ⟨⟨a1, n1, c1, s1, b1, m1, d1, q1⟩, rfl, hU, hB⟩; simp only [Tb.val]; have U1 := Lib.hid hU; have B1 := Lib.hid hB; have E1 := Lib.hid (B0.out.trans (hB.mono B0.out.size)); clear hU hB PM qq)
    | (go_at_call 5; refine (KB.out _ _ U1.out E1.out).mono ?_; rintro e w2 ⟨rfl, hB⟩; have B2 := Lib.hid (B1.out.trans (hB.mono B1.out.size)); clear hB)
    | (go_at_call 6; have qq := B2; have qn := PN; refine (KPL.out _).mono ?_; rintro e w3 ⟨⟨a3, n3, c3, s3, b3, m3, d3, q3⟩, rfl, hU, hB⟩; simp only [Tb.val]; have U3 := Lib.hid hU; have B3 := Lib.hid hB; clear hU hB PN qq qn)
    | (go_at_call 6; have qq := B3; refine (KPX.out _).mono ?_; rintro e w4 ⟨rfl, hw4⟩; have HW4 := Lib.hid hw4; clear hw4 qq; simp only [Tb.val, plTq]))
  obtain ⟨V, hV⟩ : ∃ V, w3.alloc (.cells #[.slice a3 n3 c3, .slice b3 m3 d3] 25) = V := ⟨_, rfl⟩
  rw [hV] at HW4 ⊢
  have HV := Lib.hid hV
  obtain ⟨vn, hvq⟩ : ∃ vn, w3.heap.size + 1 = vn := ⟨_, rfl⟩
  have hvn : V.heap.size = vn := by rw [← hV, ← hvq]; simp
  rw [hvn] at HW4 ⊢
  rw [hvq]
  obtain ⟨U, hU⟩ : ∃ U, w4.alloc (.cells #[.slice (some ⟨vn + 1, 0, none⟩) 2 2, .slice (some ⟨vn + 1 + 1 + 1 + 1 + 1 + 1 + 1 + 1, 0, none⟩) 3 3] 25) = U := ⟨_, rfl⟩
  rw [hU]
  have HU := Lib.hid hU
  have HVN := Lib.hid hvn
  have UC := Lib.hid (p := ∀ o : Obj, (U.alloc o).heap[w4.heap.size]? = some (.cells #[.slice (some ⟨vn + 1, 0, none⟩) 2 2, .slice (some ⟨vn + 1 + 1 + 1 + 1 + 1 + 1 + 1 + 1, 0, none⟩) 3 3] 25) ∧ (U.alloc o).heap[vn + 8]? = (plO vn)[8]? ∧ (U.alloc o).heap[vn + 6]? = (plO vn)[6]?) (fun o => by
    have s4 : w4.heap.size = vn + 9 := by rw [HW4.out, als_heap, ← hvn]; simp [plO]
    have sU : U.heap.size = w4.heap.size + 1 := by rw [← hU]; simp
    have q : ∀ k, k < 9 → (U.alloc o).heap[vn + k]? = (plO vn)[k]? := fun k hk => by
      rw [Below.heap_alloc _ _ _ (by omega), ← hU, Below.heap_alloc _ _ _ (by omega), HW4.out, ← hvn]
      exact als_blk V _ k
    refine ⟨?_, q 8 (by omega), q 6 (by omega)⟩
    rw [Below.heap_alloc _ _ _ (by omega), ← hU]
    exact World.alloc_heap_new w4 _)
  clear hV hU hvn hvq
  have UD := Lib.hid (p := ∀ W : World, (∀ j, j < U.heap.size → ¬ j = vn + 6 → W.heap[j]? = U.heap[j]?) → W.cell? ⟨w4.heap.size, 1, none⟩ = some (.slice (some ⟨vn + 1 + 1 + 1 + 1 + 1 + 1 + 1 + 1, 0, none⟩) 3 3) ∧ W.cell? ⟨vn + 1 + 1 + 1 + 1 + 1 + 1 + 1 + 1, 1, none⟩ = some (.slice (some ⟨vn + 1 + 1 + 1 + 1 + 1 + 1, 0, none⟩) 2 2)) (fun W hW => by
    obtain ⟨u0, u1, _⟩ := UC.out (.cells #[.bool true, .int .i64 1] 29)
    have s4 : w4.heap.size = vn + 9 := by rw [HW4.out, als_heap, ← HVN.out]; simp [plO]
    have sU : U.heap.size = w4.heap.size + 1 := by rw [← HU.out]; simp
    rw [Below.heap_alloc _ _ _ (by omega)] at u0 u1
    have v0 := (hW w4.heap.size (by omega) (by omega)).trans u0
    have v1 := (hW (vn + 8) (by omega) (by omega)).trans u1
    exact ⟨(box_all2 v0).2.1, by rw [Joins.cell_of_block (g := vn + 8) v1]; rfl⟩)
  obtain ⟨x0, x1⟩ := UD.out U (fun _ _ _ => rfl)
  obtain ⟨_, _, x2⟩ := UC.out (.cells #[.bool true, .int .i64 1] 29)
  have y2 : (U.alloc (.cells #[.bool true, .int .i64 1] 29)).cell? ⟨vn + 1 + 1 + 1 + 1 + 1 + 1, 2, none⟩ = some (.bool true) := by rw [Joins.cell_of_block (g := vn + 6) x2]; rfl
  have y3 : (U.alloc (.cells #[.bool true, .int .i64 1] 29)).cell? ⟨vn + 1 + 1 + 1 + 1 + 1 + 1, 3, none⟩ = some (.int .i64 0) := by rw [Joins.cell_of_block (g := vn + 6) x2]; rfl
  have y4 : ∀ j, (U.alloc (.cells #[.bool true, .int .i64 1] 29)).frozen? ⟨vn + 1 + 1 + 1 + 1 + 1 + 1, j, none⟩ = false := fun j => Joins.unfrozen_of_block (g := vn + 6) x2 j
  have y5 := y4 2
  have y6 := y4 3
  have KT1 := Lib.hid (KT.out 1 U.drew)
  clear x2 y4
  go_region_held3 (fun w' => w'.cell? ⟨w4.heap.size, 1, none⟩ = some (.slice (some ⟨vn + 1 + 1 + 1 + 1 + 1 + 1 + 1 + 1, 0, none⟩) 3 3) ∧ w'.cell? ⟨vn + 1 + 1 + 1 + 1 + 1 + 1 + 1 + 1, 1, none⟩ = some (.slice (some ⟨vn + 1 + 1 + 1 + 1 + 1 + 1, 0, none⟩) 2 2)) (first | exact ⟨x0, x1⟩ | exact UD.out _ (fun j hj hn => Below.heap_alloc _ _ _ hj) | exact UD.out _ (fun j hj hn => (set_blk _ _ _ _ _ hn).trans ((set_blk _ _ _ _ _ hn).trans (Below.heap_alloc _ _ _ hj)))) (first | (go_at_call 7; refine KT1.out.mono ?_; rintro e w9 ⟨rfl, rfl⟩))
  obtain ⟨bp, hbp⟩ : ∃ bp, w3.heap.size = bp := ⟨_, rfl⟩
  obtain ⟨bq, hbq⟩ : ∃ bq, w4.heap.size = bq := ⟨_, rfl⟩
  have LF := Lib.hid (p := LkF w ((((U.alloc (.cells #[.bool true, .int .i64 1] 29)).setCell ⟨vn + 1 + 1 + 1 + 1 + 1 + 1, 2, none⟩ (.bool true)).setCell ⟨vn + 1 + 1 + 1 + 1 + 1 + 1, 3, none⟩ (.int .i64 1)).drew) ⟨an, ln, cn, tss, ar, lr, cr, trs⟩ ⟨bn, mn, dn, uss, br, mr, dr, urs⟩ ⟨a3, n3, c3, s3, b3, m3, d3, q3⟩ (plTq vn 1) bp bq) (by
    have := like_made (w := w) (w4 := w4) (w3 := w3) (w2 := w2) (w0 := w0) (t := ⟨an, ln, cn, tss, ar, lr, cr, trs⟩) (u := ⟨bn, mn, dn, uss, br, mr, dr, urs⟩) (p := ⟨a3, n3, c3, s3, b3, m3, d3, q3⟩) (W := w) (V := V) (U := U) (X := (((U.alloc (.cells #[.bool true, .int .i64 1] 29)).setCell ⟨vn + 1 + 1 + 1 + 1 + 1 + 1, 2, none⟩ (.bool true)).setCell ⟨vn + 1 + 1 + 1 + 1 + 1 + 1, 3, none⟩ (.int .i64 1)).drew) HW0.out B2.out B3.out U3.out HV.out (by rw [HVN.out]; exact HW4.out) (by rw [HVN.out]; exact HU.out) (.cells #[.bool true, .int .i64 1] 29) (by rw [HVN.out]; rfl) rfl rfl rfl
    rwa [HVN.out, hbp, hbq] at this)
  rw [hbp, hbq]
  clear hbp hbq x0 x1 y2 y3 y5 y6 hw0
  generalize ((((U.alloc (.cells #[.bool true, .int .i64 1] 29)).setCell ⟨vn + 1 + 1 + 1 + 1 + 1 + 1, 2, none⟩ (.bool true)).setCell ⟨vn + 1 + 1 + 1 + 1 + 1 + 1, 3, none⟩ (.int .i64 1)).drew) = w6 at LF ⊢
  have KOA := Lib.hid (fun W (L : LkF w W ⟨an, ln, cn, tss, ar, lr, cr, trs⟩ ⟨bn, mn, dn, uss, br, mr, dr, urs⟩ ⟨a3, n3, c3, s3, b3, m3, d3, q3⟩ (plTq vn 1) bp bq) => ownT_any ⟨an, ln, cn, tss, ar, lr, cr, trs⟩ tss rsA W (HT.out.later L.bel) (GR.out.later L.bel).bh)
  have KOB := Lib.hid (fun W (L : LkF w W ⟨an, ln, cn, tss, ar, lr, cr, trs⟩ ⟨bn, mn, dn, uss, br, mr, dr, urs⟩ ⟨a3, n3, c3, s3, b3, m3, d3, q3⟩ (plTq vn 1) bp bq) => ownT_any ⟨bn, mn, dn, uss, br, mr, dr, urs⟩ uss rsB W (HQ.out.later L.bel) (GR.out.later L.bel).bh)
  have KAG := Lib.hid (fun W x y s1 s2 r1 r2 l hx hy => agreeI_any x y s1 s2 r1 r2 l W hx hy)
  have KV := Lib.hid (fun (W : World) (x : Tb) (hx : TbIs W x tss rsA) => validI_any x tss rsA W hx)
  have AG1 := Lib.hid (agB_no pl_no)
  have AG0 := Lib.hid (agB_yes pl_yes)
  have AGS := Lib.hid (agB_yes (agree_self tss rsA last))
  cases hO : agB tss rsA uss rsB last with
  | false =>
    have AGO := Lib.hid hO
    have AGT := Lib.hid ((agB_turn uss tss rsB rsA last).trans hO)
    clear hO
    have M1 := Lib.hid True.intro
    have M2 := Lib.hid True.intro
    have M3 := Lib.hid True.intro
    have M4 := Lib.hid True.intro
    have M5 := Lib.hid True.intro
    go_wp2
    replace LF := Lib.hid (LF.out.later (Below.refl _ _).drew)
    go_region_held3 (fun w' => w'.cell? ⟨w.heap.size, 0, none⟩ = some (.slice an ln cn) ∧ w'.cell? ⟨w.heap.size, 1, none⟩ = some (.slice ar lr cr) ∧ w'.cell? ⟨w.heap.size + 1, 0, none⟩ = some (.slice bn mn dn) ∧ w'.cell? ⟨w.heap.size + 1, 1, none⟩ = some (.slice br mr dr) ∧ w'.cell? ⟨bp, 0, none⟩ = some (.slice a3 n3 c3) ∧ w'.cell? ⟨bp, 1, none⟩ = some (.slice b3 m3 d3) ∧ w'.cell? ⟨bq, 0, none⟩ = some (.slice (some ⟨vn + 1, 0, none⟩) 2 2) ∧ w'.cell? ⟨bq, 1, none⟩ = some (.slice (some ⟨vn + 1 + 1 + 1 + 1 + 1 + 1 + 1 + 1, 0, none⟩) 3 3)) (exact LF.out.cells) (first
      | (go_at_call 8; have qq := M1; refine (KAG.out _ _ _ _ _ _ _ _ LF.out.tp LF.out.tq).mono ?_; rintro e wn ⟨rfl, hB⟩; rw [AG1.out]; replace LF := Lib.hid (LF.out.later hB); clear hB M1 qq)
      | (go_at_call 8; have qq := M2; refine (KAG.out _ _ _ _ _ _ _ _ LF.out.tp LF.out.tq).mono ?_; rintro e wn ⟨rfl, hB⟩; rw [AG0.out]; replace LF := Lib.hid (LF.out.later hB); clear hB M2 qq)
      | (go_at_call 9; have qq := M3; refine (KOA.out _ LF.out).mono ?_; rintro e wn ⟨⟨x1a, x1b, x1c, x1d, x1e, x1f, x1g, x1h⟩, rfl, hU, hB⟩; simp only [Tb.val]; have X1 := Lib.hid hU; replace LF := Lib.hid (LF.out.later hB); clear hU hB M3 qq)
      | (go_at_call 9; have qq := M4; refine (KOA.out _ LF.out).mono ?_; rintro e wn ⟨⟨x2a, x2b, x2c, x2d, x2e, x2f, x2g, x2h⟩, rfl, hU, hB⟩; simp only [Tb.val]; have X2 := Lib.hid hU; replace LF := Lib.hid (LF.out.later hB); replace X1 := Lib.hid (X1.out.later hB); clear hU hB M4 qq)
      | (go_at_call 8; have qq := M5; refine (KAG.out _ _ _ _ _ _ _ _ X1.out X2.out).mono ?_; rintro e wn ⟨rfl, hB⟩; rw [AGS.out]; replace LF := Lib.hid (LF.out.later hB); clear hB M5 qq))
    go_wp2
    have M6 := Lib.hid True.intro
    have M7 := Lib.hid True.intro
    have M8 := Lib.hid True.intro
    replace LF := Lib.hid (LF.out.later (Below.refl _ _).drew)
    go_region_held3 (fun w' => w'.cell? ⟨w.heap.size, 0, none⟩ = some (.slice an ln cn) ∧ w'.cell? ⟨w.heap.size, 1, none⟩ = some (.slice ar lr cr) ∧ w'.cell? ⟨w.heap.size + 1, 0, none⟩ = some (.slice bn mn dn) ∧ w'.cell? ⟨w.heap.size + 1, 1, none⟩ = some (.slice br mr dr) ∧ w'.cell? ⟨bp, 0, none⟩ = some (.slice a3 n3 c3) ∧ w'.cell? ⟨bp, 1, none⟩ = some (.slice b3 m3 d3) ∧ w'.cell? ⟨bq, 0, none⟩ = some (.slice (some ⟨vn + 1, 0, none⟩) 2 2) ∧ w'.cell? ⟨bq, 1, none⟩ = some (.slice (some ⟨vn + 1 + 1 + 1 + 1 + 1 + 1 + 1 + 1, 0, none⟩) 3 3)) (exact LF.out.cells) (first
      | (go_at_call 9; have qq := M6; refine (KOA.out _ LF.out).mono ?_; rintro e wn ⟨⟨x3a, x3b, x3c, x3d, x3e, x3f, x3g, x3h⟩, rfl, hU, hB⟩; simp only [Tb.val]; have X3 := Lib.hid hU; replace LF := Lib.hid (LF.out.later hB); clear hU hB M6 qq)
      | (go_at_call 9; have qq := M7; refine (KOB.out _ LF.out).mono ?_; rintro e wn ⟨⟨x4a, x4b, x4c, x4d, x4e, x4f, x4g, x4h⟩, rfl, hU, hB⟩; simp only [Tb.val]; have X4 := Lib.hid hU; replace LF := Lib.hid (LF.out.later hB); replace X3 := Lib.hid (X3.out.later hB); clear hU hB M7 qq)
      | (go_at_call 8; have qq := M8; refine (KAG.out _ _ _ _ _ _ _ _ X3.out X4.out).mono ?_; rintro e wn ⟨rfl, hB⟩; rw [AGO.out]; replace LF := Lib.hid (LF.out.later hB); clear hB M8 qq))
    go_wp2
    have M6 := Lib.hid True.intro
    have M7 := Lib.hid True.intro
    have M8 := Lib.hid True.intro
    replace LF := Lib.hid (LF.out.later (Below.refl _ _).drew)
    go_region_held3 (fun w' => w'.cell? ⟨w.heap.size, 0, none⟩ = some (.slice an ln cn) ∧ w'.cell? ⟨w.heap.size, 1, none⟩ = some (.slice ar lr cr) ∧ w'.cell? ⟨w.heap.size + 1, 0, none⟩ = some (.slice bn mn dn) ∧ w'.cell? ⟨w.heap.size + 1, 1, none⟩ = some (.slice br mr dr) ∧ w'.cell? ⟨bp, 0, none⟩ = some (.slice a3 n3 c3) ∧ w'.cell? ⟨bp, 1, none⟩ = some (.slice b3 m3 d3) ∧ w'.cell? ⟨bq, 0, none⟩ = some (.slice (some ⟨vn + 1, 0, none⟩) 2 2) ∧ w'.cell? ⟨bq, 1, none⟩ = some (.slice (some ⟨vn + 1 + 1 + 1 + 1 + 1 + 1 + 1 + 1, 0, none⟩) 3 3)) (exact LF.out.cells) (first
      | (go_at_call 9; have qq := M6; refine (KOB.out _ LF.out).mono ?_; rintro e wn ⟨⟨x5a, x5b, x5c, x5d, x5e, x5f, x5g, x5h⟩, rfl, hU, hB⟩; simp only [Tb.val]; have X5 := Lib.hid hU; replace LF := Lib.hid (LF.out.later hB); clear hU hB M6 qq)
      | (go_at_call 9; have qq := M7; refine (KOA.out _ LF.out).mono ?_; rintro e wn ⟨⟨x6a, x6b, x6c, x6d, x6e, x6f, x6g, x6h⟩, rfl, hU, hB⟩; simp only [Tb.val]; have X6 := Lib.hid hU; replace LF := Lib.hid (LF.out.later hB); replace X5 := Lib.hid (X5.out.later hB); clear hU hB M7 qq)
      | (go_at_call 8; have qq := M8; refine (KAG.out _ _ _ _ _ _ _ _ X5.out X6.out).mono ?_; rintro e wn ⟨rfl, hB⟩; rw [AGT.out]; replace LF := Lib.hid (LF.out.later hB); clear hB M8 qq))
    go_wp2
    go_quiet (fail)
    replace LF := Lib.hid (LF.out.later (belowT_drewN (Below.refl _ _) nq))
    by_cases hv : validE tss rsA = 0
    · rw [hv] at KV
      by_cases h5 : last < 0
      · skip
        have N1 := Lib.hid True.intro
        obtain ⟨e0, e1, e2, e3, e4, e5, e6, e7⟩ := LF.out.cells
        go_wp2_with (first
          | (go_at_call 9; have qq := N1; refine (KOA.out _ LF.out).mono ?_; rintro e wn ⟨⟨y1a, y1b, y1c, y1d, y1e, y1f, y1g, y1h⟩, rfl, hU, hB⟩; simp only [Tb.val]; have Y1 := Lib.hid hU; replace LF := Lib.hid (LF.out.later hB); clear hU hB N1 qq)
          | (go_at_call 10; refine (KV.out _ _ Y1.out).mono ?_; rintro e wn ⟨rfl, hB⟩; replace LF := Lib.hid (LF.out.later hB); clear hB))
        go_ret
        exact ⟨rfl, LF.out.bel⟩
      · have h5d : decide (last < 0) = false := decide_eq_false h5
        by_cases h6 : 5000 < last
        · skip
          have N1 := Lib.hid True.intro
          obtain ⟨e0, e1, e2, e3, e4, e5, e6, e7⟩ := LF.out.cells
          go_wp2_with (first
            | (go_at_call 9; have qq := N1; refine (KOA.out _ LF.out).mono ?_; rintro e wn ⟨⟨y1a, y1b, y1c, y1d, y1e, y1f, y1g, y1h⟩, rfl, hU, hB⟩; simp only [Tb.val]; have Y1 := Lib.hid hU; replace LF := Lib.hid (LF.out.later hB); clear hU hB N1 qq)
            | (go_at_call 10; refine (KV.out _ _ Y1.out).mono ?_; rintro e wn ⟨rfl, hB⟩; replace LF := Lib.hid (LF.out.later hB); clear hB))
          go_ret
          exact ⟨rfl, LF.out.bel⟩
        · have h5e : decide (5000 < last) = false := decide_eq_false h6
          have kw1 : IntKind.i64.wrap (last + 1) = last + 1 := by simp [IntKind.wrap, IntKind.bits, IntKind.signed]; omega
          have KCUT := Lib.hid (KC0.out hv (by omega) (by omega))
          have KOV := Lib.hid (KO0.out hv)
          have AGC := Lib.hid (agB_yes (agree_cut tss rsA last (by omega)))
          have N1 := Lib.hid True.intro
          obtain ⟨e0, e1, e2, e3, e4, e5, e6, e7⟩ := LF.out.cells
          have N2 := Lib.hid True.intro
          have N3 := Lib.hid True.intro
          go_upto_region 15 with (first
            | (go_at_call 9; have qq := N1; refine (KOA.out _ LF.out).mono ?_; rintro e wn ⟨⟨y1a, y1b, y1c, y1d, y1e, y1f, y1g, y1h⟩, rfl, hU, hB⟩; simp only [Tb.val]; have Y1 := Lib.hid hU; replace LF := Lib.hid (LF.out.later hB); clear hU hB N1 qq)
            | (go_at_call 10; refine (KV.out _ _ Y1.out).mono ?_; rintro e wn ⟨rfl, hB⟩; replace LF := Lib.hid (LF.out.later hB); clear hB e0 e1 e2 e3 e4 e5 e6 e7; obtain ⟨e0, e1, e2, e3, e4, e5, e6, e7⟩ := LF.out.cells)
            | (go_at_call 9; have qq := N2; refine (KOA.out _ LF.out).mono ?_; rintro e wn ⟨⟨y2a, y2b, y2c, y2d, y2e, y2f, y2g, y2h⟩, rfl, hU, hB⟩; simp only [Tb.val]; have Y2 := Lib.hid hU; replace LF := Lib.hid (LF.out.later hB); clear hU hB N2 qq)
            | (go_at_call 11; refine (KCUT.out _ _ Y2.out).mono ?_; rintro e wc ⟨⟨ca, cb, cc, cd, ce, cf, cg, ch⟩, rfl, hU, hB⟩; simp only [Tb.val]; have AC := Lib.hid (below_al wc (.cells #[.slice ca cb cc, .slice ce cf cg] 25)); have TC := Lib.hid (hU.later AC.out); have HC := Lib.hid (World.alloc_heap_new wc (.cells #[.slice ca cb cc, .slice ce cf cg] 25)); replace LF := Lib.hid ((LF.out.later hB).later AC.out); clear hU hB e0 e1 e2 e3 e4 e5 e6 e7; obtain ⟨e0, e1, e2, e3, e4, e5, e6, e7⟩ := LF.out.cells))
          obtain ⟨bc, hbc⟩ : ∃ bc, wc.heap.size = bc := ⟨_, rfl⟩
          have LC := Lib.hid (p := LkC w _ ⟨an, ln, cn, tss, ar, lr, cr, trs⟩ ⟨bn, mn, dn, uss, br, mr, dr, urs⟩ ⟨a3, n3, c3, s3, b3, m3, d3, q3⟩ (plTq vn 1) ⟨ca, cb, cc, cd, ce, cf, cg, ch⟩ bp bq bc tss (rsA.take (last + 1).toNat)) ⟨LF.out, (by rw [← hbc]; exact HC.out), TC.out⟩
          rw [hbc]
          clear hbc HC TC AC e0 e1 e2 e3 e4 e5 e6 e7
          generalize (wc.alloc (.cells #[.slice ca cb cc, .slice ce cf cg] 25)) = wS at LC LF ⊢
          go_cut [13, 14] (fun v f wx => ∃ (bx : Nat) (o : Tb), v = .pointer (some ⟨bx, 0, none⟩) ∧ f = .int .i64 0 ∧ RowKit.Hid (LkD w wx ⟨an, ln, cn, tss, ar, lr, cr, trs⟩ ⟨bn, mn, dn, uss, br, mr, dr, urs⟩ ⟨a3, n3, c3, s3, b3, m3, d3, q3⟩ (plTq vn 1) ⟨ca, cb, cc, cd, ce, cf, cg, ch⟩ o bp bq bc bx tss (rsA.take (last + 1).toNat) rsA))
          case first =>
            have LC0 := Lib.hid (LC.out.later (Below.refl _ _).drew)
            have BS := Lib.hid (Below.refl wS.drew.heap.size wS.drew)
            have N4 := Lib.hid True.intro
            have N5 := Lib.hid True.intro
            have N6 := Lib.hid True.intro
            obtain ⟨e0, e1⟩ := LC.out.c2
            go_region_held3 (fun w' => w'.cell? ⟨w.heap.size, 0, none⟩ = some (.slice an ln cn) ∧ w'.cell? ⟨w.heap.size, 1, none⟩ = some (.slice ar lr cr)) (first | exact (LC0.out.later BS.out).c2 | exact (LC0.out.later (BS.out.alloc BS.out.size _)).c2 | exact (LC0.out.later (below_eq (BS.out.alloc BS.out.size _) rfl rfl rfl rfl)).c2 | exact (LC0.out.later (below_eq ((BS.out.setCell (p := ⟨_, 0, none⟩) XS.out _).setCell (p := ⟨_, 1, none⟩) XS.out _) rfl rfl rfl rfl)).c2) (first
              | (go_at_call 9; have qq := N4; refine (KOA.out _ (LC0.out.later BS.out).lf).mono ?_; rintro e wn ⟨⟨z1a, z1b, z1c, z1d, z1e, z1f, z1g, z1h⟩, rfl, hU, hB⟩; simp only [Tb.val]; have Z1 := Lib.hid hU; replace BS := Lib.hid (BS.out.trans (hB.mono BS.out.size)); (try (replace HX := Lib.hid ((hB.block _ (blk_lt HX.out)).trans HX.out))); clear hU hB N4 qq)
              | (go_at_call 9; have qq := N4; refine (KOA.out _ (LC0.out.later (BS.out.alloc BS.out.size _)).lf).mono ?_; rintro e wn ⟨⟨z1a, z1b, z1c, z1d, z1e, z1f, z1g, z1h⟩, rfl, hU, hB⟩; simp only [Tb.val]; have Z1 := Lib.hid hU; have XS := Lib.hid BS.out.size; have HX := Lib.hid ((hB.block _ (by simp)).trans (World.alloc_heap_new _ _)); replace BS := Lib.hid ((BS.out.alloc BS.out.size _).trans (hB.mono (BS.out.alloc BS.out.size _).size)); clear hU hB N4 qq)
              | (go_at_call 9; have qq := N5; refine (KOA.out _ (LC0.out.later BS.out).lf).mono ?_; rintro e wn ⟨⟨z2a, z2b, z2c, z2d, z2e, z2f, z2g, z2h⟩, rfl, hU, hB⟩; simp only [Tb.val]; have Z2 := Lib.hid hU; replace BS := Lib.hid (BS.out.trans (hB.mono BS.out.size)); replace Z1 := Lib.hid (Z1.out.later hB); (try (replace HX := Lib.hid ((hB.block _ (blk_lt HX.out)).trans HX.out))); clear hU hB N5 qq)
              | (go_at_call 9; have qq := N5; refine (KOA.out _ (LC0.out.later (BS.out.alloc BS.out.size _)).lf).mono ?_; rintro e wn ⟨⟨z2a, z2b, z2c, z2d, z2e, z2f, z2g, z2h⟩, rfl, hU, hB⟩; simp only [Tb.val]; have Z2 := Lib.hid hU; have XS := Lib.hid BS.out.size; have HX := Lib.hid ((hB.block _ (by simp)).trans (World.alloc_heap_new _ _)); replace BS := Lib.hid ((BS.out.alloc BS.out.size _).trans (hB.mono (BS.out.alloc BS.out.size _).size)); replace Z1 := Lib.hid ((Z1.out.later (below_al _ _)).later hB); clear hU hB N5 qq)
              | (go_at_call 12; have qq := N6; refine (KOV.out _ _ _ Z1.out Z2.out).mono ?_; rintro e wo ⟨⟨oa, ob, oc, od, oe, of, og, oh⟩, rfl, hU, hB⟩; simp only [Tb.val]; have XO := Lib.hid hU; replace BS := Lib.hid (BS.out.trans (hB.mono BS.out.size)); (try (have XL := Lib.hid (blk_lt HX.out); replace HX := Lib.hid ((hB.block _ (blk_lt HX.out)).trans HX.out); obtain ⟨i0, i1, i2, i3⟩ := box_all2 HX.out)); (try (change wo.cell? ⟨wS.heap.size, 0, none⟩ = _ at i0; change wo.cell? ⟨wS.heap.size, 1, none⟩ = _ at i1; change wo.frozen? ⟨wS.heap.size, 0, none⟩ = _ at i2; change wo.frozen? ⟨wS.heap.size, 1, none⟩ = _ at i3)); clear hU hB N6 qq)
              | (go_at_call 12; have qq := N6; refine (KOV.out _ _ _ (Z1.out.later (below_al _ _)) (Z2.out.later (below_al _ _))).mono ?_; rintro e wo ⟨⟨oa, ob, oc, od, oe, of, og, oh⟩, rfl, hU, hB⟩; simp only [Tb.val]; have XO := Lib.hid hU; have XX := ov_box BS.out hB; have XS := Lib.hid XX.1; have XL := Lib.hid XX.2.1; have HX := Lib.hid XX.2.2.1; replace BS := Lib.hid XX.2.2.2; clear XX; obtain ⟨i0, i1, i2, i3⟩ := box_all2 HX.out; clear hU hB N6 qq))
            all_goals
              go_wp2
              go_meet
              case rel => first
                | exact ⟨_, ⟨oa, ob, oc, od, oe, of, og, oh⟩, rfl, rfl, lkD_last LC0.out BS.out XO.out rfl rfl rfl rfl⟩
                | exact ⟨_, ⟨oa, ob, oc, od, oe, of, og, oh⟩, rfl, rfl, lkD_first LC0.out BS.out XO.out (GD0.out hv) HX.out XS.out XL.out rfl rfl rfl rfl⟩
          case rest =>
            obtain ⟨bx, o, rfl, rfl, hD⟩ := hcut
            obtain ⟨oa, ob, oc, od, oe, of, og, oh⟩ := o
            rename World => wx
            have LD0 := Lib.hid hD.out
            clear hD LF
            have LD := Lib.hid (LD0.out.later (Below.refl _ _).drew)
            have N7 := Lib.hid True.intro
            go_wp2
            go_region_held3 (fun w' => w'.cell? ⟨w.heap.size, 0, none⟩ = some (.slice an ln cn) ∧ w'.cell? ⟨w.heap.size, 1, none⟩ = some (.slice ar lr cr) ∧ w'.cell? ⟨bc, 0, none⟩ = some (.slice ca cb cc) ∧ w'.cell? ⟨bc, 1, none⟩ = some (.slice ce cf cg) ∧ w'.cell? ⟨bx, 0, none⟩ = some (.slice oa ob oc) ∧ w'.cell? ⟨bx, 1, none⟩ = some (.slice oe of og)) (first | exact LD.out.c6 | exact LD0.out.c6) (first
              | (go_at_call 9; have qq := N7; refine (KOA.out _ LD.out.lc.lf).mono ?_; rintro e wn ⟨⟨v1a, v1b, v1c, v1d, v1e, v1f, v1g, v1h⟩, rfl, hU, hB⟩; simp only [Tb.val]; have V1 := Lib.hid hU; replace LD := Lib.hid (LD.out.later hB); clear hU hB N7 qq)
              | (go_at_call 8; refine (KAG.out _ _ _ _ _ _ _ _ V1.out LD.out.lc.tc).mono ?_; rintro e wn ⟨rfl, hB⟩; rw [AGC.out]; replace LD := Lib.hid (LD.out.later hB); clear hB)
              | (go_at_call 13; refine (sameT_any _ _ _ _ _ LD.out.tx (HT.out.later LD.out.lc.lf.bel)).mono ?_; rintro e wn ⟨rfl, hB⟩; replace LD := Lib.hid (LD.out.later hB); clear hB))
            go_wp2
            go_ret
            exact ⟨rfl, LD.out.lc.lf.bel⟩
    · have hv2 : (validE tss rsA == 0) = false := bnot_ofL hv
      generalize validE tss rsA = VV at *
      have N1 := Lib.hid True.intro
      obtain ⟨e0, e1, e2, e3, e4, e5, e6, e7⟩ := LF.out.cells
      go_wp2_with (first
        | (go_at_call 9; have qq := N1; refine (KOA.out _ LF.out).mono ?_; rintro e wn ⟨⟨y1a, y1b, y1c, y1d, y1e, y1f, y1g, y1h⟩, rfl, hU, hB⟩; simp only [Tb.val]; have Y1 := Lib.hid hU; replace LF := Lib.hid (LF.out.later hB); clear hU hB N1 qq)
        | (go_at_call 10; refine (KV.out _ _ Y1.out).mono ?_; rintro e wn ⟨rfl, hB⟩; replace LF := Lib.hid (LF.out.later hB); clear hB))
      go_ret
      exact ⟨rfl, LF.out.bel⟩
  | true =>
    have AGO := Lib.hid hO
    have AGT := Lib.hid ((agB_turn uss tss rsB rsA last).trans hO)
    clear hO
    have M1 := Lib.hid True.intro
    have M2 := Lib.hid True.intro
    have M3 := Lib.hid True.intro
    have M4 := Lib.hid True.intro
    have M5 := Lib.hid True.intro
    go_wp2
    replace LF := Lib.hid (LF.out.later (Below.refl _ _).drew)
    go_region_held3 (fun w' => w'.cell? ⟨w.heap.size, 0, none⟩ = some (.slice an ln cn) ∧ w'.cell? ⟨w.heap.size, 1, none⟩ = some (.slice ar lr cr) ∧ w'.cell? ⟨w.heap.size + 1, 0, none⟩ = some (.slice bn mn dn) ∧ w'.cell? ⟨w.heap.size + 1, 1, none⟩ = some (.slice br mr dr) ∧ w'.cell? ⟨bp, 0, none⟩ = some (.slice a3 n3 c3) ∧ w'.cell? ⟨bp, 1, none⟩ = some (.slice b3 m3 d3) ∧ w'.cell? ⟨bq, 0, none⟩ = some (.slice (some ⟨vn + 1, 0, none⟩) 2 2) ∧ w'.cell? ⟨bq, 1, none⟩ = some (.slice (some ⟨vn + 1 + 1 + 1 + 1 + 1 + 1 + 1 + 1, 0, none⟩) 3 3)) (exact LF.out.cells) (first
      | (go_at_call 8; have qq := M1; refine (KAG.out _ _ _ _ _ _ _ _ LF.out.tp LF.out.tq).mono ?_; rintro e wn ⟨rfl, hB⟩; rw [AG1.out]; replace LF := Lib.hid (LF.out.later hB); clear hB M1 qq)
      | (go_at_call 8; have qq := M2; refine (KAG.out _ _ _ _ _ _ _ _ LF.out.tp LF.out.tq).mono ?_; rintro e wn ⟨rfl, hB⟩; rw [AG0.out]; replace LF := Lib.hid (LF.out.later hB); clear hB M2 qq)
      | (go_at_call 9; have qq := M3; refine (KOA.out _ LF.out).mono ?_; rintro e wn ⟨⟨x1a, x1b, x1c, x1d, x1e, x1f, x1g, x1h⟩, rfl, hU, hB⟩; simp only [Tb.val]; have X1 := Lib.hid hU; replace LF := Lib.hid (LF.out.later hB); clear hU hB M3 qq)
      | (go_at_call 9; have qq := M4; refine (KOA.out _ LF.out).mono ?_; rintro e wn ⟨⟨x2a, x2b, x2c, x2d, x2e, x2f, x2g, x2h⟩, rfl, hU, hB⟩; simp only [Tb.val]; have X2 := Lib.hid hU; replace LF := Lib.hid (LF.out.later hB); replace X1 := Lib.hid (X1.out.later hB); clear hU hB M4 qq)
      | (go_at_call 8; have qq := M5; refine (KAG.out _ _ _ _ _ _ _ _ X1.out X2.out).mono ?_; rintro e wn ⟨rfl, hB⟩; rw [AGS.out]; replace LF := Lib.hid (LF.out.later hB); clear hB M5 qq))
    go_wp2
    have M6 := Lib.hid True.intro
    have M7 := Lib.hid True.intro
    have M8 := Lib.hid True.intro
    replace LF := Lib.hid (LF.out.later (Below.refl _ _).drew)
    go_region_held3 (fun w' => w'.cell? ⟨w.heap.size, 0, none⟩ = some (.slice an ln cn) ∧ w'.cell? ⟨w.heap.size, 1, none⟩ = some (.slice ar lr cr) ∧ w'.cell? ⟨w.heap.size + 1, 0, none⟩ = some (.slice bn mn dn) ∧ w'.cell? ⟨w.heap.size + 1, 1, none⟩ = some (.slice br mr dr) ∧ w'.cell? ⟨bp, 0, none⟩ = some (.slice a3 n3 c3) ∧ w'.cell? ⟨bp, 1, none⟩ = some (.slice b3 m3 d3) ∧ w'.cell? ⟨bq, 0, none⟩ = some (.slice (some ⟨vn + 1, 0, none⟩) 2 2) ∧ w'.cell? ⟨bq, 1, none⟩ = some (.slice (some ⟨vn + 1 + 1 + 1 + 1 + 1 + 1 + 1 + 1, 0, none⟩) 3 3)) (exact LF.out.cells) (first
      | (go_at_call 9; have qq := M6; refine (KOA.out _ LF.out).mono ?_; rintro e wn ⟨⟨x3a, x3b, x3c, x3d, x3e, x3f, x3g, x3h⟩, rfl, hU, hB⟩; simp only [Tb.val]; have X3 := Lib.hid hU; replace LF := Lib.hid (LF.out.later hB); clear hU hB M6 qq)
      | (go_at_call 9; have qq := M7; refine (KOB.out _ LF.out).mono ?_; rintro e wn ⟨⟨x4a, x4b, x4c, x4d, x4e, x4f, x4g, x4h⟩, rfl, hU, hB⟩; simp only [Tb.val]; have X4 := Lib.hid hU; replace LF := Lib.hid (LF.out.later hB); replace X3 := Lib.hid (X3.out.later hB); clear hU hB M7 qq)
      | (go_at_call 8; have qq := M8; refine (KAG.out _ _ _ _ _ _ _ _ X3.out X4.out).mono ?_; rintro e wn ⟨rfl, hB⟩; rw [AGO.out]; replace LF := Lib.hid (LF.out.later hB); clear hB M8 qq))
    go_wp2
    have M6 := Lib.hid True.intro
    have M7 := Lib.hid True.intro
    have M8 := Lib.hid True.intro
    replace LF := Lib.hid (LF.out.later (Below.refl _ _).drew)
    go_region_held3 (fun w' => w'.cell? ⟨w.heap.size, 0, none⟩ = some (.slice an ln cn) ∧ w'.cell? ⟨w.heap.size, 1, none⟩ = some (.slice ar lr cr) ∧ w'.cell? ⟨w.heap.size + 1, 0, none⟩ = some (.slice bn mn dn) ∧ w'.cell? ⟨w.heap.size + 1, 1, none⟩ = some (.slice br mr dr) ∧ w'.cell? ⟨bp, 0, none⟩ = some (.slice a3 n3 c3) ∧ w'.cell? ⟨bp, 1, none⟩ = some (.slice b3 m3 d3) ∧ w'.cell? ⟨bq, 0, none⟩ = some (.slice (some ⟨vn + 1, 0, none⟩) 2 2) ∧ w'.cell? ⟨bq, 1, none⟩ = some (.slice (some ⟨vn + 1 + 1 + 1 + 1 + 1 + 1 + 1 + 1, 0, none⟩) 3 3)) (exact LF.out.cells) (first
      | (go_at_call 9; have qq := M6; refine (KOB.out _ LF.out).mono ?_; rintro e wn ⟨⟨x5a, x5b, x5c, x5d, x5e, x5f, x5g, x5h⟩, rfl, hU, hB⟩; simp only [Tb.val]; have X5 := Lib.hid hU; replace LF := Lib.hid (LF.out.later hB); clear hU hB M6 qq)
      | (go_at_call 9; have qq := M7; refine (KOA.out _ LF.out).mono ?_; rintro e wn ⟨⟨x6a, x6b, x6c, x6d, x6e, x6f, x6g, x6h⟩, rfl, hU, hB⟩; simp only [Tb.val]; have X6 := Lib.hid hU; replace LF := Lib.hid (LF.out.later hB); replace X5 := Lib.hid (X5.out.later hB); clear hU hB M7 qq)
      | (go_at_call 8; have qq := M8; refine (KAG.out _ _ _ _ _ _ _ _ X5.out X6.out).mono ?_; rintro e wn ⟨rfl, hB⟩; rw [AGT.out]; replace LF := Lib.hid (LF.out.later hB); clear hB M8 qq))
    go_wp2
    by_cases hp : 0 < last
    · have kwm : IntKind.i64.wrap (last - 1) = last - 1 := by simp [IntKind.wrap, IntKind.bits, IntKind.signed]; omega
      have AGL := Lib.hid (agB_yes (agree_less (agB_out AGO.out) (show last - 1 ≤ last by omega)))
      have M9 := Lib.hid True.intro
      have MA := Lib.hid True.intro
      have MB := Lib.hid True.intro
      replace LF := Lib.hid (LF.out.later (Below.refl _ _).drew)
      go_region_held3 (fun w' => w'.cell? ⟨w.heap.size, 0, none⟩ = some (.slice an ln cn) ∧ w'.cell? ⟨w.heap.size, 1, none⟩ = some (.slice ar lr cr) ∧ w'.cell? ⟨w.heap.size + 1, 0, none⟩ = some (.slice bn mn dn) ∧ w'.cell? ⟨w.heap.size + 1, 1, none⟩ = some (.slice br mr dr) ∧ w'.cell? ⟨bp, 0, none⟩ = some (.slice a3 n3 c3) ∧ w'.cell? ⟨bp, 1, none⟩ = some (.slice b3 m3 d3) ∧ w'.cell? ⟨bq, 0, none⟩ = some (.slice (some ⟨vn + 1, 0, none⟩) 2 2) ∧ w'.cell? ⟨bq, 1, none⟩ = some (.slice (some ⟨vn + 1 + 1 + 1 + 1 + 1 + 1 + 1 + 1, 0, none⟩) 3 3)) (exact LF.out.cells) (first
        | (go_at_call 9; have qq := M9; refine (KOA.out _ LF.out).mono ?_; rintro e wn ⟨⟨r1a, r1b, r1c, r1d, r1e, r1f, r1g, r1h⟩, rfl, hU, hB⟩; simp only [Tb.val]; have R1 := Lib.hid hU; replace LF := Lib.hid (LF.out.later hB); clear hU hB M9 qq)
        | (go_at_call 9; have qq := MA; refine (KOB.out _ LF.out).mono ?_; rintro e wn ⟨⟨r2a, r2b, r2c, r2d, r2e, r2f, r2g, r2h⟩, rfl, hU, hB⟩; simp only [Tb.val]; have R2 := Lib.hid hU; replace LF := Lib.hid (LF.out.later hB); replace R1 := Lib.hid (R1.out.later hB); clear hU hB MA qq)
        | (go_at_call 8; have qq := MB; refine (KAG.out _ _ _ _ _ _ _ _ R1.out R2.out).mono ?_; rintro e wn ⟨rfl, hB⟩; rw [AGL.out]; replace LF := Lib.hid (LF.out.later hB); clear hB MB qq))
      by_cases hv : validE tss rsA = 0
      · rw [hv] at KV
        by_cases h5 : 5000 < last
        · have h5n : ¬ last < 0 := by omega
          have h5d : decide (last < 0) = false := decide_eq_false h5n
          have N1 := Lib.hid True.intro
          obtain ⟨e0, e1, e2, e3, e4, e5, e6, e7⟩ := LF.out.cells
          go_wp2_with (first
            | (go_at_call 9; have qq := N1; refine (KOA.out _ LF.out).mono ?_; rintro e wn ⟨⟨y1a, y1b, y1c, y1d, y1e, y1f, y1g, y1h⟩, rfl, hU, hB⟩; simp only [Tb.val]; have Y1 := Lib.hid hU; replace LF := Lib.hid (LF.out.later hB); clear hU hB N1 qq)
            | (go_at_call 10; refine (KV.out _ _ Y1.out).mono ?_; rintro e wn ⟨rfl, hB⟩; replace LF := Lib.hid (LF.out.later hB); clear hB))
          go_ret
          exact ⟨rfl, LF.out.bel⟩
        · have h5n : ¬ last < 0 := by omega
          have h5d : decide (last < 0) = false := decide_eq_false h5n
          have h5e : decide (5000 < last) = false := decide_eq_false h5
          have kw1 : IntKind.i64.wrap (last + 1) = last + 1 := by simp [IntKind.wrap, IntKind.bits, IntKind.signed]; omega
          have KCUT := Lib.hid (KC0.out hv (by omega) (by omega))
          have KOV := Lib.hid (KO0.out hv)
          have AGC := Lib.hid (agB_yes (agree_cut tss rsA last (by omega)))
          have N1 := Lib.hid True.intro
          obtain ⟨e0, e1, e2, e3, e4, e5, e6, e7⟩ := LF.out.cells
          have N2 := Lib.hid True.intro
          have N3 := Lib.hid True.intro
          go_upto_region 15 with (first
            | (go_at_call 9; have qq := N1; refine (KOA.out _ LF.out).mono ?_; rintro e wn ⟨⟨y1a, y1b, y1c, y1d, y1e, y1f, y1g, y1h⟩, rfl, hU, hB⟩; simp only [Tb.val]; have Y1 := Lib.hid hU; replace LF := Lib.hid (LF.out.later hB); clear hU hB N1 qq)
            | (go_at_call 10; refine (KV.out _ _ Y1.out).mono ?_; rintro e wn ⟨rfl, hB⟩; replace LF := Lib.hid (LF.out.later hB); clear hB e0 e1 e2 e3 e4 e5 e6 e7; obtain ⟨e0, e1, e2, e3, e4, e5, e6, e7⟩ := LF.out.cells)
            | (go_at_call 9; have qq := N2; refine (KOA.out _ LF.out).mono ?_; rintro e wn ⟨⟨y2a, y2b, y2c, y2d, y2e, y2f, y2g, y2h⟩, rfl, hU, hB⟩; simp only [Tb.val]; have Y2 := Lib.hid hU; replace LF := Lib.hid (LF.out.later hB); clear hU hB N2 qq)
            | (go_at_call 11; refine (KCUT.out _ _ Y2.out).mono ?_; rintro e wc ⟨⟨ca, cb, cc, cd, ce, cf, cg, ch⟩, rfl, hU, hB⟩; simp only [Tb.val]; have AC := Lib.hid (below_al wc (.cells #[.slice ca cb cc, .slice ce cf cg] 25)); have TC := Lib.hid (hU.later AC.out); have HC := Lib.hid (World.alloc_heap_new wc (.cells #[.slice ca cb cc, .slice ce cf cg] 25)); replace LF := Lib.hid ((LF.out.later hB).later AC.out); clear hU hB e0 e1 e2 e3 e4 e5 e6 e7; obtain ⟨e0, e1, e2, e3, e4, e5, e6, e7⟩ := LF.out.cells))
          obtain ⟨bc, hbc⟩ : ∃ bc, wc.heap.size = bc := ⟨_, rfl⟩
          have LC := Lib.hid (p := LkC w _ ⟨an, ln, cn, tss, ar, lr, cr, trs⟩ ⟨bn, mn, dn, uss, br, mr, dr, urs⟩ ⟨a3, n3, c3, s3, b3, m3, d3, q3⟩ (plTq vn 1) ⟨ca, cb, cc, cd, ce, cf, cg, ch⟩ bp bq bc tss (rsA.take (last + 1).toNat)) ⟨LF.out, (by rw [← hbc]; exact HC.out), TC.out⟩
          rw [hbc]
          clear hbc HC TC AC e0 e1 e2 e3 e4 e5 e6 e7
          generalize (wc.alloc (.cells #[.slice ca cb cc, .slice ce cf cg] 25)) = wS at LC LF ⊢
          go_cut [13, 14] (fun v f wx => ∃ (bx : Nat) (o : Tb), v = .pointer (some ⟨bx, 0, none⟩) ∧ f = .int .i64 0 ∧ RowKit.Hid (LkD w wx ⟨an, ln, cn, tss, ar, lr, cr, trs⟩ ⟨bn, mn, dn, uss, br, mr, dr, urs⟩ ⟨a3, n3, c3, s3, b3, m3, d3, q3⟩ (plTq vn 1) ⟨ca, cb, cc, cd, ce, cf, cg, ch⟩ o bp bq bc bx tss (rsA.take (last + 1).toNat) rsA))
          case first =>
            have LC0 := Lib.hid (LC.out.later (Below.refl _ _).drew)
            have BS := Lib.hid (Below.refl wS.drew.heap.size wS.drew)
            have N4 := Lib.hid True.intro
            have N5 := Lib.hid True.intro
            have N6 := Lib.hid True.intro
            obtain ⟨e0, e1⟩ := LC.out.c2
            go_region_held3 (fun w' => w'.cell? ⟨w.heap.size, 0, none⟩ = some (.slice an ln cn) ∧ w'.cell? ⟨w.heap.size, 1, none⟩ = some (.slice ar lr cr)) (first | exact (LC0.out.later BS.out).c2 | exact (LC0.out.later (BS.out.alloc BS.out.size _)).c2 | exact (LC0.out.later (below_eq (BS.out.alloc BS.out.size _) rfl rfl rfl rfl)).c2 | exact (LC0.out.later (below_eq ((BS.out.setCell (p := ⟨_, 0, none⟩) XS.out _).setCell (p := ⟨_, 1, none⟩) XS.out _) rfl rfl rfl rfl)).c2) (first
              | (go_at_call 9; have qq := N4; refine (KOA.out _ (LC0.out.later BS.out).lf).mono ?_; rintro e wn ⟨⟨z1a, z1b, z1c, z1d, z1e, z1f, z1g, z1h⟩, rfl, hU, hB⟩; simp only [Tb.val]; have Z1 := Lib.hid hU; replace BS := Lib.hid (BS.out.trans (hB.mono BS.out.size)); (try (replace HX := Lib.hid ((hB.block _ (blk_lt HX.out)).trans HX.out))); clear hU hB N4 qq)
              | (go_at_call 9; have qq := N4; refine (KOA.out _ (LC0.out.later (BS.out.alloc BS.out.size _)).lf).mono ?_; rintro e wn ⟨⟨z1a, z1b, z1c, z1d, z1e, z1f, z1g, z1h⟩, rfl, hU, hB⟩; simp only [Tb.val]; have Z1 := Lib.hid hU; have XS := Lib.hid BS.out.size; have HX := Lib.hid ((hB.block _ (by simp)).trans (World.alloc_heap_new _ _)); replace BS := Lib.hid ((BS.out.alloc BS.out.size _).trans (hB.mono (BS.out.alloc BS.out.size _).size)); clear hU hB N4 qq)
              | (go_at_call 9; have qq := N5; refine (KOA.out _ (LC0.out.later BS.out).lf).mono ?_; rintro e wn ⟨⟨z2a, z2b, z2c, z2d, z2e, z2f, z2g, z2h⟩, rfl, hU, hB⟩; simp only [Tb.val]; have Z2 := Lib.hid hU; replace BS := Lib.hid (BS.out.trans (hB.mono BS.out.size)); replace Z1 := Lib.hid (Z1.out.later hB); (try (replace HX := Lib.hid ((hB.block _ (blk_lt HX.out)).trans HX.out))); clear hU hB N5 qq)
              | (go_at_call 9; have qq := N5; refine (KOA.out _ (LC0.out.later (BS.out.alloc BS.out.size _)).lf).mono ?_; rintro e wn ⟨⟨z2a, z2b, z2c, z2d, z2e, z2f, z2g, z2h⟩, rfl, hU, hB⟩; simp only [Tb.val]; have Z2 := Lib.hid hU; have XS := Lib.hid BS.out.size; have HX := Lib.hid ((hB.block _ (by simp)).trans (World.alloc_heap_new _ _)); replace BS := Lib.hid ((BS.out.alloc BS.out.size _).trans (hB.mono (BS.out.alloc BS.out.size _).size)); replace Z1 := Lib.hid ((Z1.out.later (below_al _ _)).later hB); clear hU hB N5 qq)
              | (go_at_call 12; have qq := N6; refine (KOV.out _ _ _ Z1.out Z2.out).mono ?_; rintro e wo ⟨⟨oa, ob, oc, od, oe, of, og, oh⟩, rfl, hU, hB⟩; simp only [Tb.val]; have XO := Lib.hid hU; replace BS := Lib.hid (BS.out.trans (hB.mono BS.out.size)); (try (have XL := Lib.hid (blk_lt HX.out); replace HX := Lib.hid ((hB.block _ (blk_lt HX.out)).trans HX.out); obtain ⟨i0, i1, i2, i3⟩ := box_all2 HX.out)); (try (change wo.cell? ⟨wS.heap.size, 0, none⟩ = _ at i0; change wo.cell? ⟨wS.heap.size, 1, none⟩ = _ at i1; change wo.frozen? ⟨wS.heap.size, 0, none⟩ = _ at i2; change wo.frozen? ⟨wS.heap.size, 1, none⟩ = _ at i3)); clear hU hB N6 qq)
              | (go_at_call 12; have qq := N6; refine (KOV.out _ _ _ (Z1.out.later (below_al _ _)) (Z2.out.later (below_al _ _))).mono ?_; rintro e wo ⟨⟨oa, ob, oc, od, oe, of, og, oh⟩, rfl, hU, hB⟩; simp only [Tb.val]; have XO := Lib.hid hU; have XX := ov_box BS.out hB; have XS := Lib.hid XX.1; have XL := Lib.hid XX.2.1; have HX := Lib.hid XX.2.2.1; replace BS := Lib.hid XX.2.2.2; clear XX; obtain ⟨i0, i1, i2, i3⟩ := box_all2 HX.out; clear hU hB N6 qq))
            all_goals
              go_wp2
              go_meet
              case rel => first
                | exact ⟨_, ⟨oa, ob, oc, od, oe, of, og, oh⟩, rfl, rfl, lkD_last LC0.out BS.out XO.out rfl rfl rfl rfl⟩
                | exact ⟨_, ⟨oa, ob, oc, od, oe, of, og, oh⟩, rfl, rfl, lkD_first LC0.out BS.out XO.out (GD0.out hv) HX.out XS.out XL.out rfl rfl rfl rfl⟩
          case rest =>
            obtain ⟨bx, o, rfl, rfl, hD⟩ := hcut
            obtain ⟨oa, ob, oc, od, oe, of, og, oh⟩ := o
            rename World => wx
            have LD0 := Lib.hid hD.out
            clear hD LF
            have LD := Lib.hid (LD0.out.later (Below.refl _ _).drew)
            have N7 := Lib.hid True.intro
            go_wp2
            go_region_held3 (fun w' => w'.cell? ⟨w.heap.size, 0, none⟩ = some (.slice an ln cn) ∧ w'.cell? ⟨w.heap.size, 1, none⟩ = some (.slice ar lr cr) ∧ w'.cell? ⟨bc, 0, none⟩ = some (.slice ca cb cc) ∧ w'.cell? ⟨bc, 1, none⟩ = some (.slice ce cf cg) ∧ w'.cell? ⟨bx, 0, none⟩ = some (.slice oa ob oc) ∧ w'.cell? ⟨bx, 1, none⟩ = some (.slice oe of og)) (first | exact LD.out.c6 | exact LD0.out.c6) (first
              | (go_at_call 9; have qq := N7; refine (KOA.out _ LD.out.lc.lf).mono ?_; rintro e wn ⟨⟨v1a, v1b, v1c, v1d, v1e, v1f, v1g, v1h⟩, rfl, hU, hB⟩; simp only [Tb.val]; have V1 := Lib.hid hU; replace LD := Lib.hid (LD.out.later hB); clear hU hB N7 qq)
              | (go_at_call 8; refine (KAG.out _ _ _ _ _ _ _ _ V1.out LD.out.lc.tc).mono ?_; rintro e wn ⟨rfl, hB⟩; rw [AGC.out]; replace LD := Lib.hid (LD.out.later hB); clear hB)
              | (go_at_call 13; refine (sameT_any _ _ _ _ _ LD.out.tx (HT.out.later LD.out.lc.lf.bel)).mono ?_; rintro e wn ⟨rfl, hB⟩; replace LD := Lib.hid (LD.out.later hB); clear hB))
            go_wp2
            go_ret
            exact ⟨rfl, LD.out.lc.lf.bel⟩
      · have hv2 : (validE tss rsA == 0) = false := bnot_ofL hv
        generalize validE tss rsA = VV at *
        have N1 := Lib.hid True.intro
        obtain ⟨e0, e1, e2, e3, e4, e5, e6, e7⟩ := LF.out.cells
        go_wp2_with (first
          | (go_at_call 9; have qq := N1; refine (KOA.out _ LF.out).mono ?_; rintro e wn ⟨⟨y1a, y1b, y1c, y1d, y1e, y1f, y1g, y1h⟩, rfl, hU, hB⟩; simp only [Tb.val]; have Y1 := Lib.hid hU; replace LF := Lib.hid (LF.out.later hB); clear hU hB N1 qq)
          | (go_at_call 10; refine (KV.out _ _ Y1.out).mono ?_; rintro e wn ⟨rfl, hB⟩; replace LF := Lib.hid (LF.out.later hB); clear hB))
        go_ret
        exact ⟨rfl, LF.out.bel⟩
    · have hp2 : decide (0 < last) = false := decide_eq_false hp
      go_quiet (fail)
      replace LF := Lib.hid (LF.out.later (belowT_drewN (Below.refl _ _) nq))
      by_cases hv : validE tss rsA = 0
      · rw [hv] at KV
        by_cases h5 : last < 0
        · skip
          have N1 := Lib.hid True.intro
          obtain ⟨e0, e1, e2, e3, e4, e5, e6, e7⟩ := LF.out.cells
          go_wp2_with (first
            | (go_at_call 9; have qq := N1; refine (KOA.out _ LF.out).mono ?_; rintro e wn ⟨⟨y1a, y1b, y1c, y1d, y1e, y1f, y1g, y1h⟩, rfl, hU, hB⟩; simp only [Tb.val]; have Y1 := Lib.hid hU; replace LF := Lib.hid (LF.out.later hB); clear hU hB N1 qq)
            | (go_at_call 10; refine (KV.out _ _ Y1.out).mono ?_; rintro e wn ⟨rfl, hB⟩; replace LF := Lib.hid (LF.out.later hB); clear hB))
          go_ret
          exact ⟨rfl, LF.out.bel⟩
        · have h5d : decide (last < 0) = false := decide_eq_false h5
          have h6 : ¬ 5000 < last := by omega
          have h5e : decide (5000 < last) = false := decide_eq_false h6
          have kw1 : IntKind.i64.wrap (last + 1) = last + 1 := by simp [IntKind.wrap, IntKind.bits, IntKind.signed]; omega
          have KCUT := Lib.hid (KC0.out hv (by omega) (by omega))
          have KOV := Lib.hid (KO0.out hv)
          have AGC := Lib.hid (agB_yes (agree_cut tss rsA last (by omega)))
          have N1 := Lib.hid True.intro
          obtain ⟨e0, e1, e2, e3, e4, e5, e6, e7⟩ := LF.out.cells
          have N2 := Lib.hid True.intro
          have N3 := Lib.hid True.intro
          go_upto_region 15 with (first
            | (go_at_call 9; have qq := N1; refine (KOA.out _ LF.out).mono ?_; rintro e wn ⟨⟨y1a, y1b, y1c, y1d, y1e, y1f, y1g, y1h⟩, rfl, hU, hB⟩; simp only [Tb.val]; have Y1 := Lib.hid hU; replace LF := Lib.hid (LF.out.later hB); clear hU hB N1 qq)
            | (go_at_call 10; refine (KV.out _ _ Y1.out).mono ?_; rintro e wn ⟨rfl, hB⟩; replace LF := Lib.hid (LF.out.later hB); clear hB e0 e1 e2 e3 e4 e5 e6 e7; obtain ⟨e0, e1, e2, e3, e4, e5, e6, e7⟩ := LF.out.cells)
            | (go_at_call 9; have qq := N2; refine (KOA.out _ LF.out).mono ?_; rintro e wn ⟨⟨y2a, y2b, y2c, y2d, y2e, y2f, y2g, y2h⟩, rfl, hU, hB⟩; simp only [Tb.val]; have Y2 := Lib.hid hU; replace LF := Lib.hid (LF.out.later hB); clear hU hB N2 qq)
            | (go_at_call 11; refine (KCUT.out _ _ Y2.out).mono ?_; rintro e wc ⟨⟨ca, cb, cc, cd, ce, cf, cg, ch⟩, rfl, hU, hB⟩; simp only [Tb.val]; have AC := Lib.hid (below_al wc (.cells #[.slice ca cb cc, .slice ce cf cg] 25)); have TC := Lib.hid (hU.later AC.out); have HC := Lib.hid (World.alloc_heap_new wc (.cells #[.slice ca cb cc, .slice ce cf cg] 25)); replace LF := Lib.hid ((LF.out.later hB).later AC.out); clear hU hB e0 e1 e2 e3 e4 e5 e6 e7; obtain ⟨e0, e1, e2, e3, e4, e5, e6, e7⟩ := LF.out.cells))
          obtain ⟨bc, hbc⟩ : ∃ bc, wc.heap.size = bc := ⟨_, rfl⟩
          have LC := Lib.hid (p := LkC w _ ⟨an, ln, cn, tss, ar, lr, cr, trs⟩ ⟨bn, mn, dn, uss, br, mr, dr, urs⟩ ⟨a3, n3, c3, s3, b3, m3, d3, q3⟩ (plTq vn 1) ⟨ca, cb, cc, cd, ce, cf, cg, ch⟩ bp bq bc tss (rsA.take (last + 1).toNat)) ⟨LF.out, (by rw [← hbc]; exact HC.out), TC.out⟩
          rw [hbc]
          clear hbc HC TC AC e0 e1 e2 e3 e4 e5 e6 e7
          generalize (wc.alloc (.cells #[.slice ca cb cc, .slice ce cf cg] 25)) = wS at LC LF ⊢
          go_cut [13, 14] (fun v f wx => ∃ (bx : Nat) (o : Tb), v = .pointer (some ⟨bx, 0, none⟩) ∧ f = .int .i64 0 ∧ RowKit.Hid (LkD w wx ⟨an, ln, cn, tss, ar, lr, cr, trs⟩ ⟨bn, mn, dn, uss, br, mr, dr, urs⟩ ⟨a3, n3, c3, s3, b3, m3, d3, q3⟩ (plTq vn 1) ⟨ca, cb, cc, cd, ce, cf, cg, ch⟩ o bp bq bc bx tss (rsA.take (last + 1).toNat) rsA))
          case first =>
            have LC0 := Lib.hid (LC.out.later (Below.refl _ _).drew)
            have BS := Lib.hid (Below.refl wS.drew.heap.size wS.drew)
            have N4 := Lib.hid True.intro
            have N5 := Lib.hid True.intro
            have N6 := Lib.hid True.intro
            obtain ⟨e0, e1⟩ := LC.out.c2
            go_region_held3 (fun w' => w'.cell? ⟨w.heap.size, 0, none⟩ = some (.slice an ln cn) ∧ w'.cell? ⟨w.heap.size, 1, none⟩ = some (.slice ar lr cr)) (first | exact (LC0.out.later BS.out).c2 | exact (LC0.out.later (BS.out.alloc BS.out.size _)).c2 | exact (LC0.out.later (below_eq (BS.out.alloc BS.out.size _) rfl rfl rfl rfl)).c2 | exact (LC0.out.later (below_eq ((BS.out.setCell (p := ⟨_, 0, none⟩) XS.out _).setCell (p := ⟨_, 1, none⟩) XS.out _) rfl rfl rfl rfl)).c2) (first
              | (go_at_call 9; have qq := N4; refine (KOA.out _ (LC0.out.later BS.out).lf).mono ?_; rintro e wn ⟨⟨z1a, z1b, z1c, z1d, z1e, z1f, z1g, z1h⟩, rfl, hU, hB⟩; simp only [Tb.val]; have Z1 := Lib.hid hU; replace BS := Lib.hid (BS.out.trans (hB.mono BS.out.size)); (try (replace HX := Lib.hid ((hB.block _ (blk_lt HX.out)).trans HX.out))); clear hU hB N4 qq)
              | (go_at_call 9; have qq := N4; refine (KOA.out _ (LC0.out.later (BS.out.alloc BS.out.size _)).lf).mono ?_; rintro e wn ⟨⟨z1a, z1b, z1c, z1d, z1e, z1f, z1g, z1h⟩, rfl, hU, hB⟩; simp only [Tb.val]; have Z1 := Lib.hid hU; have XS := Lib.hid BS.out.size; have HX := Lib.hid ((hB.block _ (by simp)).trans (World.alloc_heap_new _ _)); replace BS := Lib.hid ((BS.out.alloc BS.out.size _).trans (hB.mono (BS.out.alloc BS.out.size _).size)); clear hU hB N4 qq)
              | (go_at_call 9; have qq := N5; refine (KOA.out _ (LC0.out.later BS.out).lf).mono ?_; rintro e wn ⟨⟨z2a, z2b, z2c, z2d, z2e, z2f, z2g, z2h⟩, rfl, hU, hB⟩; simp only [Tb.val]; have Z2 := Lib.hid hU; replace BS := Lib.hid (BS.out.trans (hB.mono BS.out.size)); replace Z1 := Lib.hid (Z1.out.later hB); (try (replace HX := Lib.hid ((hB.block _ (blk_lt HX.out)).trans HX.out))); clear hU hB N5 qq)
              | (go_at_call 9; have qq := N5; refine (KOA.out _ (LC0.out.later (BS.out.alloc BS.out.size _)).lf).mono ?_; rintro e wn ⟨⟨z2a, z2b, z2c, z2d, z2e, z2f, z2g, z2h⟩, rfl, hU, hB⟩; simp only [Tb.val]; have Z2 := Lib.hid hU; have XS := Lib.hid BS.out.size; have HX := Lib.hid ((hB.block _ (by simp)).trans (World.alloc_heap_new _ _)); replace BS := Lib.hid ((BS.out.alloc BS.out.size _).trans (hB.mono (BS.out.alloc BS.out.size _).size)); replace Z1 := Lib.hid ((Z1.out.later (below_al _ _)).later hB); clear hU hB N5 qq)
              | (go_at_call 12; have qq := N6; refine (KOV.out _ _ _ Z1.out Z2.out).mono ?_; rintro e wo ⟨⟨oa, ob, oc, od, oe, of, og, oh⟩, rfl, hU, hB⟩; simp only [Tb.val]; have XO := Lib.hid hU; replace BS := Lib.hid (BS.out.trans (hB.mono BS.out.size)); (try (have XL := Lib.hid (blk_lt HX.out); replace HX := Lib.hid ((hB.block _ (blk_lt HX.out)).trans HX.out); obtain ⟨i0, i1, i2, i3⟩ := box_all2 HX.out)); (try (change wo.cell? ⟨wS.heap.size, 0, none⟩ = _ at i0; change wo.cell? ⟨wS.heap.size, 1, none⟩ = _ at i1; change wo.frozen? ⟨wS.heap.size, 0, none⟩ = _ at i2; change wo.frozen? ⟨wS.heap.size, 1, none⟩ = _ at i3)); clear hU hB N6 qq)
              | (go_at_call 12; have qq := N6; refine (KOV.out _ _ _ (Z1.out.later (below_al _ _)) (Z2.out.later (below_al _ _))).mono ?_; rintro e wo ⟨⟨oa, ob, oc, od, oe, of, og, oh⟩, rfl, hU, hB⟩; simp only [Tb.val]; have XO := Lib.hid hU; have XX := ov_box BS.out hB; have XS := Lib.hid XX.1; have XL := Lib.hid XX.2.1; have HX := Lib.hid XX.2.2.1; replace BS := Lib.hid XX.2.2.2; clear XX; obtain ⟨i0, i1, i2, i3⟩ := box_all2 HX.out; clear hU hB N6 qq))
            all_goals
              go_wp2
              go_meet
              case rel => first
                | exact ⟨_, ⟨oa, ob, oc, od, oe, of, og, oh⟩, rfl, rfl, lkD_last LC0.out BS.out XO.out rfl rfl rfl rfl⟩
                | exact ⟨_, ⟨oa, ob, oc, od, oe, of, og, oh⟩, rfl, rfl, lkD_first LC0.out BS.out XO.out (GD0.out hv) HX.out XS.out XL.out rfl rfl rfl rfl⟩
          case rest =>
            obtain ⟨bx, o, rfl, rfl, hD⟩ := hcut
            obtain ⟨oa, ob, oc, od, oe, of, og, oh⟩ := o
            rename World => wx
            have LD0 := Lib.hid hD.out
            clear hD LF
            have LD := Lib.hid (LD0.out.later (Below.refl _ _).drew)
            have N7 := Lib.hid True.intro
            go_wp2
            go_region_held3 (fun w' => w'.cell? ⟨w.heap.size, 0, none⟩ = some (.slice an ln cn) ∧ w'.cell? ⟨w.heap.size, 1, none⟩ = some (.slice ar lr cr) ∧ w'.cell? ⟨bc, 0, none⟩ = some (.slice ca cb cc) ∧ w'.cell? ⟨bc, 1, none⟩ = some (.slice ce cf cg) ∧ w'.cell? ⟨bx, 0, none⟩ = some (.slice oa ob oc) ∧ w'.cell? ⟨bx, 1, none⟩ = some (.slice oe of og)) (first | exact LD.out.c6 | exact LD0.out.c6) (first
              | (go_at_call 9; have qq := N7; refine (KOA.out _ LD.out.lc.lf).mono ?_; rintro e wn ⟨⟨v1a, v1b, v1c, v1d, v1e, v1f, v1g, v1h⟩, rfl, hU, hB⟩; simp only [Tb.val]; have V1 := Lib.hid hU; replace LD := Lib.hid (LD.out.later hB); clear hU hB N7 qq)
              | (go_at_call 8; refine (KAG.out _ _ _ _ _ _ _ _ V1.out LD.out.lc.tc).mono ?_; rintro e wn ⟨rfl, hB⟩; rw [AGC.out]; replace LD := Lib.hid (LD.out.later hB); clear hB)
              | (go_at_call 13; refine (sameT_any _ _ _ _ _ LD.out.tx (HT.out.later LD.out.lc.lf.bel)).mono ?_; rintro e wn ⟨rfl, hB⟩; replace LD := Lib.hid (LD.out.later hB); clear hB))
            go_wp2
            go_ret
            exact ⟨rfl, LD.out.lc.lf.bel⟩
      · have hv2 : (validE tss rsA == 0) = false := bnot_ofL hv
        generalize validE tss rsA = VV at *
        have N1 := Lib.hid True.intro
        obtain ⟨e0, e1, e2, e3, e4, e5, e6, e7⟩ := LF.out.cells
        go_wp2_with (first
          | (go_at_call 9; have qq := N1; refine (KOA.out _ LF.out).mono ?_; rintro e wn ⟨⟨y1a, y1b, y1c, y1d, y1e, y1f, y1g, y1h⟩, rfl, hU, hB⟩; simp only [Tb.val]; have Y1 := Lib.hid hU; replace LF := Lib.hid (LF.out.later hB); clear hU hB N1 qq)
          | (go_at_call 10; refine (KV.out _ _ Y1.out).mono ?_; rintro e wn ⟨rfl, hB⟩; replace LF := Lib.hid (LF.out.later hB); clear hB))
        go_ret
        exact ⟨rfl, LF.out.bel⟩
end Go.Proofs.YtknlpadoladpfaaGreatDoor
