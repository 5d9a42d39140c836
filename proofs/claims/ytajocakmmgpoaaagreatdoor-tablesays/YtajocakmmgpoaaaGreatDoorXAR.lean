import Derived.Test.YtajocakmmgpoaaaGreatDoorXAQ
import Derived.Test.YtajocakmmgpoaaaGreatDoorXAN
import Derived.Deep.Cut
import Derived.Deep.CutRange
import Derived.Deep.DeepCutAuto
namespace Go.Proofs.YtajocakmmgpoaaaGreatDoor
open Go.RowKit
set_option linter.unusedVariables false
set_option linter.unusedSimpArgs false

/-- What is said of a name on any day. -/
def celP (ss : List ByteArray) (rs : List (List Cl)) (s : ByteArray) (day : Int) : Cl := if 0 ≤ day then rawT ss rs s day.toNat else default
def celN (ss : List ByteArray) (rs : List (List Cl)) (s : ByteArray) (day : Int) : Cl := if nameB s then celP ss rs s day else default
theorem bind_one (ss : List ByteArray) (rs : List (List Cl)) (s : ByteArray) (hv : validE ss rs = 0) : bindE ss rs [s] = if nameB s then 0 else 52 := by
  unfold bindE
  rw [if_pos hv]
  simp
theorem atC_wf {r : List Cl} {c : Int} (h : ∀ x ∈ r, (Lit.int .i64 x.v).wf = true) : (Lit.int .i64 (atC r c).v).wf = true := by
  unfold atC
  split
  · rfl
  · by_cases q : c.toNat < r.length
    · rw [show r.getD c.toNat default = r[c.toNat] by simp [List.getD, q]]; exact h _ (List.getElem_mem q)
    · rw [atD_nil _ _ (by omega)]; rfl
/-- Rows of one cell each. -/
def OneC (w : World) (a : Option Addr) (n : Nat) (f : Nat → Cl) : Prop := ∀ d, d < n → ∃ x o z oz zc, a = some ⟨x, o, none⟩ ∧ w.cell? ⟨x, o + d, none⟩ = some (.slice (some ⟨z, oz, none⟩) 1 zc) ∧ CC w z oz (f d)
theorem bnd_one {ss : List ByteArray} {rs : List (List Cl)} {s : ByteArray} {w w' : World} {a : Option Addr} {n c B : Nat} {qs : List Rw} (h : RwO w' B (.slice a n c) qs) (hq : qs.map (·.cs) = bndR ss rs [s]) (hr : rs.length ≤ 4096) (hw : ∀ r ∈ rs, ∀ c ∈ r, (Lit.int .i64 c.v).wf = true) :
    n = rs.length ∧ OneC w' a n (fun d => atC (rs.getD d []) (colF ss s 0)) := by
  have ql : qs.length = rs.length := by have := congrArg List.length hq; simpa [bndR] using this
  have one : ∀ d, d < qs.length → (qs.getD d default).cs = [atC (rs.getD d []) (colF ss s 0)] ∧ qs.getD d default ∈ qs := fun d hd => by
    have e : qs.getD d default = qs[d] := by simp [List.getD, hd]
    refine ⟨?_, by rw [e]; exact List.getElem_mem hd⟩
    have : (qs.map (·.cs))[d]? = (bndR ss rs [s])[d]? := by rw [hq]
    unfold bndR at this
    rw [List.getElem?_map, List.getElem?_map, List.getElem?_eq_getElem hd, List.getElem?_eq_getElem (by omega)] at this
    simp only [Option.map_some, Option.some.injEq, List.map_cons, List.map_nil] at this
    rw [e, this]
    simp [List.getD, show d < rs.length by omega]
  have mem : ∀ q ∈ qs, ∃ r ∈ rs, q.cs = [atC r (colF ss s 0)] := fun q hq' => by
    have : q.cs ∈ qs.map (·.cs) := List.mem_map.2 ⟨q, hq', rfl⟩
    rw [hq] at this
    obtain ⟨r, hr', e⟩ := List.mem_map.1 this
    exact ⟨r, hr', e.symm⟩
  obtain ⟨e1, e2, _, _, _⟩ := rl_own h (by omega) (fun q hq' => by obtain ⟨r, _, e⟩ := mem q hq'; rw [e]; simp) (fun q hq' c hc => by
    obtain ⟨r, hr', e⟩ := mem q hq'
    rw [e] at hc
    rw [List.mem_singleton.1 hc]
    exact atC_wf (hw r hr'))
  refine ⟨by omega, fun d hd => ?_⟩
  obtain ⟨o1, o2⟩ := one d (by omega)
  obtain ⟨⟨k1, _, _, k4⟩, _⟩ := e2.2.2.1 _ o2
  rw [o1] at k1 k4
  have k5 : (qs.getD d default).n = 1 := by rw [← k1]; rfl
  rcases e2.2.2.2 with z | ⟨x, o, z1, z2, z3⟩
  · omega
  · rcases k4 with z | ⟨b, ob, y1, y2, y3⟩
    · omega
    · refine ⟨x, o, b, ob, (qs.getD d default).cap, z1, ?_, ?_⟩
      · rw [z3 d hd, y1, k5]
      · have := y3 0 (by omega)
        simpa using this
set_option maxRecDepth 100000 in
set_option maxHeartbeats 8000000 in
theorem cell_any (t : Tb) (ss : List ByteArray) (rs : List (List Cl)) (s : ByteArray) (day : Int) (w : World) (h : TbIs w t ss rs) (hv : validE ss rs = 0) (hs : s.size ≤ 140737488351232) (hd : day ≤ 9223372036854775807) :
    Calls Tryz.prog 9 #[t.val, .string s, .int .i64 day] w fun e w' => e = .returned (.tuple #[.agg #[.bool (celN ss rs s day).h, .int .i64 (celN ss rs s day).v], .bool (nameB s)]) ∧ Below w.heap.size w w' := by
  have hlr := (tb_lens h).2
  have r4 := (valid_out hv).2.1
  have TH := Lib.hid h
  have KB := Lib.hid (fun (W : World) (b : Below w.heap.size w W) (x : Nat) (k : NL W (some ⟨x, 0, none⟩) 1 [s]) => bind_any t ss rs (some ⟨x, 0, none⟩) 1 1 [s] W (h.later b) k (by omega))
  unfold BndE at KB
  rw [bind_one ss rs s hv] at KB
  have WF := Lib.hid (p := ∀ r ∈ rs, ∀ c ∈ r, (Lit.int .i64 c.v).wf = true) (fun r hr c hc => by
    rw [← h.rs] at hr
    obtain ⟨q, hq, rfl⟩ := List.mem_map.1 hr
    exact (h.rl.2.2.1 q hq).1.2.2.1 c hc)
  obtain ⟨an, ln, cn, tss, ar, lr, cr, trs⟩ := t
  have LRL := Lib.hid (p := lr = rs.length) hlr
  have R4 := Lib.hid (p := rs.length ≤ 4096) (by omega)
  obtain ⟨w1, hw1⟩ : ∃ w1, (w.alloc (.cells #[.slice an ln cn, .slice ar lr cr] 25)).alloc (.cells #[.bool false, .int .i64 0] 34) = w1 := ⟨_, rfl⟩
  obtain ⟨w2, hw2⟩ : ∃ w2, w1.alloc (.cells #[.string s] 9) = w2 := ⟨_, rfl⟩
  have B1 := Lib.hid (p := Below w.heap.size w w1) (by rw [← hw1]; exact ((Below.refl _ w).alloc (Nat.le_refl _) _).alloc (by simp) _)
  have B2 := Lib.hid (p := Below w.heap.size w w2) (by rw [← hw2]; exact B1.out.alloc B1.out.size _)
  have CE := Lib.hid (p := ∀ W, Below w1.heap.size w1 W → W.heap[w.heap.size]? = some (.cells #[.slice an ln cn, .slice ar lr cr] 25) ∧ W.heap[w.heap.size + 1]? = some (.cells #[.bool false, .int .i64 0] 34)) (fun W b => by
    have e : ∀ k, k < 2 → W.heap[w.heap.size + k]? = [Obj.cells #[.slice an ln cn, .slice ar lr cr] 25, Obj.cells #[.bool false, .int .i64 0] 34][k]? := fun k hk => by
      rw [b.block _ (by rw [← hw1]; simp; omega), ← hw1]
      exact als_blk w [Obj.cells #[.slice an ln cn, .slice ar lr cr] 25, Obj.cells #[.bool false, .int .i64 0] 34] k
    exact ⟨e 0 (by omega), e 1 (by omega)⟩)
  have B12 := Lib.hid (p := Below w1.heap.size w1 w2) (by rw [← hw2]; exact below_al w1 _)
  have NLs := Lib.hid (p := NL w2 (some ⟨w1.heap.size, 0, none⟩) 1 [s]) ⟨rfl, by omega, (fun x hx => by rw [List.mem_singleton.1 hx]; exact hs), .inr ⟨w1.heap.size, 0, rfl, by rw [← hw2]; simp, fun i hi => by
    have hb : w2.heap[w1.heap.size]? = some (.cells #[.string s] 9) := by rw [← hw2]; exact World.alloc_heap_new w1 _
    have e0 : i = 0 := by omega
    subst e0
    rw [Joins.cell_of_block hb]; rfl⟩⟩
  have K2 := Lib.hid (KB.out w2 B2.out w1.heap.size NLs.out)
  obtain ⟨x0, x1⟩ := CE.out _ (Below.refl _ _)
  obtain ⟨c0, c1, _, _⟩ := box_all2 x0
  clear h hlr r4 x0 x1 KB
  show Calls Tryz.prog 9 #[.agg #[.slice an ln cn, .slice ar lr cr], .string s, .int .i64 day] w _
  cases hb : nameB s with
  | false =>
    have CN := Lib.hid (p := celN ss rs s day = ⟨false, 0⟩) (by unfold celN; rw [hb]; rfl)
    rw [hb] at K2
    rw [CN.out]
    clear hb
    go_enter Tryz.func9, Tryz.ntmps9
    go_wp2_with (go_at_call 25; refine K2.out.mono ?_; rintro e w3 ⟨la, lm, lc, rfl, _, _, _, hB⟩; have D3 := Lib.hid (B12.out.trans (hB.mono B12.out.size)); have E3 := Lib.hid (B2.out.trans (hB.mono B2.out.size)); have HB1 := Lib.hid (CE.out _ D3.out).2; obtain ⟨y0, y1, y2, y3⟩ := box_all2 HB1.out; clear hB)
    obtain ⟨r0, r1, _, _⟩ := box_all2 (box_set2 (u := .bool false) (v := .int .i64 0) HB1.out)
    exact bodyPost_ret (v := .tuple #[.agg #[.bool false, .int .i64 0], .bool false]) (by simp [results, Tryz.results9, go_sem, r0, r1]) rfl ⟨rfl, (E3.out.setCell (p := ⟨w.heap.size + 1, 0, none⟩) (Nat.le_succ _) _).setCell (p := ⟨w.heap.size + 1, 1, none⟩) (Nat.le_succ _) _⟩
  | true =>
    have K3 := Lib.hid (p := Calls Tryz.prog 25 #[.agg #[.slice an ln cn, .slice ar lr cr], .slice (some ⟨w1.heap.size, 0, none⟩) 1 1] w2 fun e w' => ∃ la lc, e = .returned (.tuple #[.slice la lr lc, .int .i64 0]) ∧ OneC w' la lr (fun d => atC (rs.getD d []) (colF ss s 0)) ∧ Below w2.heap.size w2 w') (by
      refine K2.out.mono ?_
      rintro e w3 ⟨la, lm, lc, rfl, qs, hO, hq, hB⟩
      rw [hb] at hq
      obtain ⟨e1, e2⟩ := bnd_one (w := w2) hO hq R4.out WF.out
      rw [hb]
      have e3 : lm = lr := by rw [e1, LRL.out]
      subst e3
      exact ⟨la, lc, rfl, e2, hB⟩)
    have CN := Lib.hid (p := celN ss rs s day = celP ss rs s day) (by unfold celN; rw [hb]; rfl)
    rw [CN.out]
    clear hb CN K2
    by_cases hin : 0 ≤ day ∧ day < (lr : Int)
    · obtain ⟨d, rfl⟩ : ∃ d : Nat, day = (d : Int) := ⟨day.toNat, by omega⟩
      have CP := Lib.hid (p := celP ss rs s (d : Int) = atC (rs.getD d []) (colF ss s 0)) (by unfold celP; rw [if_pos (by omega), raw_at, Int.toNat_natCast])
      rw [CP.out]
      have dlr : d < lr := by omega
      have k0 : ¬ (d : Int) < 0 := by omega
      have k1 : ¬ (lr : Int) ≤ (d : Int) := by omega
      have k2 : (d : Int) < (lr : Int) := by omega
      obtain ⟨cc, hcc⟩ : ∃ cc, atC (rs.getD d []) (colF ss s 0) = cc := ⟨_, rfl⟩
      rw [hcc]
      have HCC := Lib.hid hcc
      clear hcc hin
      obtain ⟨ch, cv⟩ := cc
      go_enter Tryz.func9, Tryz.ntmps9
      go_wp2_with (go_at_call 25; refine K3.out.mono ?_; rintro e w3 ⟨la, lc, rfl, hO, hB⟩; have D3 := Lib.hid (B12.out.trans (hB.mono B12.out.size)); have E3 := Lib.hid (B2.out.trans (hB.mono B2.out.size)); have HB1 := Lib.hid (CE.out _ D3.out).2; obtain ⟨y0, y1, y2, y3⟩ := box_all2 HB1.out; obtain ⟨z0, z1, _, _⟩ := box_all2 (CE.out _ D3.out).1; obtain ⟨x, o, z, oz, zc, rfl, hx, hz⟩ := hO d dlr; simp only [HCC.out] at hz; obtain ⟨q0, q1⟩ := hz; clear hB hO)
      obtain ⟨r0, r1, _, _⟩ := box_all2 (box_set2 (u := .bool ch) (v := .int .i64 cv) HB1.out)
      exact bodyPost_ret (v := .tuple #[.agg #[.bool ch, .int .i64 cv], .bool true]) (by simp [results, Tryz.results9, go_sem, r0, r1]) rfl ⟨rfl, (E3.out.setCell (p := ⟨w.heap.size + 1, 0, none⟩) (Nat.le_succ _) _).setCell (p := ⟨w.heap.size + 1, 1, none⟩) (Nat.le_succ _) _⟩
    · have CP := Lib.hid (p := celP ss rs s day = ⟨false, 0⟩) (by
        unfold celP
        by_cases q : 0 ≤ day
        · rw [if_pos q, raw_far (by have := LRL.out; omega)]; rfl
        · rw [if_neg q]; rfl)
      rw [CP.out]
      by_cases hlo : day < 0
      · clear hin
        go_enter Tryz.func9, Tryz.ntmps9
        go_wp2_with (go_at_call 25; refine K3.out.mono ?_; rintro e w3 ⟨la, lc, rfl, hO, hB⟩; have D3 := Lib.hid (B12.out.trans (hB.mono B12.out.size)); have E3 := Lib.hid (B2.out.trans (hB.mono B2.out.size)); have HB1 := Lib.hid (CE.out _ D3.out).2; obtain ⟨y0, y1, y2, y3⟩ := box_all2 HB1.out; obtain ⟨z0, z1, _, _⟩ := box_all2 (CE.out _ D3.out).1; clear hB hO)
        obtain ⟨r0, r1, _, _⟩ := box_all2 (box_set2 (u := .bool false) (v := .int .i64 0) HB1.out)
        exact bodyPost_ret (v := .tuple #[.agg #[.bool false, .int .i64 0], .bool true]) (by simp [results, Tryz.results9, go_sem, r0, r1]) rfl ⟨rfl, (E3.out.setCell (p := ⟨w.heap.size + 1, 0, none⟩) (Nat.le_succ _) _).setCell (p := ⟨w.heap.size + 1, 1, none⟩) (Nat.le_succ _) _⟩
      · have k1 : (lr : Int) ≤ day := by omega
        clear hin
        go_enter Tryz.func9, Tryz.ntmps9
        go_wp2_with (go_at_call 25; refine K3.out.mono ?_; rintro e w3 ⟨la, lc, rfl, hO, hB⟩; have D3 := Lib.hid (B12.out.trans (hB.mono B12.out.size)); have E3 := Lib.hid (B2.out.trans (hB.mono B2.out.size)); have HB1 := Lib.hid (CE.out _ D3.out).2; obtain ⟨y0, y1, y2, y3⟩ := box_all2 HB1.out; obtain ⟨z0, z1, _, _⟩ := box_all2 (CE.out _ D3.out).1; clear hB hO)
        obtain ⟨r0, r1, _, _⟩ := box_all2 (box_set2 (u := .bool false) (v := .int .i64 0) HB1.out)
        exact bodyPost_ret (v := .tuple #[.agg #[.bool false, .int .i64 0], .bool true]) (by simp [results, Tryz.results9, go_sem, r0, r1]) rfl ⟨rfl, (E3.out.setCell (p := ⟨w.heap.size + 1, 0, none⟩) (Nat.le_succ _) _).setCell (p := ⟨w.heap.size + 1, 1, none⟩) (Nat.le_succ _) _⟩
end Go.Proofs.YtajocakmmgpoaaaGreatDoor

namespace Go.Proofs.YtajocakmmgpoaaaGreatDoor
open Go.RowKit
set_option linter.unusedVariables false
set_option linter.unusedSimpArgs false

theorem lines_len {rs : List (List Cl)} (hl : ∀ r ∈ rs, r.length ≤ 64) (hw : ∀ r ∈ rs, ∀ c ∈ r, (Lit.int .i64 c.v).wf = true) : ∀ k, k ≤ rs.length → k ≤ 5000 → (rowsT rs k).length ≤ k * 1431
  | 0, _, _ => by simp [rowsT]
  | k + 1, hk, h5 => by
    have ih := lines_len hl hw k (by omega) (by omega)
    have hm : rs.getD k [] ∈ rs := by
      have hk' : k < rs.length := by omega
      rw [show rs.getD k [] = rs[k] by simp [List.getD, hk']]
      exact List.getElem_mem hk'
    have := rowT_len (d := k) (cs := rs.getD k []) (k := (rs.getD k []).length) (hl _ hm) (by omega) (hw _ hm)
    rw [rowsT_step, List.length_append]
    unfold lineT
    rw [List.length_append]
    simp only [List.length_cons, List.length_nil]
    omega
theorem text_500 {ss : List ByteArray} {rs : List (List Cl)} (g : Gd ss rs) (h : rs.length ≤ 500) : (textT ss rs rs.length).length ≤ 1048576 := by
  have a := headT_len (ss := ss) (k := ss.length) g.n64 (fun s hs => name31 (g.nm s hs))
  have b := lines_len (rs := rs) (fun r hr => by rw [g.rw r hr]; exact g.n64) (fun r hr c hc => (g.st r hr c hc).2) rs.length (Nat.le_refl _) (by omega)
  unfold textT
  rw [List.length_append, List.length_append]
  simp only [List.length_cons, List.length_nil]
  omega
/-- a plain table is read back. -/
theorem plainBack (p : Tb) (w W : World) (h : TbIs W p plS plR) (G : Grd w) (b : Below w.heap.size w W) : Calls Tryz.prog 4 #[p.val] W fun e w' => e = .returned (.bool true) ∧ Below W.heap.size W w' :=
  back_any p plS plR W h pl_gd pl_len (G.later b)
end Go.Proofs.YtajocakmmgpoaaaGreatDoor

namespace Go.Proofs.YtajocakmmgpoaaaGreatDoor
open Go.RowKit
set_option linter.unusedVariables false
set_option linter.unusedSimpArgs false

/-- The two tables in their boxes. -/
structure SyF (w W : World) (t u : Tb) : Prop where
  bel : Below w.heap.size w W
  fa : W.heap[w.heap.size]? = some (.cells #[.slice t.an t.ln t.cn, .slice t.ar t.lr t.cr] 25)
  fb : W.heap[w.heap.size + 1]? = some (.cells #[.slice u.an u.ln u.cn, .slice u.ar u.lr u.cr] 25)
theorem SyF.later {w W W' : World} {t u : Tb} (h : SyF w W t u) (b : Below W.heap.size W W') : SyF w W' t u :=
  ⟨h.bel.trans (b.mono h.bel.size), (b.block _ (blk_lt h.fa)).trans h.fa, (b.block _ (blk_lt h.fb)).trans h.fb⟩
theorem SyF.cells {w W : World} {t u : Tb} (h : SyF w W t u) : W.cell? ⟨w.heap.size, 0, none⟩ = some (.slice t.an t.ln t.cn) ∧ W.cell? ⟨w.heap.size, 1, none⟩ = some (.slice t.ar t.lr t.cr) ∧ W.cell? ⟨w.heap.size + 1, 0, none⟩ = some (.slice u.an u.ln u.cn) ∧ W.cell? ⟨w.heap.size + 1, 1, none⟩ = some (.slice u.ar u.lr u.cr) :=
  ⟨(box_all2 h.fa).1, (box_all2 h.fa).2.1, (box_all2 h.fb).1, (box_all2 h.fb).2.1⟩
/-- And the overlay in its box. -/
structure SyO (w W : World) (t u o : Tb) (bx : Nat) (N : List ByteArray) (R : List (List Cl)) : Prop where
  f : SyF w W t u
  hx : W.heap[bx]? = some (.cells #[.slice o.an o.ln o.cn, .slice o.ar o.lr o.cr] 25)
  tx : TbIs W o N R
theorem SyO.later {w W W' : World} {t u o : Tb} {bx : Nat} {N : List ByteArray} {R : List (List Cl)} (h : SyO w W t u o bx N R) (b : Below W.heap.size W W') : SyO w W' t u o bx N R :=
  ⟨h.f.later b, (b.block _ (blk_lt h.hx)).trans h.hx, h.tx.later b⟩
theorem SyO.cells {w W : World} {t u o : Tb} {bx : Nat} {N : List ByteArray} {R : List (List Cl)} (h : SyO w W t u o bx N R) : W.cell? ⟨bx, 0, none⟩ = some (.slice o.an o.ln o.cn) ∧ W.cell? ⟨bx, 1, none⟩ = some (.slice o.ar o.lr o.cr) := ⟨(box_all2 h.hx).1, (box_all2 h.hx).2.1⟩
def SyR (E : Int) (w W : World) (t u o : Tb) (bx : Nat) (N : List ByteArray) (R : List (List Cl)) : Prop := SyF w W t u ∧ (E = 0 → SyO w W t u o bx N R)
theorem syR_last {E : Int} {w WS wo X : World} {t u o : Tb} {B : Nat} {N : List ByteArray} {R : List (List Cl)} (h : SyF w WS t u) (b : Below WS.heap.size WS wo) (k : OvP E B wo o ⟨0, 0, N, R⟩) (h1 : X.os = wo.os) (h2 : X.tape = wo.tape) (h3 : X.output = wo.output) (h4 : X.heap = (wo.alloc (.cells #[.slice o.an o.ln o.cn, .slice o.ar o.lr o.cr] 25)).heap) :
    SyR E w X t u o wo.heap.size N R := by
  have bX : Below wo.heap.size wo X := below_eq (below_al wo _) h1 h2 h3 h4
  have f := h.later (b.trans (bX.mono b.size))
  exact ⟨f, fun e => ⟨f, by rw [h4]; exact World.alloc_heap_new wo _, (k.1 e).is.later bX⟩⟩
theorem syR_first {E : Int} {w WS wo X : World} {t u o : Tb} {bx B : Nat} {N : List ByteArray} {R : List (List Cl)} (h : SyF w WS t u) (b : Below WS.heap.size WS wo) (k : OvP E B wo o ⟨0, 0, N, R⟩) (g : E = 0 → Gd N R) (hx : wo.heap[bx]? = some (.cells #[.slice none 0 0, .slice none 0 0] 25)) (l1 : WS.heap.size ≤ bx) (l2 : bx < B)
    (h1 : X.os = wo.os) (h2 : X.tape = wo.tape) (h3 : X.output = wo.output) (h4 : X.heap = ((wo.setCell ⟨bx, 0, none⟩ (.slice o.an o.ln o.cn)).setCell ⟨bx, 1, none⟩ (.slice o.ar o.lr o.cr)).heap) :
    SyR E w X t u o bx N R := by
  have b2 := (b.setCell (p := ⟨bx, 0, none⟩) l1 (.slice o.an o.ln o.cn)).setCell (p := ⟨bx, 1, none⟩) l1 (.slice o.ar o.lr o.cr)
  have bX : Below ((wo.setCell ⟨bx, 0, none⟩ (.slice o.an o.ln o.cn)).setCell ⟨bx, 1, none⟩ (.slice o.ar o.lr o.cr)).heap.size ((wo.setCell ⟨bx, 0, none⟩ (.slice o.an o.ln o.cn)).setCell ⟨bx, 1, none⟩ (.slice o.ar o.lr o.cr)) X := below_eq (Below.refl _ _) h1 h2 h3 h4
  have f := h.later (below_eq b2 h1 h2 h3 h4)
  refine ⟨f, fun e => ⟨f, by rw [h4]; exact box_set2 hx, ?_⟩⟩
  exact ((((k.1 e).under (g e) l2 (o := 0) (.slice o.an o.ln o.cn)).under (g e) l2 (o := 1) (.slice o.ar o.lr o.cr)).is).later bX
theorem sy_box {WS W wo : World} {o : Obj} (b : Below WS.heap.size WS W) (hB : Below (W.alloc o).heap.size (W.alloc o) wo) : WS.heap.size ≤ W.heap.size ∧ W.heap.size < (W.alloc o).heap.size ∧ wo.heap[W.heap.size]? = some o ∧ Below WS.heap.size WS wo := by
  have l : W.heap.size < (W.alloc o).heap.size := by simp
  exact ⟨b.size, l, (hB.block _ l).trans (World.alloc_heap_new W o), (b.alloc b.size o).trans (hB.mono (b.alloc b.size o).size)⟩
/-- And three cells in their boxes. -/
structure SyP (w W : World) (t u o : Tb) (bx bp bq br : Nat) (N : List ByteArray) (R : List (List Cl)) (ph qh rh : Bool) (pv qv rv : Int) : Prop where
  od : SyO w W t u o bx N R
  hp : W.heap[bp]? = some (.cells #[.bool ph, .int .i64 pv] 34)
  hq : W.heap[bq]? = some (.cells #[.bool qh, .int .i64 qv] 34)
  hr : W.heap[br]? = some (.cells #[.bool rh, .int .i64 rv] 34)
theorem SyP.later {w W W' : World} {t u o : Tb} {bx bp bq br : Nat} {N : List ByteArray} {R : List (List Cl)} {ph qh rh : Bool} {pv qv rv : Int} (h : SyP w W t u o bx bp bq br N R ph qh rh pv qv rv) (b : Below W.heap.size W W') : SyP w W' t u o bx bp bq br N R ph qh rh pv qv rv :=
  ⟨h.od.later b, (b.block _ (blk_lt h.hp)).trans h.hp, (b.block _ (blk_lt h.hq)).trans h.hq, (b.block _ (blk_lt h.hr)).trans h.hr⟩
theorem rate_ok : nameB ⟨#[82, 65, 84, 69]⟩ = true := by decide
theorem celN_yes {ss : List ByteArray} {rs : List (List Cl)} {s : ByteArray} {day : Int} (h : nameB s = true) : celN ss rs s day = celP ss rs s day := by unfold celN; rw [if_pos h]
theorem ov_cel {ss tt : List ByteArray} {ra rb : List (List Cl)} (g : Gd ss ra) (k : Gd tt rb) (s : ByteArray) (day : Int) : celP (ovN ss tt) (ovR ss ra tt rb) s day = if (celP tt rb s day).h then celP tt rb s day else celP ss ra s day := by
  unfold celP
  by_cases q : 0 ≤ day
  · rw [if_pos q, if_pos q, if_pos q]; exact ov_raw g k s _
  · rw [if_neg q, if_neg q, if_neg q]; rfl
theorem cut_cel (ss : List ByteArray) (rs : List (List Cl)) (s : ByteArray) (day : Int) (k : Int) (hk : 0 ≤ k) : celP ss (rs.take k.toNat) s day = if day < k then celP ss rs s day else ⟨false, 0⟩ := by
  unfold celP
  by_cases q : 0 ≤ day
  · rw [if_pos q, if_pos q, cut_raw]
    by_cases z : day < k
    · rw [if_pos z, if_pos (by omega)]
    · rw [if_neg z, if_neg (by omega)]; rfl
  · rw [if_neg q, if_neg q, if_pos (by omega)]
/-- What is missing of one name. -/
theorem miss_no {ss : List ByteArray} {rs : List (List Cl)} {s : ByteArray} {d : Nat} (h : (rawT ss rs s d).h = false) : missP ss rs [s] (d + 1) = missP ss rs [s] d ++ [(s, (d : Int))] := by
  rw [missP_succ]; unfold missD; simp [h]
theorem miss_yes {ss : List ByteArray} {rs : List (List Cl)} {s : ByteArray} {d : Nat} (h : (rawT ss rs s d).h = true) : missP ss rs [s] (d + 1) = missP ss rs [s] d := by
  rw [missP_succ]; unfold missD; simp [h]
theorem miss_before (ss : List ByteArray) (rs : List (List Cl)) (s : ByteArray) : ∀ d, missP ss rs [s] d = [] ∨ ∃ (l : List (ByteArray × Int)) (k : Nat), missP ss rs [s] d = l ++ [(s, (k : Int))] ∧ k < d
  | 0 => .inl rfl
  | d + 1 => by
    cases h : (rawT ss rs s d).h with
    | false => exact .inr ⟨_, d, miss_no h, by omega⟩
    | true =>
      rw [miss_yes h]
      rcases miss_before ss rs s d with q | ⟨l, k, q, hk⟩
      · exact .inl q
      · exact .inr ⟨l, k, q, by omega⟩
theorem prV_len : ∀ l : List (ByteArray × Int), (prV l).length = l.length * 2
  | [] => rfl
  | a :: l => by
    have := prV_len l
    unfold prV at this ⊢
    rw [List.flatMap_cons, List.length_append, this]
    simp; omega
theorem own_last {W : World} {B : Nat} {v : Value} {l : List (ByteArray × Int)} {s : ByteArray} {k : Int} (h : W.ownsRow B 42 2 v (l ++ [(s, k)]).length (prV (l ++ [(s, k)]))) :
    ∃ g c, v = .slice (some ⟨g, 0, none⟩) (l.length + 1) c ∧ W.cell? ⟨g, l.length * 2, none⟩ = some (.string s) ∧ W.cell? ⟨g, l.length * 2 + 1, none⟩ = some (.int .i64 k) := by
  have hl := prV_len l
  have h0 := h
  rcases h.2 with ⟨_, e0⟩ | ⟨g, cap, cur, rfl, _⟩
  · simp at e0
  · have e1 : (l ++ [(s, k)]).length = l.length + 1 := by simp
    rw [e1] at h0 ⊢
    refine ⟨g, cap, rfl, ?_, ?_⟩
    · rw [World.ownsRow.cellAt h0 (l.length * 2) (by omega), prV_app, List.getElem?_append_right (by omega), hl, Nat.sub_self]; rfl
    · rw [World.ownsRow.cellAt h0 (l.length * 2 + 1) (by omega), prV_app, List.getElem?_append_right (by omega), hl, show l.length * 2 + 1 - l.length * 2 = 1 by omega]; rfl
theorem own_none {W : World} {B : Nat} {v : Value} (h : W.ownsRow B 42 2 v 0 []) : ∃ a c, v = .slice a 0 c := by
  rcases h.2 with ⟨rfl, _⟩ | ⟨g, cap, cur, rfl, _⟩
  · exact ⟨_, _, rfl⟩
  · exact ⟨_, _, rfl⟩
theorem missing_one (x : Tb) (ss : List ByteArray) (rs : List (List Cl)) (s : ByteArray) (b d : Nat) (W : World) (hx : TbIs W x ss rs) (hv : validE ss rs = 0) (hs : nameB s = true) (k : NL W (some ⟨b, 0, none⟩) 1 [s]) (hd : d ≤ 3660) :
    Calls Tryz.prog 11 #[x.val, .slice (some ⟨b, 0, none⟩) 1 1, .int .i64 (d : Int)] W fun e w' => ∃ v, e = .returned (.tuple #[v, .int .i64 0]) ∧ w'.ownsRow W.heap.size 42 2 v (missP ss rs [s] (d + 1)).length (prV (missP ss rs [s] (d + 1))) ∧ Below W.heap.size W w' := by
  refine (missing_any x ss rs (some ⟨b, 0, none⟩) 1 1 [s] (d : Int) W hx k (by omega)).mono ?_
  rintro e w' ⟨v, h1, h2, h3⟩
  have e0 : missE ss rs [s] (d : Int) = 0 := by
    unfold missE
    rw [if_neg (by omega), bind_one ss rs s hv, if_pos hs]
  rw [e0] at h1 h2
  rw [if_pos rfl, show ((d : Int) + 1).toNat = d + 1 by omega] at h2
  exact ⟨v, h1, h2, h3⟩
theorem missing_no (x : Tb) (ss : List ByteArray) (rs : List (List Cl)) (s : ByteArray) (b d : Nat) (W : World) (hx : TbIs W x ss rs) (hv : validE ss rs = 0) (hs : nameB s = true) (k : NL W (some ⟨b, 0, none⟩) 1 [s]) (hd : d ≤ 3660) (l : List (ByteArray × Int)) (q : Int) (hq : missP ss rs [s] (d + 1) = l ++ [(s, q)]) :
    Calls Tryz.prog 11 #[x.val, .slice (some ⟨b, 0, none⟩) 1 1, .int .i64 (d : Int)] W fun e w' => ∃ g m c, e = .returned (.tuple #[.slice (some ⟨g, 0, none⟩) (m + 1) c, .int .i64 0]) ∧ w'.cell? ⟨g, m * 2, none⟩ = some (.string s) ∧ w'.cell? ⟨g, m * 2 + 1, none⟩ = some (.int .i64 q) ∧ m ≤ 3661 ∧ Below W.heap.size W w' := by
  refine (missing_one x ss rs s b d W hx hv hs k hd).mono ?_
  rintro e w' ⟨v, h1, h2, h3⟩
  have hl := missP_le ss rs [s] (d + 1)
  rw [hq] at h2 hl
  obtain ⟨g, c, rfl, h4, h5⟩ := own_last h2
  refine ⟨g, l.length, c, h1, h4, h5, ?_, h3⟩
  simp at hl; omega
theorem missing_nil (x : Tb) (ss : List ByteArray) (rs : List (List Cl)) (s : ByteArray) (b d : Nat) (W : World) (hx : TbIs W x ss rs) (hv : validE ss rs = 0) (hs : nameB s = true) (k : NL W (some ⟨b, 0, none⟩) 1 [s]) (hd : d ≤ 3660) (hq : missP ss rs [s] (d + 1) = []) :
    Calls Tryz.prog 11 #[x.val, .slice (some ⟨b, 0, none⟩) 1 1, .int .i64 (d : Int)] W fun e w' => ∃ a c, e = .returned (.tuple #[.slice a 0 c, .int .i64 0]) ∧ Below W.heap.size W w' := by
  refine (missing_one x ss rs s b d W hx hv hs k hd).mono ?_
  rintro e w' ⟨v, h1, h2, h3⟩
  rw [hq] at h2
  obtain ⟨a, c, rfl⟩ := own_none h2
  exact ⟨a, c, h1, h3⟩
/-- A name alone in a list of one's own. -/
theorem nl_one (W : World) (s : ByteArray) (hs : s.size ≤ 140737488351232) : NL (W.alloc (.cells #[.string s] 9)) (some ⟨W.heap.size, 0, none⟩) 1 [s] :=
  ⟨rfl, by omega, (fun x hx => by rw [List.mem_singleton.1 hx]; exact hs), .inr ⟨W.heap.size, 0, rfl, by simp, fun i hi => by
    have e0 : i = 0 := by omega
    subst e0
    rw [Joins.cell_of_block (World.alloc_heap_new W _)]; rfl⟩⟩
theorem gd_take {ss : List ByteArray} {rs : List (List Cl)} (g : Gd ss rs) (k : Nat) : Gd ss (rs.take k) :=
  ⟨g.n64, g.nm, g.nd, fun r hr => g.rw r (List.mem_of_mem_take hr), fun r hr => g.st r (List.mem_of_mem_take hr), Nat.le_trans (by simp; omega) g.r4⟩
end Go.Proofs.YtajocakmmgpoaaaGreatDoor

namespace Go.Proofs.YtajocakmmgpoaaaGreatDoor
open Go.RowKit
set_option linter.unusedVariables false
set_option linter.unusedSimpArgs false

set_option maxRecDepth 100000 in
set_option maxHeartbeats 8000000 in
theorem tableSays_bad (t u : Tb) (nm : ByteArray) (day rows : Int) (w : World) (h0 : TbOk w t) (k0 : TbOk w u) (G : Grd w) (hnm : nm.size ≤ 140737488351232) (hday : -9223372036854775808 ≤ day ∧ day ≤ 9223372036854775807) (hrow : -9223372036854775808 ≤ rows ∧ rows ≤ 9223372036854775807) (hbad : ¬ (validE t.ss (t.rs.map (·.cs)) = 0 ∧ validE u.ss (u.rs.map (·.cs)) = 0)) :
    Calls Tryz.prog 3 #[t.val, u.val, .string nm, .int .i64 day, .int .i64 rows] w fun e w' => e = .returned (.bool true) ∧ Below w.heap.size w w' := by
  have KPL := Lib.hid (fun W => plain_any W)
  have KB := Lib.hid (fun p W (hp : TbIs W p plS plR) b => plainBack p w W hp G b)
  obtain ⟨rsA, hrsA⟩ : ∃ rsA, t.rs.map (·.cs) = rsA := ⟨_, rfl⟩
  obtain ⟨rsB, hrsB⟩ : ∃ rsB, u.rs.map (·.cs) = rsB := ⟨_, rfl⟩
  have HT := Lib.hid (p := TbIs w t t.ss rsA) (by have := tbIs_of h0; rwa [hrsA] at this)
  have HQ := Lib.hid (p := TbIs w u u.ss rsB) (by have := tbIs_of k0; rwa [hrsB] at this)
  have GR := Lib.hid G
  rw [hrsA, hrsB] at hbad
  have HBAD := Lib.hid hbad
  clear hbad
  have hwfA : ∀ r ∈ rsA, ∀ c ∈ r, (Lit.int .i64 c.v).wf = true := fun r hr c hc => by
    rw [← hrsA] at hr
    obtain ⟨q, hq, rfl⟩ := List.mem_map.1 hr
    exact (h0.rl.2.2.1 q hq).1.2.2.1 c hc
  have hwfB : ∀ r ∈ rsB, ∀ c ∈ r, (Lit.int .i64 c.v).wf = true := fun r hr c hc => by
    rw [← hrsB] at hr
    obtain ⟨q, hq, rfl⟩ := List.mem_map.1 hr
    exact (k0.rl.2.2.1 q hq).1.2.2.1 c hc
  have GA := Lib.hid (p := validE t.ss rsA = 0 → Gd t.ss rsA) (fun hv => gd_valid hv hwfA)
  have GB := Lib.hid (p := validE u.ss rsB = 0 → Gd u.ss rsB) (fun hv => gd_valid hv hwfB)
  have LNS := Lib.hid (p := t.ln = t.ss.length ∧ u.ln = u.ss.length) ⟨h0.nl.1.symm, k0.nl.1.symm⟩
  clear h0 k0 hrsA hrsB hwfA hwfB
  obtain ⟨an, ln, cn, tss, ar, lr, cr, trs⟩ := t
  obtain ⟨bn, mn, dn, uss, br, mr, dr, urs⟩ := u
  simp only at HT HQ GA GB LNS
  obtain ⟨w0, hw0⟩ : ∃ w0, (w.alloc (.cells #[.slice an ln cn, .slice ar lr cr] 25)).alloc (.cells #[.slice bn mn dn, .slice br mr dr] 25) = w0 := ⟨_, rfl⟩
  have F0 := Lib.hid (p := ∀ W, Below w0.heap.size w0 W → SyF w W ⟨an, ln, cn, tss, ar, lr, cr, trs⟩ ⟨bn, mn, dn, uss, br, mr, dr, urs⟩) (fun W b => by
    have bb : Below w.heap.size w w0 := by rw [← hw0]; exact two_boxes w _ _ _ _ _
    obtain ⟨q1, q2⟩ := two_cells (w := w) (W := W) (by rw [hw0]; exact b)
    exact ⟨bb.trans (b.mono bb.size), q1, q2⟩)
  have KOA := Lib.hid (fun W (L : SyF w W ⟨an, ln, cn, tss, ar, lr, cr, trs⟩ ⟨bn, mn, dn, uss, br, mr, dr, urs⟩) => ownT_any ⟨an, ln, cn, tss, ar, lr, cr, trs⟩ tss rsA W (HT.out.later L.bel) (GR.out.later L.bel).bh)
  have KOB := Lib.hid (fun W (L : SyF w W ⟨an, ln, cn, tss, ar, lr, cr, trs⟩ ⟨bn, mn, dn, uss, br, mr, dr, urs⟩) => ownT_any ⟨bn, mn, dn, uss, br, mr, dr, urs⟩ uss rsB W (HQ.out.later L.bel) (GR.out.later L.bel).bh)
  obtain ⟨Va, hVa⟩ : ∃ V, validE tss rsA = V := ⟨_, rfl⟩
  obtain ⟨Vb, hVb⟩ : ∃ V, validE uss rsB = V := ⟨_, rfl⟩
  have KVA := Lib.hid (fun (W : World) (x : Tb) (hx : TbIs W x tss rsA) => validI_any x tss rsA W hx)
  have KVB := Lib.hid (fun (W : World) (x : Tb) (hx : TbIs W x uss rsB) => validI_any x uss rsB W hx)
  have KOV := Lib.hid (fun W x y hx hy => overlay_any x y tss uss rsA rsB W hx hy)
  unfold OvE at KOV
  obtain ⟨E, hE⟩ : ∃ E, ovE tss rsA uss rsB = E := ⟨_, rfl⟩
  rw [hE] at KOV
  have GOV := Lib.hid (p := E = 0 → Gd (ovN tss uss) (ovR tss rsA uss rsB)) (fun e => by
    rw [e] at hE
    unfold ovE at hE
    split at hE
    · rename_i q1
      split at hE
      · rename_i q2
        split at hE
        · omega
        · exact ov_gd (GA.out q1) (GB.out q2) (by omega)
      · rename_i q2; exact absurd hE q2
    · rename_i q1; exact absurd hE q1)
  have HE := Lib.hid (p := E = if Va = 0 then (if Vb = 0 then (if 64 < (ovN tss uss).length then 6 else 0) else Vb) else Va) (by rw [← hE, ← hVa, ← hVb]; rfl)
  rw [hVa] at KVA GA
  rw [hVb] at KVB GB
  have HVA := Lib.hid hVa
  have HVB := Lib.hid hVb
  clear hVa hVb hE
  have Fs := Lib.hid (F0.out _ (Below.refl _ _))
  have PM := Lib.hid True.intro
  have PN := Lib.hid True.intro
  show Calls Tryz.prog 3 #[.agg #[.slice an ln cn, .slice ar lr cr], .agg #[.slice bn mn dn, .slice br mr dr], .string nm, .int .i64 day, .int .i64 rows] w _
  by_cases hva : Va = 0
  · subst hva
    by_cases hvb : Vb = 0
    · subst hvb
      exact absurd ⟨HVA.out, HVB.out⟩ HBAD.out
    · have v0 : (Vb == 0) = false := by rw [beq_eq_false_iff_ne]; exact hvb
      have e9 : E = Vb := by rw [HE.out, if_pos rfl, if_neg hvb]
      subst e9
      clear HE
      have PV := Lib.hid True.intro
      have PO := Lib.hid True.intro
      go_enter Tryz.func3, Tryz.ntmps3
      go_upto_region 5 with (first
        | (go_at_call 5; have qq := PM; refine (KPL.out _).mono ?_; rintro e w1 ⟨⟨a1, n1, c1, s1, b1, m1, d1, q1⟩, rfl, hU, hB⟩; simp only [Tb.val]; have U1 := Lib.hid hU; replace Fs := Lib.hid (Fs.out.later hB); clear hU hB PM qq)
        | (go_at_call 4; refine (KB.out _ _ U1.out Fs.out.bel).mono ?_; rintro e w2 ⟨rfl, hB⟩; replace Fs := Lib.hid (Fs.out.later hB); obtain ⟨e0, e1, e2, e3⟩ := Fs.out.cells; clear hB)
        | (go_at_call 7; have qq := PN; refine (KOA.out _ Fs.out).mono ?_; rintro e w3 ⟨⟨a3, n3, c3, s3, b3, m3, d3, q3⟩, rfl, hU, hB⟩; simp only [Tb.val]; have U3 := Lib.hid hU; replace Fs := Lib.hid (Fs.out.later hB); clear hU hB PN qq)
        | (go_at_call 6; have qq := PV; refine (KVA.out _ _ U3.out).mono ?_; rintro e w4 ⟨rfl, hB⟩; replace Fs := Lib.hid (Fs.out.later hB); obtain ⟨f0, f1, f2, f3⟩ := Fs.out.cells; clear hB PV qq)
        | (go_at_call 7; have qq := PO; refine (KOB.out _ Fs.out).mono ?_; rintro e w5 ⟨⟨a5, n5, c5, s5, b5, m5, d5, q5⟩, rfl, hU, hB⟩; simp only [Tb.val]; have U5 := Lib.hid hU; replace Fs := Lib.hid (Fs.out.later hB); clear hU hB PO qq)
        | (go_at_call 6; refine (KVB.out _ _ U5.out).mono ?_; rintro e w6 ⟨rfl, hB⟩; replace Fs := Lib.hid (Fs.out.later hB); clear hB))
      clear e0 e1 e2 e3
      try clear f0 f1 f2 f3
      generalize w6 = wS at Fs ⊢
      go_cut [12, 13] (fun v f wx => ∃ (bx : Nat) (o : Tb), v = .pointer (some ⟨bx, 0, none⟩) ∧ f = .int .i64 E ∧ RowKit.Hid (SyR E w wx ⟨an, ln, cn, tss, ar, lr, cr, trs⟩ ⟨bn, mn, dn, uss, br, mr, dr, urs⟩ o bx (ovN tss uss) (ovR tss rsA uss rsB)))
      case first =>
        have LC0 := Lib.hid (Fs.out.later (Below.refl _ _).drew)
        have BS := Lib.hid (Below.refl wS.drew.heap.size wS.drew)
        have N4 := Lib.hid True.intro
        have N5 := Lib.hid True.intro
        have N6 := Lib.hid True.intro
        obtain ⟨e0, e1, e2, e3⟩ := Fs.out.cells
        go_region_held3 (fun w' => w'.cell? ⟨w.heap.size, 0, none⟩ = some (.slice an ln cn) ∧ w'.cell? ⟨w.heap.size, 1, none⟩ = some (.slice ar lr cr) ∧ w'.cell? ⟨w.heap.size + 1, 0, none⟩ = some (.slice bn mn dn) ∧ w'.cell? ⟨w.heap.size + 1, 1, none⟩ = some (.slice br mr dr)) (first | exact (LC0.out.later BS.out).cells | exact (LC0.out.later (BS.out.alloc BS.out.size _)).cells | exact (LC0.out.later (below_eq (BS.out.alloc BS.out.size _) rfl rfl rfl rfl)).cells | exact (LC0.out.later (below_eq ((BS.out.setCell (p := ⟨_, 0, none⟩) XS.out _).setCell (p := ⟨_, 1, none⟩) XS.out _) rfl rfl rfl rfl)).cells) (first
          | (go_at_call 7; have qq := N4; refine (KOA.out _ (LC0.out.later BS.out)).mono ?_; rintro e wn ⟨⟨z1a, z1b, z1c, z1d, z1e, z1f, z1g, z1h⟩, rfl, hU, hB⟩; simp only [Tb.val]; have Z1 := Lib.hid hU; replace BS := Lib.hid (BS.out.trans (hB.mono BS.out.size)); (try (replace HX := Lib.hid ((hB.block _ (blk_lt HX.out)).trans HX.out))); clear hU hB N4 qq)
          | (go_at_call 7; have qq := N4; refine (KOA.out _ (LC0.out.later (BS.out.alloc BS.out.size _))).mono ?_; rintro e wn ⟨⟨z1a, z1b, z1c, z1d, z1e, z1f, z1g, z1h⟩, rfl, hU, hB⟩; simp only [Tb.val]; have Z1 := Lib.hid hU; have XS := Lib.hid BS.out.size; have HX := Lib.hid ((hB.block _ (by simp)).trans (World.alloc_heap_new _ _)); replace BS := Lib.hid ((BS.out.alloc BS.out.size _).trans (hB.mono (BS.out.alloc BS.out.size _).size)); clear hU hB N4 qq)
          | (go_at_call 7; have qq := N5; refine (KOB.out _ (LC0.out.later BS.out)).mono ?_; rintro e wn ⟨⟨z2a, z2b, z2c, z2d, z2e, z2f, z2g, z2h⟩, rfl, hU, hB⟩; simp only [Tb.val]; have Z2 := Lib.hid hU; replace BS := Lib.hid (BS.out.trans (hB.mono BS.out.size)); replace Z1 := Lib.hid (Z1.out.later hB); (try (replace HX := Lib.hid ((hB.block _ (blk_lt HX.out)).trans HX.out))); clear hU hB N5 qq)
          | (go_at_call 7; have qq := N5; refine (KOB.out _ (LC0.out.later (BS.out.alloc BS.out.size _))).mono ?_; rintro e wn ⟨⟨z2a, z2b, z2c, z2d, z2e, z2f, z2g, z2h⟩, rfl, hU, hB⟩; simp only [Tb.val]; have Z2 := Lib.hid hU; have XS := Lib.hid BS.out.size; have HX := Lib.hid ((hB.block _ (by simp)).trans (World.alloc_heap_new _ _)); replace BS := Lib.hid ((BS.out.alloc BS.out.size _).trans (hB.mono (BS.out.alloc BS.out.size _).size)); replace Z1 := Lib.hid ((Z1.out.later (below_al _ _)).later hB); clear hU hB N5 qq)
          | (go_at_call 8; have qq := N6; refine (KOV.out _ _ _ Z1.out Z2.out).mono ?_; rintro e wo ⟨⟨oa, ob, oc, od, oe, of, og, oh⟩, rfl, hU, hB⟩; simp only [Tb.val]; have XO := Lib.hid hU; replace BS := Lib.hid (BS.out.trans (hB.mono BS.out.size)); (try (have XL := Lib.hid (blk_lt HX.out); replace HX := Lib.hid ((hB.block _ (blk_lt HX.out)).trans HX.out); obtain ⟨i0, i1, i2, i3⟩ := box_all2 HX.out)); (try (change wo.cell? ⟨wS.heap.size, 0, none⟩ = _ at i0; change wo.cell? ⟨wS.heap.size, 1, none⟩ = _ at i1; change wo.frozen? ⟨wS.heap.size, 0, none⟩ = _ at i2; change wo.frozen? ⟨wS.heap.size, 1, none⟩ = _ at i3)); clear hU hB N6 qq)
          | (go_at_call 8; have qq := N6; refine (KOV.out _ _ _ (Z1.out.later (below_al _ _)) (Z2.out.later (below_al _ _))).mono ?_; rintro e wo ⟨⟨oa, ob, oc, od, oe, of, og, oh⟩, rfl, hU, hB⟩; simp only [Tb.val]; have XO := Lib.hid hU; have XX := sy_box BS.out hB; have XS := Lib.hid XX.1; have XL := Lib.hid XX.2.1; have HX := Lib.hid XX.2.2.1; replace BS := Lib.hid XX.2.2.2; clear XX; obtain ⟨i0, i1, i2, i3⟩ := box_all2 HX.out; clear hU hB N6 qq))
        all_goals
          go_wp2
          go_meet
          case rel => first
            | exact ⟨_, ⟨oa, ob, oc, od, oe, of, og, oh⟩, rfl, rfl, syR_last LC0.out BS.out XO.out rfl rfl rfl rfl⟩
            | exact ⟨_, ⟨oa, ob, oc, od, oe, of, og, oh⟩, rfl, rfl, syR_first LC0.out BS.out XO.out GOV.out HX.out XS.out XL.out rfl rfl rfl rfl⟩
      case rest =>
        obtain ⟨bx, o, rfl, rfl, hD⟩ := hcut
        have FD := Lib.hid hD.out.1
        clear hD
        go_wp2
        go_ret
        exact ⟨rfl, FD.out.bel⟩
  · have v0 : (Va == 0) = false := by rw [beq_eq_false_iff_ne]; exact hva
    have e9 : E = Va := by rw [HE.out, if_neg hva]
    subst e9
    clear HE
    have PV := Lib.hid True.intro
    have PO := Lib.hid True.intro
    go_enter Tryz.func3, Tryz.ntmps3
    go_upto_region 5 with (first
      | (go_at_call 5; have qq := PM; refine (KPL.out _).mono ?_; rintro e w1 ⟨⟨a1, n1, c1, s1, b1, m1, d1, q1⟩, rfl, hU, hB⟩; simp only [Tb.val]; have U1 := Lib.hid hU; replace Fs := Lib.hid (Fs.out.later hB); clear hU hB PM qq)
      | (go_at_call 4; refine (KB.out _ _ U1.out Fs.out.bel).mono ?_; rintro e w2 ⟨rfl, hB⟩; replace Fs := Lib.hid (Fs.out.later hB); obtain ⟨e0, e1, e2, e3⟩ := Fs.out.cells; clear hB)
      | (go_at_call 7; have qq := PN; refine (KOA.out _ Fs.out).mono ?_; rintro e w3 ⟨⟨a3, n3, c3, s3, b3, m3, d3, q3⟩, rfl, hU, hB⟩; simp only [Tb.val]; have U3 := Lib.hid hU; replace Fs := Lib.hid (Fs.out.later hB); clear hU hB PN qq)
      | (go_at_call 6; have qq := PV; refine (KVA.out _ _ U3.out).mono ?_; rintro e w4 ⟨rfl, hB⟩; replace Fs := Lib.hid (Fs.out.later hB); obtain ⟨f0, f1, f2, f3⟩ := Fs.out.cells; clear hB PV qq))
    clear e0 e1 e2 e3
    try clear f0 f1 f2 f3
    generalize w4 = wS at Fs ⊢
    go_cut [12, 13] (fun v f wx => ∃ (bx : Nat) (o : Tb), v = .pointer (some ⟨bx, 0, none⟩) ∧ f = .int .i64 E ∧ RowKit.Hid (SyR E w wx ⟨an, ln, cn, tss, ar, lr, cr, trs⟩ ⟨bn, mn, dn, uss, br, mr, dr, urs⟩ o bx (ovN tss uss) (ovR tss rsA uss rsB)))
    case first =>
      have LC0 := Lib.hid (Fs.out.later (Below.refl _ _).drew)
      have BS := Lib.hid (Below.refl wS.drew.heap.size wS.drew)
      have N4 := Lib.hid True.intro
      have N5 := Lib.hid True.intro
      have N6 := Lib.hid True.intro
      obtain ⟨e0, e1, e2, e3⟩ := Fs.out.cells
      go_region_held3 (fun w' => w'.cell? ⟨w.heap.size, 0, none⟩ = some (.slice an ln cn) ∧ w'.cell? ⟨w.heap.size, 1, none⟩ = some (.slice ar lr cr) ∧ w'.cell? ⟨w.heap.size + 1, 0, none⟩ = some (.slice bn mn dn) ∧ w'.cell? ⟨w.heap.size + 1, 1, none⟩ = some (.slice br mr dr)) (first | exact (LC0.out.later BS.out).cells | exact (LC0.out.later (BS.out.alloc BS.out.size _)).cells | exact (LC0.out.later (below_eq (BS.out.alloc BS.out.size _) rfl rfl rfl rfl)).cells | exact (LC0.out.later (below_eq ((BS.out.setCell (p := ⟨_, 0, none⟩) XS.out _).setCell (p := ⟨_, 1, none⟩) XS.out _) rfl rfl rfl rfl)).cells) (first
        | (go_at_call 7; have qq := N4; refine (KOA.out _ (LC0.out.later BS.out)).mono ?_; rintro e wn ⟨⟨z1a, z1b, z1c, z1d, z1e, z1f, z1g, z1h⟩, rfl, hU, hB⟩; simp only [Tb.val]; have Z1 := Lib.hid hU; replace BS := Lib.hid (BS.out.trans (hB.mono BS.out.size)); (try (replace HX := Lib.hid ((hB.block _ (blk_lt HX.out)).trans HX.out))); clear hU hB N4 qq)
        | (go_at_call 7; have qq := N4; refine (KOA.out _ (LC0.out.later (BS.out.alloc BS.out.size _))).mono ?_; rintro e wn ⟨⟨z1a, z1b, z1c, z1d, z1e, z1f, z1g, z1h⟩, rfl, hU, hB⟩; simp only [Tb.val]; have Z1 := Lib.hid hU; have XS := Lib.hid BS.out.size; have HX := Lib.hid ((hB.block _ (by simp)).trans (World.alloc_heap_new _ _)); replace BS := Lib.hid ((BS.out.alloc BS.out.size _).trans (hB.mono (BS.out.alloc BS.out.size _).size)); clear hU hB N4 qq)
        | (go_at_call 7; have qq := N5; refine (KOB.out _ (LC0.out.later BS.out)).mono ?_; rintro e wn ⟨⟨z2a, z2b, z2c, z2d, z2e, z2f, z2g, z2h⟩, rfl, hU, hB⟩; simp only [Tb.val]; have Z2 := Lib.hid hU; replace BS := Lib.hid (BS.out.trans (hB.mono BS.out.size)); replace Z1 := Lib.hid (Z1.out.later hB); (try (replace HX := Lib.hid ((hB.block _ (blk_lt HX.out)).trans HX.out))); clear hU hB N5 qq)
        | (go_at_call 7; have qq := N5; refine (KOB.out _ (LC0.out.later (BS.out.alloc BS.out.size _))).mono ?_; rintro e wn ⟨⟨z2a, z2b, z2c, z2d, z2e, z2f, z2g, z2h⟩, rfl, hU, hB⟩; simp only [Tb.val]; have Z2 := Lib.hid hU; have XS := Lib.hid BS.out.size; have HX := Lib.hid ((hB.block _ (by simp)).trans (World.alloc_heap_new _ _)); replace BS := Lib.hid ((BS.out.alloc BS.out.size _).trans (hB.mono (BS.out.alloc BS.out.size _).size)); replace Z1 := Lib.hid ((Z1.out.later (below_al _ _)).later hB); clear hU hB N5 qq)
        | (go_at_call 8; have qq := N6; refine (KOV.out _ _ _ Z1.out Z2.out).mono ?_; rintro e wo ⟨⟨oa, ob, oc, od, oe, of, og, oh⟩, rfl, hU, hB⟩; simp only [Tb.val]; have XO := Lib.hid hU; replace BS := Lib.hid (BS.out.trans (hB.mono BS.out.size)); (try (have XL := Lib.hid (blk_lt HX.out); replace HX := Lib.hid ((hB.block _ (blk_lt HX.out)).trans HX.out); obtain ⟨i0, i1, i2, i3⟩ := box_all2 HX.out)); (try (change wo.cell? ⟨wS.heap.size, 0, none⟩ = _ at i0; change wo.cell? ⟨wS.heap.size, 1, none⟩ = _ at i1; change wo.frozen? ⟨wS.heap.size, 0, none⟩ = _ at i2; change wo.frozen? ⟨wS.heap.size, 1, none⟩ = _ at i3)); clear hU hB N6 qq)
        | (go_at_call 8; have qq := N6; refine (KOV.out _ _ _ (Z1.out.later (below_al _ _)) (Z2.out.later (below_al _ _))).mono ?_; rintro e wo ⟨⟨oa, ob, oc, od, oe, of, og, oh⟩, rfl, hU, hB⟩; simp only [Tb.val]; have XO := Lib.hid hU; have XX := sy_box BS.out hB; have XS := Lib.hid XX.1; have XL := Lib.hid XX.2.1; have HX := Lib.hid XX.2.2.1; replace BS := Lib.hid XX.2.2.2; clear XX; obtain ⟨i0, i1, i2, i3⟩ := box_all2 HX.out; clear hU hB N6 qq))
      all_goals
        go_wp2
        go_meet
        case rel => first
          | exact ⟨_, ⟨oa, ob, oc, od, oe, of, og, oh⟩, rfl, rfl, syR_last LC0.out BS.out XO.out rfl rfl rfl rfl⟩
          | exact ⟨_, ⟨oa, ob, oc, od, oe, of, og, oh⟩, rfl, rfl, syR_first LC0.out BS.out XO.out GOV.out HX.out XS.out XL.out rfl rfl rfl rfl⟩
    case rest =>
      obtain ⟨bx, o, rfl, rfl, hD⟩ := hcut
      have FD := Lib.hid hD.out.1
      clear hD
      go_wp2
      go_ret
      refine ⟨?_, FD.out.bel⟩
      simp
      exact hva
end Go.Proofs.YtajocakmmgpoaaaGreatDoor
