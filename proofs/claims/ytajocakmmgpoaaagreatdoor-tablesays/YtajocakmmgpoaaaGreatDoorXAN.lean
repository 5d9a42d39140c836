import Derived.Test.YtajocakmmgpoaaaGreatDoorXAM
namespace Go.Proofs.YtajocakmmgpoaaaGreatDoor
open Go.RowKit
set_option linter.unusedVariables false
set_option linter.unusedSimpArgs false

theorem printI_any (t : Tb) (ss : List ByteArray) (rs : List (List Cl)) (w : World) (h : TbIs w t ss rs) (ht : Pows w) :
    Calls Tryz.prog 12 #[t.val] w fun e w' => PrT ss rs e ∧ Below w.heap.size w w' := by
  have := printT_any t.an t.ar t.ln t.cn t.lr t.cr t.ss t.rs w h.nl h.rl ht
  rw [h.ns, h.rs] at this
  exact this
theorem validI_any (t : Tb) (ss : List ByteArray) (rs : List (List Cl)) (w : World) (h : TbIs w t ss rs) :
    Calls Tryz.prog 6 #[t.val] w fun e w' => e = .returned (.int .i64 (validE ss rs)) ∧ Below w.heap.size w w' := by
  have := validT_any t.an t.ar t.ln t.cn t.lr t.cr t.ss t.rs w h.nl h.rl
  rw [h.ns, h.rs] at this
  exact this
theorem print_good {ss : List ByteArray} {rs : List (List Cl)} (h : validE ss rs = 0) (hl : (textT ss rs rs.length).length ≤ 1048576) {e : Ending} (k : PrT ss rs e) : e = .returned (.tuple #[.string (sOf (textT ss rs rs.length)), .int .i64 0]) := by
  rcases k with ⟨a, _⟩ | ⟨_, b, _⟩ | ⟨_, _, c⟩
  · exact absurd h a
  · omega
  · exact c
theorem text_ne (ss : List ByteArray) (rs : List (List Cl)) (k : Nat) : 1 ≤ (sOf (textT ss rs k)).size := by
  rw [sOf_size]
  unfold textT
  simp
  omega
theorem box_new2 {w W : World} {u v : Value} {t : TypeId} (b : Below (w.alloc (.cells #[u, v] t)).heap.size (w.alloc (.cells #[u, v] t)) W) : W.cell? ⟨w.heap.size, 0, none⟩ = some u ∧ W.cell? ⟨w.heap.size, 1, none⟩ = some v := by
  have := box_all2 ((b.block w.heap.size (by simp)).trans (World.alloc_heap_new w (.cells #[u, v] t)))
  exact ⟨this.1, this.2.1⟩
/-- All that a table's law leans on. -/
structure Grd (w : World) : Prop where
  bh : Bh w
  po : Pows w
  ev : Ev w
theorem Grd.later {w w' : World} (h : Grd w) (b : Below w.heap.size w w') : Grd w' := ⟨h.bh.later b, pows_below h.po b, ev_below h.ev b⟩
set_option maxRecDepth 100000 in
set_option maxHeartbeats 8000000 in
theorem back_any (t : Tb) (ss : List ByteArray) (rs : List (List Cl)) (w : World) (h : TbIs w t ss rs) (g : Gd ss rs) (hl : (textT ss rs rs.length).length ≤ 1048576) (G : Grd w) :
    Calls Tryz.prog 4 #[t.val] w fun e w' => e = .returned (.bool true) ∧ Below w.heap.size w w' := by
  have V0 := valid_gd g
  have X1 := text_ne ss rs rs.length
  have X2 := parse_back g hl
  have X3 : (sOf (textT ss rs rs.length)).size ≤ 1048576 := by rw [sOf_size]; exact hl
  have KP := Lib.hid (p := ∀ (W : World) (u : Tb), TbIs W u ss rs → Below w.heap.size w W → Calls Tryz.prog 12 #[u.val] W fun e w' => e = .returned (.tuple #[.string (sOf (textT ss rs rs.length)), .int .i64 0]) ∧ Below W.heap.size W w') (fun W u hu b => by
    refine (printI_any u ss rs W hu (G.later b).po).mono ?_
    rintro e w' ⟨h1, h2⟩
    exact ⟨print_good V0 hl h1, h2⟩)
  have KQ := Lib.hid (p := ∀ (W : World), Below w.heap.size w W → Calls Tryz.prog 13 #[.string (sOf (textT ss rs rs.length))] W fun e w' => ∃ u : Tb, e = .returned (.tuple #[u.val, .int .i64 0, .int .i64 0]) ∧ TbIs w' u ss rs ∧ Below W.heap.size W w') (fun W b => by
    refine (parseT_any (sOf (textT ss rs rs.length)) W (G.later b).po (G.later b).ev).mono ?_
    rintro e w' ⟨u, h1, h2, h3⟩
    rw [X2] at h1 h2
    exact ⟨u, h1, h2.is, h3⟩)
  have KV := Lib.hid (p := ∀ (W : World) (u : Tb), TbIs W u ss rs → Calls Tryz.prog 6 #[u.val] W fun e w' => e = .returned (.int .i64 0) ∧ Below W.heap.size W w') (fun W u hu => by
    have := validI_any u ss rs W hu
    rwa [V0] at this)
  have KS := Lib.hid (fun (W : World) (u v : Tb) (hu : TbIs W u ss rs) (hv : TbIs W v ss rs) => sameT_any u v ss rs W hu hv)
  have xe := isEmpty_no X1
  have x5 : ¬ (1048576 : Int) < ((sOf (textT ss rs rs.length)).size : Int) := by omega
  generalize sOf (textT ss rs rs.length) = x at *
  obtain ⟨an, ln, cn, tss, ar, lr, cr, trs⟩ := t
  have B0 := Lib.hid ((Below.refl w.heap.size w).alloc (Nat.le_refl _) (.cells #[.slice an ln cn, .slice ar lr cr] 25))
  have T0 := Lib.hid h
  have K1 := Lib.hid (ownT_any _ ss rs _ (h.later B0.out) (G.later B0.out).bh)
  have PM := Lib.hid True.intro
  clear h g hl G V0 X1 X2 X3
  show Calls Tryz.prog 4 #[.agg #[.slice an ln cn, .slice ar lr cr]] w _
  go_enter Tryz.func4, Tryz.ntmps4
  go_wp2_with (first
    | (go_at_call 7; refine K1.out.mono ?_; rintro e w1 ⟨⟨a1, n1, c1, s1, b1, m1, d1, q1⟩, rfl, hU, hB⟩; simp only [Tb.val]; have U1 := Lib.hid hU; have B1 := Lib.hid hB; have E1 := Lib.hid (B0.out.trans (hB.mono B0.out.size)); clear hU hB)
    | (go_at_call 12; have qq := PM; refine (KP.out _ _ U1.out E1.out).mono ?_; rintro e w2 ⟨rfl, hB⟩; have B2 := Lib.hid (B1.out.trans (hB.mono B1.out.size)); have E2 := Lib.hid (E1.out.trans (hB.mono E1.out.size)); clear hB PM qq)
    | (go_at_call 13; refine (KQ.out _ E2.out).mono ?_; rintro e w3 ⟨⟨a3, n3, c3, s3, b3, m3, d3, q3⟩, rfl, hU, hB⟩; simp only [Tb.val]; have A3 := Lib.hid ((Below.refl w3.heap.size w3).alloc (Nat.le_refl _) (.cells #[.slice a3 n3 c3, .slice b3 m3 d3] 25)); have U3 := Lib.hid (hU.later A3.out); have B3 := Lib.hid (B2.out.trans (hB.mono B2.out.size)); have F3 := Lib.hid (B3.out.trans (A3.out.mono B3.out.size)); have E3 := Lib.hid ((E2.out.trans (hB.mono E2.out.size)).trans (A3.out.mono (E2.out.trans (hB.mono E2.out.size)).size)); obtain ⟨y0, y1⟩ := box_new2 F3.out; clear hU hB)
    | (go_at_call 14; refine (KS.out _ _ _ U3.out (T0.out.later E3.out)).mono ?_; rintro e w4 ⟨rfl, hB⟩; have U4 := Lib.hid (U3.out.later hB); have D4 := Lib.hid hB; have E4 := Lib.hid (E3.out.trans (hB.mono E3.out.size)); obtain ⟨z0, z1⟩ := box_new2 hB; clear hB)
    | (go_at_call 6; refine (KV.out _ _ U4.out).mono ?_; rintro e w5 ⟨rfl, hB⟩; have U5 := Lib.hid (U4.out.later hB); have E5 := Lib.hid (E4.out.trans (hB.mono E4.out.size)); obtain ⟨x0, x1⟩ := box_new2 (D4.out.trans (hB.mono D4.out.size)); clear hB)
    | (go_at_call 12; have qq := U5; refine (KP.out _ _ U5.out E5.out).mono ?_; rintro e w6 ⟨rfl, hB⟩; have E6 := Lib.hid (E5.out.trans (hB.mono E5.out.size)); clear hB qq))
  go_ret
  exact ⟨rfl, E6.out⟩
end Go.Proofs.YtajocakmmgpoaaaGreatDoor

namespace Go.Proofs.YtajocakmmgpoaaaGreatDoor
open Go.RowKit
set_option linter.unusedVariables false
set_option linter.unusedSimpArgs false

/-- A list of m rows, the first ones made. -/
structure MkR (W : World) (B rb m : Nat) (qs : List Rw) : Prop where
  hb : W.heap[rb]? = some (.cells (qs.map qv ++ List.replicate (m - qs.length) (Value.slice none 0 0)).toArray 50)
  le : qs.length ≤ m
  ok : ∀ q ∈ qs, qOk W B q
  bl : B ≤ rb
theorem MkR.below {W W' : World} {B rb m : Nat} {qs : List Rw} (h : MkR W B rb m qs) (b : Below W.heap.size W W') : MkR W' B rb m qs :=
  ⟨(b.block rb (blk_lt h.hb)).trans h.hb, h.le, fun q hq => (h.ok q hq).stay (fun z cs hz => b.block z (blk_lt hz)), h.bl⟩
theorem MkR.cell {W : World} {B rb m : Nat} {qs : List Rw} (h : MkR W B rb m qs) (k : Nat) (hk : qs.length = k) (hm : k < m) : W.cell? ⟨rb, k, none⟩ = some (.slice none 0 0) ∧ W.frozen? ⟨rb, k, none⟩ = false := by
  refine ⟨?_, Joins.unfrozen_of_block h.hb _⟩
  rw [Joins.cell_of_block h.hb]
  subst hk
  rw [List.getElem?_toArray, List.getElem?_append_right (by simp), List.length_map, Nat.sub_self, List.getElem?_replicate, if_pos (by omega)]
theorem MkR.push {W V : World} {B rb m k z n : Nat} {qs : List Rw} {r : List Cl} (h : MkR W B rb m qs) (hk : qs.length = k) (hm : k < m) (b : Below W.heap.size W V) (hz : V.heap[z]? = some (.cells (clv r).toArray 34)) (hB : B ≤ z) (hn : r.length = n) :
    MkR (V.setCell ⟨rb, k, none⟩ (.slice (some ⟨z, 0, none⟩) n n)) B rb m (qs ++ [⟨some ⟨z, 0, none⟩, n, n, r⟩]) := by
  have h2 := h.below b
  have e := Joins.block_setCell (i := k) h2.hb (.slice (some ⟨z, 0, none⟩) n n)
  have st : ∀ (y : Nat) (cs : Array Value), V.heap[y]? = some (.cells cs 34) → (V.setCell ⟨rb, k, none⟩ (.slice (some ⟨z, 0, none⟩) n n)).heap[y]? = V.heap[y]? := fun y cs hy => (grT_set V rb k _).block y (blk_lt hy) (by have := blk_ty hy h2.hb (by decide); simpa using this)
  refine ⟨e.trans ?_, by simp; omega, fun q hq => ?_, h.bl⟩
  · congr 2
    rw [List.setIfInBounds_toArray]
    refine congrArg List.toArray ?_
    subst hk
    rw [List.set_append_right _ _ (by simp), List.length_map, Nat.sub_self, List.map_append]
    rw [show m - qs.length = (m - (qs ++ [(⟨some ⟨z, 0, none⟩, n, n, r⟩ : Rw)]).length) + 1 by simp; omega, List.replicate_succ]
    simp [qv]
  · rcases List.mem_append.1 hq with hq | hq
    · exact (h2.ok q hq).stay st
    · rw [List.mem_singleton.1 hq]
      exact qOk.stay (W := V) ⟨z, rfl, hB, hn.symm, hn.symm, hz⟩ st
theorem MkR.own {W : World} {B rb m : Nat} {qs : List Rw} (h : MkR W B rb m qs) (hm : qs.length = m) (h2 : m ≤ maxLen) : RwO W B (.slice (some ⟨rb, 0, none⟩) m m) qs := by
  have hb := h.hb
  rw [hm, Nat.sub_self, List.replicate_zero, List.append_nil] at hb
  refine ⟨⟨by simp, .inr ⟨rb, m, _, by rw [hm], h.bl, hb, by omega, h2, by simp [hm], by simp; rw [List.take_of_length_le (by simp [hm])]⟩⟩, h.ok⟩
theorem make_rowsN (n : Nat) (hn : n ≤ 5864062014640) (W : World) : (Instr.makeSlice 23 (.int .i64 (n : Int)) (.int .i64 (n : Int))).run Tryz.prog W = .ok (.slice (some ⟨W.heap.size, 0, none⟩) n n) (W.alloc (.cells (List.replicate n (.slice none 0 0)).toArray 50)) := by
  obtain ⟨i0, hi, hz0, hz1, hz2⟩ := info_parts infoR
  have := run_make (P := Tryz.prog) W 23 50 i0 _ Tryz.underlying23 hi hz0 .i64 .i64 n n (by omega) (by omega) (by rw [hz2]; omega) (by omega)
  rw [hz1] at this
  have e : madeCells (Value.slice none 0 0).cells (n * 1) = (List.replicate n (.slice none 0 0)).toArray := by
    rw [Nat.mul_one]
    apply Array.ext
    · simp [madeCells]
    · intro i h1 h2
      simp [madeCells, Value.cells, Nat.mod_one]
  simp only [Int.toNat_natCast] at this
  rw [e] at this
  exact this
theorem mkR_new (w : World) (B m : Nat) (hB : B ≤ w.heap.size) : MkR (w.alloc (.cells (List.replicate m (.slice none 0 0)).toArray 50)) B w.heap.size m [] :=
  ⟨by rw [World.alloc_heap_new]; simp, Nat.zero_le _, (fun q h => by cases h), hB⟩
/-- slices.Clone of names. -/
theorem cloneN_any (a : Option Addr) (n c : Nat) (ss : List ByteArray) (w : World) (h : NL w a n ss) (hn : a = none → n = 0 ∧ c = 0) :
    Calls Tryz.prog 21 #[.slice a n c] w fun e w' => ∃ b m d, e = .returned (.slice b m d) ∧ w'.ownsRow w.heap.size 9 1 (.slice b m d) n (ss.map Value.string) ∧ Below w.heap.size w w' := by
  obtain ⟨h1, h2, h3, h4⟩ := h
  cases a with
  | none =>
    obtain ⟨rfl, rfl⟩ := hn rfl
    have : ss = [] := List.length_eq_zero_iff.1 h1
    subst this
    refine (Tryz.slices_Clone_string_nil 0 0 w).mono ?_
    rintro e w' ⟨rfl, rfl⟩
    exact ⟨none, 0, 0, rfl, World.ownsRow_nil _ _ _ _, Below.refl _ _⟩
  | some x =>
    rcases h4 with h4 | ⟨b, o, hb, _, hc⟩
    · subst h4
      have : ss = [] := List.length_eq_zero_iff.1 h1
      subst this
      refine (Tryz.slices_Clone_string_zero x c w).mono ?_
      rintro e w' ⟨v, rfl, o, _, b⟩
      obtain ⟨a2, c2, rfl⟩ := rowL_form o
      exact ⟨a2, _, c2, rfl, o, b⟩
    · injection hb with hb
      subst hb
      refine (Tryz.slices_Clone_string b o n c ss w (by omega) (by omega) (fun j hj => by
        rw [hc j (by omega)]
        simp only [List.getD]
        rw [List.getElem?_eq_getElem hj]
        rfl)).mono ?_
      rintro e w' ⟨v, rfl, o, _, b⟩
      rw [List.take_of_length_le (by omega)] at o
      obtain ⟨a2, c2, rfl⟩ := rowL_form o
      exact ⟨a2, _, c2, rfl, o, b⟩
end Go.Proofs.YtajocakmmgpoaaaGreatDoor

namespace Go.Proofs.YtajocakmmgpoaaaGreatDoor
open Go.RowKit
set_option linter.unusedVariables false
set_option linter.unusedSimpArgs false

/-- What Cut answers. -/
def cutE (ss : List ByteArray) (rs : List (List Cl)) (k : Int) : Int := if k < 0 then 1 else validE ss rs
/-- A table that was handed out, and what it says; nothing, if there is an error. -/
def TabE (ss : List ByteArray) (rs : List (List Cl)) (E : Int) (w : World) (e : Ending) (w' : World) : Prop :=
  ∃ u : Tb, e = .returned (.tuple #[u.val, .int .i64 E]) ∧ TbIs w' u (if E = 0 then ss else []) (if E = 0 then rs else []) ∧ Below w.heap.size w w'
theorem tabE_nil {ss : List ByteArray} {rs : List (List Cl)} {E : Int} {w w' : World} (h : ¬ E = 0) (b : Below w.heap.size w w') : TabE ss rs E w (.returned (.tuple #[.agg #[.slice none 0 0, .slice none 0 0], .int .i64 E])) w' := by
  refine ⟨nilT, rfl, ?_, b⟩
  rw [if_neg h, if_neg h]
  exact (psT_nil 0 w' 0 0).is
theorem two_boxes (w : World) (u v x y : Value) (t : TypeId) : Below w.heap.size w ((w.alloc (.cells #[u, v] t)).alloc (.cells #[x, y] t)) := ((Below.refl _ w).alloc (Nat.le_refl _) _).alloc (by simp) _
theorem two_cells {w W : World} {u v x y : Value} {t : TypeId} (b : Below ((w.alloc (.cells #[u, v] t)).alloc (.cells #[x, y] t)).heap.size ((w.alloc (.cells #[u, v] t)).alloc (.cells #[x, y] t)) W) :
    W.heap[w.heap.size]? = some (.cells #[u, v] t) ∧ W.heap[w.heap.size + 1]? = some (.cells #[x, y] t) := by
  refine ⟨(b.block _ (by simp; omega)).trans ((Below.heap_alloc _ _ _ (by simp)).trans (World.alloc_heap_new w _)), (b.block _ (by simp)).trans ?_⟩
  have := World.alloc_heap_new (w.alloc (.cells #[u, v] t)) (.cells #[x, y] t)
  rwa [World.size_alloc] at this
theorem below_eq {B : Nat} {a U V : World} (h : Below B a U) (h1 : V.os = U.os) (h2 : V.tape = U.tape) (h3 : V.output = U.output) (h4 : V.heap = U.heap) : Below B a V :=
  ⟨h1.trans h.os, h2.trans h.tape, h3.trans h.output, by rw [h4]; exact h.size, fun k hk => by rw [h4]; exact h.block k hk⟩
set_option maxRecDepth 100000 in
set_option maxHeartbeats 8000000 in
theorem cut_any (t : Tb) (ss : List ByteArray) (rs : List (List Cl)) (k : Int) (w : World) (h : TbIs w t ss rs) (hk : k ≤ 9223372036854775807) :
    Calls Tryz.prog 10 #[t.val, .int .i64 k] w fun e w' => TabE ss (rs.take k.toNat) (cutE ss rs k) w e w' := by
  obtain ⟨E, hE⟩ : ∃ E, cutE ss rs k = E := ⟨_, rfl⟩
  rw [hE]
  have KV := Lib.hid (fun (W : World) (b : Below w.heap.size w W) => validI_any t ss rs W (h.later b))
  have hlr := (tb_lens h).2
  have hln := (tb_lens h).1
  obtain ⟨an, ln, cn, tss, ar, lr, cr, trs⟩ := t
  have B0 := Lib.hid (two_boxes w (.slice an ln cn) (.slice ar lr cr) (.slice none 0 0) (.slice none 0 0) 25)
  have CE := Lib.hid (fun W (b : Below ((w.alloc (.cells #[.slice an ln cn, .slice ar lr cr] 25)).alloc (.cells #[.slice none 0 0, .slice none 0 0] 25)).heap.size ((w.alloc (.cells #[.slice an ln cn, .slice ar lr cr] 25)).alloc (.cells #[.slice none 0 0, .slice none 0 0] 25)) W) => two_cells b)
  have D0 := Lib.hid (Below.refl ((w.alloc (.cells #[.slice an ln cn, .slice ar lr cr] 25)).alloc (.cells #[.slice none 0 0, .slice none 0 0] 25)).heap.size ((w.alloc (.cells #[.slice an ln cn, .slice ar lr cr] 25)).alloc (.cells #[.slice none 0 0, .slice none 0 0] 25)))
  show Calls Tryz.prog 10 #[.agg #[.slice an ln cn, .slice ar lr cr], .int .i64 k] w _
  by_cases h0 : k < 0
  · have e0 : E = 1 := by rw [← hE]; unfold cutE; rw [if_pos h0]
    subst e0
    have Q := Lib.hid (p := ∀ w', Below w.heap.size w w' → TabE ss (rs.take k.toNat) 1 w (.returned (.tuple #[.agg #[.slice none 0 0, .slice none 0 0], .int .i64 1])) w') (fun w' b => tabE_nil (by omega) b)
    obtain ⟨_, b1⟩ := CE.out _ D0.out
    obtain ⟨r0, r1, _, _⟩ := box_all2 b1
    clear h hE hlr hln b1
    go_enter Tryz.func10, Tryz.ntmps10
    go_wp2
    refine bodyPost_ret (v := .tuple #[.agg #[.slice none 0 0, .slice none 0 0], .int .i64 1]) (by simp [results, Tryz.results10, go_sem, r0, r1]) rfl ?_
    exact Q.out _ B0.out
  · have e0 : E = validE ss rs := by rw [← hE]; unfold cutE; rw [if_neg h0]
    by_cases hv : validE ss rs = 0
    · obtain ⟨v1, v2, v3, v4⟩ := valid_out hv
      rw [hv] at KV e0
      subst e0
      have HH := Lib.hid h
      obtain ⟨m, hm⟩ : ∃ m : Nat, min k (lr : Int) = (m : Int) := ⟨(min k (lr : Int)).toNat, by omega⟩
      have ml : m ≤ lr := by omega
      have hm4 : m ≤ 4096 := by simp only at hlr; omega
      have HT := Lib.hid (p := rs.take k.toNat = rs.take m) (by
        simp only at hlr
        rcases Int.le_total k (lr : Int) with z | z
        · rw [show k.toNat = m by omega]
        · rw [List.take_of_length_le (by omega), List.take_of_length_le (by omega)])
      have hmk := make_rowsN m (by omega)
      have GET := Lib.hid (p := ∀ d, d < lr → trs.getD d default ∈ trs ∧ (trs.getD d default).cs = rs.getD d [] ∧ (trs.getD d default).n = ln) (fun d hd => by
        have hd' : d < trs.length := by rw [h.rl.1]; exact hd
        have em : trs.getD d default = trs[d] := by simp [List.getD, hd']
        have e2 : (trs.getD d default).cs = rs.getD d [] := by
          rw [em, ← h.rs]
          simp [List.getD, hd']
        have mem : trs.getD d default ∈ trs := by rw [em]; exact List.getElem_mem hd'
        refine ⟨mem, e2, ?_⟩
        rw [← (h.rl.2.2.1 _ mem).1.1, e2, v4 _ (by
          have hd2 : d < rs.length := by simp only at hlr; omega
          rw [show rs.getD d [] = rs[d] by simp [List.getD, hd2]]
          exact List.getElem_mem hd2)]
        simp only at hln
        omega)
      have KN := Lib.hid (fun (W : World) (b : Below w.heap.size w W) => cloneN_any an ln cn tss W (h.nl.later b) h.nn)
      have RLN := Lib.hid (p := rs.length = lr ∧ ln = ss.length ∧ tss = ss) ⟨hlr.symm, hln, h.ns⟩
      have GDH := Lib.hid (gd_valid hv (fun r hr c hc => by
        rw [← h.rs] at hr
        obtain ⟨q, hq, rfl⟩ := List.mem_map.1 hr
        exact (h.rl.2.2.1 q hq).1.2.2.1 c hc))
      clear h hE hlr hln v1 v2 v3 v4 hv
      obtain ⟨b0, b1⟩ := CE.out _ D0.out
      obtain ⟨c0, c1, _, _⟩ := box_all2 b0
      clear b0 b1
      go_enter Tryz.func10, Tryz.ntmps10
      go_wp2_with (go_at_call 6; refine (KV.out _ B0.out).mono ?_; rintro e w2 ⟨rfl, hB⟩; have D2 := Lib.hid hB; have E2 := Lib.hid (B0.out.trans (hB.mono B0.out.size)); obtain ⟨b0, b1⟩ := CE.out _ hB; obtain ⟨y0, y1, _, _⟩ := box_all2 b0; clear hB b0 b1)
      have S2 := Lib.hid (p := w.heap.size ≤ w2.heap.size) E2.out.size
      obtain ⟨rb, hrb⟩ : ∃ rb, w2.heap.size = rb := ⟨_, rfl⟩
      have HRB := Lib.hid hrb
      have M0 := Lib.hid (mkR_new w2 w.heap.size m E2.out.size)
      have A0 := Lib.hid (p := Below ((w.alloc (.cells #[.slice an ln cn, .slice ar lr cr] 25)).alloc (.cells #[.slice none 0 0, .slice none 0 0] 25)).heap.size ((w.alloc (.cells #[.slice an ln cn, .slice ar lr cr] 25)).alloc (.cells #[.slice none 0 0, .slice none 0 0] 25)) (w2.alloc (.cells (List.replicate m (.slice none 0 0)).toArray 50))) (D2.out.alloc D2.out.size _)
      have RBW := Lib.hid (p := ((w.alloc (.cells #[.slice an ln cn, .slice ar lr cr] 25)).alloc (.cells #[.slice none 0 0, .slice none 0 0] 25)).heap.size ≤ rb) (by rw [← hrb]; exact D2.out.size)
      rw [hrb] at M0
      rw [hrb]
      clear hrb y0 y1 c0 c1
      go_loopw [26] (fun t ws => ∃ (d : Nat) (qs : List Rw), d ≤ m ∧ t = .int .i64 (d : Int) ∧ RowKit.Hid (qs.length = d) ∧ RowKit.Hid (qs.map (·.cs) = rs.take d) ∧ MkR ws w.heap.size rb m qs ∧ Below ((w.alloc (.cells #[.slice an ln cn, .slice ar lr cr] 25)).alloc (.cells #[.slice none 0 0, .slice none 0 0] 25)).heap.size ((w.alloc (.cells #[.slice an ln cn, .slice ar lr cr] 25)).alloc (.cells #[.slice none 0 0, .slice none 0 0] 25)) ws) (fun t _ => m - (intOf t).toNat)
      case atStart => exact ⟨0, [], Nat.zero_le _, rfl, rfl, by show _ = _; simp, M0.out, A0.out⟩
      case round =>
        rename World => ws
        obtain ⟨d, qs, hd, rfl, hql, hqm, hM, hA⟩ := hrel
        have MM := Lib.hid hM
        have AA := Lib.hid hA
        have QL := Lib.hid hql.out
        have QM := Lib.hid hqm.out
        have ES := Lib.hid (B0.out.trans (hA.mono B0.out.size))
        obtain ⟨b0, b1⟩ := CE.out _ hA
        obtain ⟨c0, c1, _, _⟩ := box_all2 b0
        by_cases hlt : d < m
        · obtain ⟨mem, g1, g2⟩ := GET.out d (by omega)
          obtain ⟨x, o, rfl, hx, hcs⟩ : ∃ x o, ar = some ⟨x, o, none⟩ ∧ x < w.heap.size ∧ ∀ i, i < lr → w.cell? ⟨x, o + i, none⟩ = some (.slice (trs.getD i default).a (trs.getD i default).n (trs.getD i default).cap) := by
            rcases HH.out.rl.2.2.2 with z | z
            · simp only at z; omega
            · exact z
          have kc : (d : Int) < (m : Int) := by omega
          have l64 : ln ≤ 64 := by have := GDH.out.n64; have := RLN.out; omega
          have kl : (d : Int) < (lr : Int) := by omega
          have cr0 := (ES.out.cell (p := ⟨x, o + d, none⟩) hx).trans (hcs d (by omega))
          have RX := Lib.hid ((HH.out.rl.2.2.1 _ mem).1)
          have kw : IntKind.i64.wrap ((d : Int) + 1) = (d : Int) + 1 := by simp [IntKind.wrap, IntKind.bits, IntKind.signed]; omega
          have NXT := Lib.hid (p := ∀ a : Option Addr, (qs ++ [(⟨a, ln, ln, (trs.getD d default).cs.take ln ++ List.replicate (ln - (trs.getD d default).n) zCl⟩ : Rw)]).map (·.cs) = rs.take (d + 1)) (fun a => by
            have hd2 : d < rs.length := by have := RLN.out.1; omega
            rw [List.map_append, QM.out, List.take_add_one, List.getElem?_eq_getElem hd2]
            refine congrArg (rs.take d ++ ·) ?_
            have e1 : (trs.getD d default).cs.length = ln := by rw [RX.out.1]; exact g2
            simp only [List.map_cons, List.map_nil, Option.toList_some]
            rw [List.take_of_length_le (by omega), g2, Nat.sub_self, List.replicate_zero, List.append_nil, g1]
            simp [List.getD, hd2])
          have LNX := Lib.hid (p := ((trs.getD d default).cs.take ln ++ List.replicate (ln - (trs.getD d default).n) zCl).length = ln) (by
            have e1 : (trs.getD d default).cs.length = ln := by rw [RX.out.1]; exact g2
            rw [List.length_append, List.length_take, List.length_replicate, e1, g2]
            omega)
          clear hcs hM hA hql hqm b0 b1
          generalize trs.getD d default = r at *
          obtain ⟨ra, rn, rcap, rcs⟩ := r
          have g3 : ln = rn := g2.symm
          subst g3
          clear g1 g2 mem
          simp only at cr0 RX NXT LNX
          have NR := Lib.hid (newRow_any ra ln ln rcap rcs ws.drew (RX.out.later (ES.out.mono (Nat.le_refl _) |>.drew)) (by omega))
          obtain ⟨ZR, hZR⟩ : ∃ ZR, (clv (rcs.take ln ++ List.replicate (ln - ln) zCl)).toArray = ZR := ⟨_, rfl⟩
          rw [hZR] at NR
          have V1 := Lib.hid (p := Below ws.heap.size ws (ws.drew.alloc (.cells ZR 34))) (((Below.refl _ ws).drew).alloc (Nat.le_refl _) _)
          have P1 := Lib.hid (MM.out.push (z := ws.heap.size) (r := rcs.take ln ++ List.replicate (ln - ln) zCl) QL.out hlt V1.out (by rw [hZR]; exact World.alloc_heap_new ws.drew _) ES.out.size LNX.out)
          obtain ⟨k0, k1⟩ := (MM.out.below V1.out).cell d QL.out hlt
          have k0' : (ws.alloc (.cells ZR 34)).cell? ⟨rb, d, none⟩ = some (.slice none 0 0) := k0
          have k1' : (ws.alloc (.cells ZR 34)).frozen? ⟨rb, d, none⟩ = false := k1
          have A1 := Lib.hid (p := Below ((w.alloc (.cells #[.slice an ln cn, .slice (some ⟨x, o, none⟩) lr cr] 25)).alloc (.cells #[.slice none 0 0, .slice none 0 0] 25)).heap.size ((w.alloc (.cells #[.slice an ln cn, .slice (some ⟨x, o, none⟩) lr cr] 25)).alloc (.cells #[.slice none 0 0, .slice none 0 0] 25)) (ws.drew.alloc (.cells ZR 34))) (AA.out.trans (V1.out.mono AA.out.size))
          clear hZR k0 k1
          have SA := Lib.hid (p := (ws.drew.alloc (.cells ZR 34)).cell? ⟨w.heap.size, 0, none⟩ = some (.slice an ln cn) ∧ (ws.drew.alloc (.cells ZR 34)).cell? ⟨w.heap.size, 1, none⟩ = some (.slice (some ⟨x, o, none⟩) lr cr) ∧ (ws.drew.alloc (.cells ZR 34)).cell? ⟨x, o + d, none⟩ = some (.slice ra ln rcap)) ⟨(box_all2 (CE.out _ A1.out).1).1, (box_all2 (CE.out _ A1.out).1).2.1, (V1.out.cell (p := ⟨x, o + d, none⟩) (Nat.lt_of_lt_of_le hx ES.out.size)).trans cr0⟩
          have A2 := Lib.hid (A1.out.setCell (p := ⟨rb, d, none⟩) RBW.out (.slice (some ⟨ws.heap.size, 0, none⟩) ln ln))
          have SB := Lib.hid (p := ∀ W : World, W.heap = ((ws.drew.alloc (.cells ZR 34)).setCell ⟨rb, d, none⟩ (.slice (some ⟨ws.heap.size, 0, none⟩) ln ln)).heap → W.cell? ⟨w.heap.size, 0, none⟩ = some (.slice an ln cn) ∧ W.cell? ⟨w.heap.size, 1, none⟩ = some (.slice (some ⟨x, o, none⟩) lr cr) ∧ W.cell? ⟨x, o + d, none⟩ = some (.slice ra ln rcap)) (fun W hW => by
            have nx : ¬ rb = x := by have := RBW.out; simp at this; omega
            have hb := (CE.out _ A2.out).1
            have c3 : ((ws.drew.alloc (.cells ZR 34)).setCell ⟨rb, d, none⟩ (.slice (some ⟨ws.heap.size, 0, none⟩) ln ln)).cell? ⟨x, o + d, none⟩ = some (.slice ra ln rcap) := by
              rw [World.cell?_setCell_other _ _ _ _ (by simp [nx])]; exact SA.out.2.2
            unfold World.cell? at c3 ⊢
            rw [hW]
            refine ⟨?_, ?_, c3⟩
            · rw [hb]; rfl
            · rw [hb]; rfl)
          go_wp2
          go_region_held3 (fun w' => w'.cell? ⟨w.heap.size, 0, none⟩ = some (.slice an ln cn) ∧ w'.cell? ⟨w.heap.size, 1, none⟩ = some (.slice (some ⟨x, o, none⟩) lr cr) ∧ w'.cell? ⟨x, o + d, none⟩ = some (.slice ra ln rcap)) (first | exact SA.out | exact SB.out _ rfl | exact ⟨c0, c1, cr0⟩) (first | (go_at_call 23; refine NR.out.mono ?_; rintro e w9 ⟨rfl, rfl⟩))
          go_wp2
          go_roundw
          case rel => exact ⟨d + 1, _, by omega, by go_num, by show _ = d + 1; rw [List.length_append, QL.out]; rfl, NXT.out _, P1.out.below (below_eq (Below.refl _ _) rfl rfl rfl rfl), below_eq A2.out rfl rfl rfl rfl⟩
          case measure => simp [intOf]; omega
        · obtain rfl : d = m := by omega
          have kc : ¬ (d : Int) < (d : Int) := by omega
          have HB1 := Lib.hid b1
          obtain ⟨c2, c3, c4, c5⟩ := box_all2 b1
          clear hM hA hql hqm b0 b1
          go_wp2_with (go_at_call 21; refine (KN.out _ ES.out).mono ?_; rintro e w4 ⟨b4, m4, d4, rfl, hO, hB⟩; have O4 := Lib.hid hO; have M4 := Lib.hid (MM.out.below hB); have E4 := Lib.hid (ES.out.trans (hB.mono ES.out.size)); have HB4 := Lib.hid ((CE.out _ (AA.out.trans (hB.mono AA.out.size))).2); obtain ⟨z0, z1, z2, z3⟩ := box_all2 HB4.out; clear hO hB)
          obtain ⟨r0, r1, _, _⟩ := box_all2 (box_set2 (u := .slice b4 m4 d4) (v := .slice (some ⟨rb, 0, none⟩) d d) HB4.out)
          refine bodyPost_ret (v := .tuple #[.agg #[.slice b4 m4 d4, .slice (some ⟨rb, 0, none⟩) d d], .int .i64 0]) (by simp [results, Tryz.results10, go_sem, r0, r1]) rfl ?_
          have g1 := grT_set w4 (w.heap.size + 1) 0 (.slice b4 m4 d4)
          have g2 := grT_set (w4.setCell ⟨w.heap.size + 1, 0, none⟩ (.slice b4 m4 d4)) (w.heap.size + 1) 1 (.slice (some ⟨rb, 0, none⟩) d d)
          have bb := Joins.block_setCell (i := 0) HB4.out (.slice b4 m4 d4)
          have RO4 := M4.out.own QL.out (by unfold maxLen; omega)
          have RO5 := (RO4.turn HB4.out (by decide) (by decide) g1).turn bb (by decide) (by decide) g2
          have NO4 := own_mono O4.out ES.out.size
          rw [RLN.out.2.1, RLN.out.2.2] at NO4
          have NO5 := tbox_own (tbox_own NO4 HB4.out (by decide) g1) bb (by decide) g2
          have GD5 : Gd ss (qs.map (·.cs)) := by
            have g := GDH.out
            rw [QM.out]
            exact ⟨g.n64, g.nm, g.nd, fun r hr => g.rw r (List.mem_of_mem_take hr), fun r hr => g.st r (List.mem_of_mem_take hr), Nat.le_trans (by simp; omega) g.r4⟩
          have PT := psT_of NO5 RO5 GD5 0 0
          refine ⟨⟨b4, m4, d4, ss, some ⟨rb, 0, none⟩, d, d, qs⟩, rfl, ?_, (E4.out.setCell (p := ⟨w.heap.size + 1, 0, none⟩) (Nat.le_succ _) _).setCell (p := ⟨w.heap.size + 1, 1, none⟩) (Nat.le_succ _) _⟩
          rw [if_pos rfl, if_pos rfl, HT.out]
          have := PT.is
          simp only at this
          rw [QM.out] at this
          exact this
    · have Q := Lib.hid (p := ∀ w', Below w.heap.size w w' → TabE ss (rs.take k.toNat) E w (.returned (.tuple #[.agg #[.slice none 0 0, .slice none 0 0], .int .i64 E])) w') (fun w' b => tabE_nil (by rw [e0]; exact hv) b)
      rw [← e0] at KV hv
      have v0 : (E == 0) = false := by rw [beq_eq_false_iff_ne]; exact hv
      clear h hE hlr hln e0
      obtain ⟨b0, b1⟩ := CE.out _ D0.out
      obtain ⟨c0, c1, _, _⟩ := box_all2 b0
      clear b0 b1
      go_enter Tryz.func10, Tryz.ntmps10
      go_wp2_with (go_at_call 6; refine (KV.out _ B0.out).mono ?_; rintro e w2 ⟨rfl, hB⟩; have E2 := Lib.hid (B0.out.trans (hB.mono B0.out.size)); obtain ⟨b0, b1⟩ := CE.out _ hB; have HB1 := Lib.hid b1; obtain ⟨y0, y1, y2, y3⟩ := box_all2 b1; clear hB b0 b1)
      obtain ⟨r0, r1, _, _⟩ := box_all2 (box_set2 (u := .slice none 0 0) (v := .slice none 0 0) HB1.out)
      refine bodyPost_ret (v := .tuple #[.agg #[.slice none 0 0, .slice none 0 0], .int .i64 E]) (by simp [results, Tryz.results10, go_sem, r0, r1]) rfl ?_
      exact Q.out _ ((E2.out.setCell (p := ⟨w.heap.size + 1, 0, none⟩) (Nat.le_succ _) _).setCell (p := ⟨w.heap.size + 1, 1, none⟩) (Nat.le_succ _) _)
end Go.Proofs.YtajocakmmgpoaaaGreatDoor
