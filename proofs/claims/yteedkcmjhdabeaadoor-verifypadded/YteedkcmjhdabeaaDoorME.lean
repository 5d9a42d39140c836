/-
  WALK: Heights.
-/
import Derived.Test.YteedkcmjhdabeaaDoorMD
import Derived.Test.YteedkcmjhdabeaaDoorMA
import Derived.OpenShut
import Derived.Lib.LaidTab
import Derived.Stop.LaidErr
namespace Go.Proofs.YteedkcmjhdabeaaDoor
open Go.RowKit
set_option linter.unusedVariables false
set_option linter.unusedSimpArgs false
theorem verify_any {w : World} {p : Pg} (h : PV w p) (hR : Rws w) (hU : Rul w) : Calls Tryd.prog 6 #[p.agg] w fun e w' => e = .returned (vfV (vfyA p)) ∧ Below w.heap.size w w' := by
  by_cases hc : canP p
  · have e : vfyA p = vfy p := by unfold vfyA; rw [if_pos hc]
    rw [e]
    exact verify_can h hR hU hc
  · exact verify_odd h hR hc
theorem infoIntV : (Tryd.prog.info? 3).map (fun i => (i.zero, i.size, i.bytes)) = some (some (.int .i64 0), 1, 8) := by kernel_rfl
theorem make_intsV (n : Nat) (hn : n ≤ 262144) (W : World) : (Instr.makeSlice 23 (.int .i64 (n : Int)) (.int .i64 (n : Int))).run Tryd.prog W = .ok (.slice (some ⟨W.heap.size, 0, none⟩) n n) (W.alloc (.cells (madeCells #[.int .i64 0] n) 3)) := by
  obtain ⟨i0, hi, hz0, hz1, hz2⟩ := info_parts infoIntV
  have := run_make (P := Tryd.prog) W 23 3 i0 _ Tryd.underlying23 hi hz0 .i64 .i64 n n (by omega) (by omega) (by rw [hz2]; omega) (by omega)
  rw [hz1] at this
  simpa [Value.cells] using this
/-- A row of numbers, the first k of them told. -/
def htA (f : Nat → Nat) (k n : Nat) : Array Value := ((List.range n).map (fun j => Value.int .i64 (((if j < k then f j else 0 : Nat)) : Int))).toArray
theorem htA_size (f : Nat → Nat) (k n : Nat) : (htA f k n).size = n := by simp [htA]
theorem htA_at (f : Nat → Nat) (k n j : Nat) (hj : j < n) : (htA f k n)[j]? = some (.int .i64 (((if j < k then f j else 0 : Nat)) : Int)) := by
  unfold htA
  simp [hj]
theorem htA_zero (f : Nat → Nat) (n : Nat) : madeCells #[.int .i64 0] n = htA f 0 n := by
  apply Array.ext_getElem?
  intro k
  by_cases hk : k < n
  · rw [htA_at _ _ _ _ hk]
    unfold madeCells
    simp [hk, Nat.mod_one]
  · rw [Array.getElem?_eq_none (by simp [madeCells]; omega), Array.getElem?_eq_none (by rw [htA_size]; omega)]
theorem htA_set (f : Nat → Nat) (k n : Nat) (hk : k < n) : (htA f k n).set! k (.int .i64 (f k : Int)) = htA f (k + 1) n := by
  apply Array.ext_getElem?
  intro j
  rw [Array.set!_eq_setIfInBounds, Array.getElem?_setIfInBounds]
  by_cases hj : j < n
  · rw [htA_at _ _ _ _ hj, htA_at _ _ _ _ hj, htA_size]
    by_cases e : k = j
    · subst e
      rw [if_pos rfl, if_pos hk, if_pos (by omega)]
    · rw [if_neg e]
      by_cases l : j < k
      · rw [if_pos l, if_pos (by omega)]
      · rw [if_neg l, if_neg (by omega)]
  · rw [if_neg (by omega), Array.getElem?_eq_none (by rw [htA_size]; omega), Array.getElem?_eq_none (by rw [htA_size]; omega)]
/-- The heights of a segment's code. -/
def htF (s : Sg) (k : Nat) : Nat := vHt (vRun s.day s.code s.code.length).2.2 k
theorem all_ok {p : Pg} (h : (vAll p.days p.days.length).1 = 0) {d : Nat} (hd : d < p.days.length) : (vRun (p.days.getD d default).day (p.days.getD d default).code (p.days.getD d default).code.length).1 = 0 := by
  have h1 := vAll_before h (show d + 1 ≤ p.days.length by omega)
  have h0 := vAll_before h (show d ≤ p.days.length by omega)
  rw [vAll_succ h0] at h1
  exact h1
theorem vfy_ok {p : Pg} (h : (vfy p).1 = 0) : (vAll p.days p.days.length).1 = 0 ∧ vFit (vAll p.days p.days.length).2.2.2 p ∧ vfy p = (0, 0, 0, (vAll p.days p.days.length).2.2.2) := by
  unfold vfy at h ⊢
  by_cases e : (vAll p.days p.days.length).1 = 0
  · rw [if_neg (by simpa using e)] at h ⊢
    by_cases f : vFit (vAll p.days p.days.length).2.2.2 p
    · rw [if_pos f]
      exact ⟨e, f, rfl⟩
    · rw [if_neg f] at h
      simp at h
  · rw [if_pos e] at h
    exact absurd h e
/-- What Heights answers. -/
structure HtE (w : World) (p : Pg) (sg : Int) (e : Ending) (w' : World) : Prop where
  bel : Below w.heap.size w w'
  bad : (vfyA p).1 ≠ 0 → e = .returned (.tuple #[.slice none 0 0, .int .i64 (vfyA p).1])
  out : (vfyA p).1 = 0 → (sg < 0 ∨ (p.days.length : Int) ≤ sg) → e = .returned (.tuple #[.slice none 0 0, .int .i64 2])
  ok : (vfyA p).1 = 0 → ∀ d : Nat, sg = (d : Int) → d < p.days.length → ∃ hb, w.heap.size ≤ hb ∧ e = .returned (.tuple #[.slice (some ⟨hb, 0, none⟩) (p.days.getD d default).code.length (p.days.getD d default).code.length, .int .i64 0]) ∧ BkP w' hb (htA (htF (p.days.getD d default)) (p.days.getD d default).code.length (p.days.getD d default).code.length) 3
theorem heights_odd {w : World} {p : Pg} {sg : Int} (h : PV w p) (hR : Rws w) (hU : Rul w) (hc : (vfyA p).1 ≠ 0) : Calls Tryd.prog 9 #[p.agg, .int .i64 sg] w fun e w' => HtE w p sg e w' := by
  have B0 := Lib.hid (allocBP w p.box)
  have KV := Lib.hid (verify_any (h.later B0.out) (hR.below B0.out) (hU.lat B0.out))
  have E := Lib.hid (p := ∀ V, Below w.heap.size w V → HtE w p sg (.returned (.tuple #[.slice none 0 0, .int .i64 (vfyA p).1])) V) (fun V b => ⟨b, fun _ => rfl, fun z => absurd z hc, fun z => absurd z hc⟩)
  have ne : ((vfyA p).1 != 0) = true := by simpa using hc
  generalize vfyA p = r at *
  clear h hR hU hc
  unfold vfV at KV
  unfold Pg.agg at *
  unfold Pg.box at *
  obtain ⟨na, nc, names, ua, uc, curs, pa, pc, pool, hor, cells, slots, stack, da, dc, days⟩ := p
  obtain ⟨r1, r2, r3, ⟨st, fu, ba, sl, ce⟩⟩ := r
  simp only at *
  go_enter Tryd.func9, Tryd.ntmps9
  go_wp2_with (go_at_call 6; refine KV.out.mono ?_; rintro e w1 ⟨rfl, h1⟩; have B1 := Lib.hid (B0.out.trans (h1.mono B0.out.size)); clear h1)
  go_ret2
  exact E.out _ (B1.out.alloc B1.out.size _)
theorem heights_out {w : World} {p : Pg} {sg : Int} (h : PV w p) (hR : Rws w) (hU : Rul w) (hc : (vfyA p).1 = 0) (ho : sg < 0 ∨ (p.days.length : Int) ≤ sg) : Calls Tryd.prog 9 #[p.agg, .int .i64 sg] w fun e w' => HtE w p sg e w' := by
  have B0 := Lib.hid (allocBP w p.box)
  have KV := Lib.hid (verify_any (h.later B0.out) (hR.below B0.out) (hU.lat B0.out))
  have E := Lib.hid (p := ∀ V, Below w.heap.size w V → HtE w p sg (.returned (.tuple #[.slice none 0 0, .int .i64 2])) V) (fun V b => ⟨b, fun z => absurd hc z, fun _ _ => rfl, fun _ d e1 e2 => by omega⟩)
  have TB := Lib.hid (p := BkP (w.alloc p.box) w.heap.size p.arr 26) (heapN _ _)
  have ne : ((vfyA p).1 != 0) = false := by simpa using hc
  generalize vfyA p = r at *
  clear h hR hU hc
  unfold vfV at KV
  unfold Pg.agg at *
  unfold Pg.box at *
  unfold Pg.arr at TB
  obtain ⟨na, nc, names, ua, uc, curs, pa, pc, pool, hor, cells, slots, stack, da, dc, days⟩ := p
  obtain ⟨r1, r2, r3, ⟨st, fu, ba, sl, ce⟩⟩ := r
  simp only at *
  by_cases l0 : sg < 0
  · clear ho
    go_enter Tryd.func9, Tryd.ntmps9
    go_wp2_with (go_at_call 6; refine KV.out.mono ?_; rintro e w1 ⟨rfl, h1⟩; have B1 := Lib.hid (B0.out.trans (h1.mono B0.out.size)); clear h1)
    go_ret2
    exact E.out _ (B1.out.alloc B1.out.size _)
  · have l1 : (days.length : Int) ≤ sg := by omega
    clear ho
    go_enter Tryd.func9, Tryd.ntmps9
    go_wp2_with (go_at_call 6; refine KV.out.mono ?_; rintro e w1 ⟨rfl, h1⟩; have B1 := Lib.hid (B0.out.trans (h1.mono B0.out.size)); obtain ⟨_, _, _, _, _, _, _, x7⟩ := box_all8 ((TB.out.lat h1).lat (allocBP _ (.cells #[.int .i64 st, .int .i64 fu, .int .i64 ba] 29))); clear h1)
    go_ret2
    exact E.out _ (B1.out.alloc B1.out.size _)
end Go.Proofs.YteedkcmjhdabeaaDoor

namespace Go.Proofs.YteedkcmjhdabeaaDoor
open Go.RowKit
set_option linter.unusedVariables false
set_option linter.unusedSimpArgs false
theorem WkR.grownI {W V : World} {B wb ab : Nat} {day : Int} {ca : Option Addr} {cc n : Nat} {G : Tg} {A : Nat → Option Nat} {l : Nat → Option Vs} (h : WkR W B wb ab day ca cc n G A l) {x : Nat} {y : Array Value} (g : W.grownBy V (some x)) (hx : BkP W x y 3) : WkR V B wb ab day ca cc n G A l := by
  have no : ∀ {b z t}, BkP W b z t → t ≠ 3 → some b ≠ some x := fun k ht e => by injection e with e; exact bk_ne k hx ht e
  refine ⟨h.tri.other g hx (by decide), h.wk.grown g (no h.wk (by decide)), h.ah.grown g (no h.ah (by decide)), fun j hj => ?_, h.inj, h.low, h.ok⟩
  rcases h.st j hj with q | ⟨z, s, tb, ps, h1, h2, h3⟩
  · exact .inl q
  · exact .inr ⟨z, s, tb, ps, h1, h2, ⟨h3.top, h3.box.grown g (no h3.box (by decide)), h3.slt.other g hx (by decide), h3.low⟩⟩
/-- A round of Heights. -/
structure HrR (w wr : World) (wb ab hb : Nat) (sg : Sg) (k : Nat) : Prop where
  wk : ∃ G A, WkR wr w.heap.size wb ab sg.day sg.ca sg.cc sg.code.length G A (vRun sg.day sg.code k).2.2
  ro : BkP wr hb (htA (htF sg) k sg.code.length) 3
  be : Below w.heap.size w wr
structure HpE (w : World) (wb ab hb : Nat) (sg : Sg) (k : Nat) (V : World) : Prop where
  wk : ∃ G A, WkR V w.heap.size wb ab sg.day sg.ca sg.cc sg.code.length G A (vRun sg.day sg.code (k + 1)).2.2
  ro : BkP V hb (htA (htF sg) k sg.code.length) 3
  be : Below w.heap.size w V
  ce : ∃ hx, V.cell? ⟨wb, 2, none⟩ = some (.slice (some ⟨ab, 0, none⟩) sg.code.length sg.code.length) ∧ V.cell? ⟨ab, k, none⟩ = some (.pointer (some ⟨hx, 0, none⟩)) ∧ V.cell? ⟨hx, 1, none⟩ = some (.int .i64 (htF sg k : Int))
theorem htF_at {sg : Sg} {k : Nat} (hk : k < sg.code.length) : vHt (vRun sg.day sg.code (k + 1)).2.2 k = htF sg k := by
  unfold htF vHt
  rw [vRun_old (Nat.lt_succ_self k) sg.code.length hk]
theorem hr_pass {w wr : World} {wb ab hb : Nat} {sg : Sg} {k : Nat} (h : HrR w wr wb ab hb sg k) (hk : k < sg.code.length) (hs : SgOk sg) (hI : IR w sg.ca sg.code.length sg.cc sg.code) (hR : Rws w) (hU : Rul w) (ha : (vRun sg.day sg.code sg.code.length).1 = 0) :
    Calls Tryd.prog 14 #[.pointer (some ⟨wb, 0, none⟩), .int .i64 (k : Int)] wr fun e V => e = .returned (.int .i64 0) ∧ HpE w wb ab hb sg k V := by
  obtain ⟨G, A, hw⟩ := h.wk
  have h0 := vRun_before ha (Nat.le_of_lt hk)
  have h1 := vRun_before ha hk
  have e1 := vRun_succ h0
  have ez : (vPass sg.day sg.code.length (sg.code.getD k default) k (vRun sg.day sg.code k).2.2).1 = 0 := by rw [e1] at h1; exact h1
  refine (pass_any hw h.be.size hk hs.len (fun u hu => ?_) ⟨hI, hR, hU, Nat.le_refl _⟩ h.be (hs.ok k hk).1 (hs.ok k hk).2).mono ?_
  · have := vRun_high k k u hu
    have := hs.len
    omega
  · rintro e V ⟨p1, ⟨G', A', p2⟩, p3, p4⟩
    have e2 : (vRun sg.day sg.code (k + 1)).2.2 = (vPass sg.day sg.code.length (sg.code.getD k default) k (vRun sg.day sg.code k).2.2).2 := by rw [e1]
    refine ⟨by rw [p1, ez], ⟨G', A', by rw [e2]; exact p2⟩, p4 _ _ _ h.ro (by decide) (by decide) (by decide), h.be.trans p3, ?_⟩
    obtain ⟨u, hu⟩ := pass_has ez
    obtain ⟨hx, q1, q2⟩ := high_of p2 hk hu
    have q3 := p2.wk.cell 2
    simp at q3
    refine ⟨hx, q3, q1, ?_⟩
    rw [q2, ← htF_at hk, e2]
theorem hr_next {w V : World} {wb ab hb : Nat} {sg : Sg} {k : Nat} (h : HpE w wb ab hb sg k V) (hk : k < sg.code.length) (hb0 : w.heap.size ≤ hb) : HrR w (V.setCell ⟨hb, k, none⟩ (.int .i64 (htF sg k : Int))) wb ab hb sg (k + 1) := by
  obtain ⟨G, A, q⟩ := h.wk
  refine ⟨⟨G, A, q.grownI (setCell_gr V hb k _) h.ro⟩, ?_, h.be.setCell (p := ⟨hb, k, none⟩) hb0 _⟩
  have := h.ro.set2 k (.int .i64 (htF sg k : Int)) (by rw [htA_size]; exact hk)
  rw [htA_set _ _ _ hk] at this
  exact this
theorem two_pos {n : Nat} (h : 2 ≤ n) : 0 < n := by omega
theorem ht_start (V : World) (sg : Sg) (n : Nat) : BkP (V.alloc (.cells (madeCells #[.int .i64 0] n) 3)) V.heap.size (htA (htF sg) 0 n) 3 := by
  rw [htA_zero (htF sg)]
  exact heapN _ _
set_option maxRecDepth 100000 in
set_option maxHeartbeats 800000 in
theorem heights_ok {w : World} {p : Pg} (h : PV w p) (hR : Rws w) (hU : Rul w) (hc : (vfyA p).1 = 0) (d : Nat) (hd : d < p.days.length) : Calls Tryd.prog 9 #[p.agg, .int .i64 (d : Int)] w fun e w' => HtE w p (d : Int) e w' := by
  have cp : canP p := by
    refine Classical.byContradiction fun z => ?_
    unfold vfyA at hc
    rw [if_neg z] at hc
    simp at hc
  have vk : (vfy p).1 = 0 := by
    unfold vfyA at hc
    rw [if_pos cp] at hc
    exact hc
  have RN := Lib.hid (all_ok (vfy_ok vk).1 hd)
  have SO := Lib.hid (sg_ok cp hd)
  have B0 := Lib.hid (allocBP w p.box)
  have KV := Lib.hid (verify_any (h.later B0.out) (hR.below B0.out) (hU.lat B0.out))
  have E := Lib.hid (p := ∀ V hb, Below w.heap.size w V → w.heap.size ≤ hb → BkP V hb (htA (htF (p.days.getD d default)) (p.days.getD d default).code.length (p.days.getD d default).code.length) 3 → HtE w p (d : Int) (.returned (.tuple #[.slice (some ⟨hb, 0, none⟩) (p.days.getD d default).code.length (p.days.getD d default).code.length, .int .i64 0])) V) (fun V hb b b2 b3 => ⟨b, fun z => absurd hc z, fun _ z => by omega, fun _ d' e1 e2 => by
    have : d = d' := by omega
    subst this
    exact ⟨hb, b2, rfl, b3⟩⟩)
  have TB := Lib.hid (p := BkP (w.alloc p.box) w.heap.size p.arr 26) (heapN _ _)
  have ne : ((vfyA p).1 != 0) = false := by simpa using hc
  have DR := Lib.hid h.days.2.2.2.2
  have GI := Lib.hid (h.days.2.2.2.1 _ (sg_mem (i := d) hd)).2
  have HR := Lib.hid hR
  have HU := Lib.hid hU
  generalize vfyA p = r at *
  clear h hR hU hc cp vk
  unfold vfV at KV
  unfold Pg.agg at *
  unfold Pg.box at *
  unfold Pg.arr at TB
  obtain ⟨na, nc, names, ua, uc, curs, pa, pc, pool, hor, cells, slots, stack, da, dc, days⟩ := p
  obtain ⟨r1, r2, r3, ⟨st, fu, ba, rs, ce⟩⟩ := r
  simp only at *
  have l0 : ¬ (d : Int) < 0 := by omega
  have l1 : ¬ (days.length : Int) ≤ (d : Int) := by omega
  have l2 : (d : Int) < (days.length : Int) := by omega
  have CC := Lib.hid (p := ∀ V, Below w.heap.size w V → ∃ x o, da = some ⟨x, o, none⟩ ∧ V.cell? ⟨x, o + d * 2, none⟩ = some (.int .i64 (days.getD d default).day) ∧ V.cell? ⟨x, o + d * 2 + 1, none⟩ = some (.slice (days.getD d default).ca (days.getD d default).code.length (days.getD d default).cc)) (fun V b => by
    obtain ⟨x, o, hda, _, hc⟩ := (DR.out.later b).oneP (by omega)
    have c0 := hc d hd 0 (by omega)
    have c1 := hc d hd 1 (by omega)
    simp only [Sg.cs, Nat.add_zero, List.getD_cons_zero, List.getD_cons_succ] at c0 c1
    exact ⟨x, o, hda, c0, c1⟩)
  clear DR hd
  generalize days.getD d default = s at *
  obtain ⟨sd, sa, sc, sl⟩ := s
  simp only at *
  have N2 := Lib.hid SO.out.two
  have N3 := Lib.hid SO.out.len
  simp only at N2 N3
  obtain ⟨x, o, hda, _, _⟩ := CC.out w (Below.refl _ _)
  subst hda
  have CD := Lib.hid (p := ∀ V, Below w.heap.size w V → V.cell? ⟨x, o + d * 2, none⟩ = some (.int .i64 sd) ∧ V.cell? ⟨x, o + d * 2 + 1, none⟩ = some (.slice sa sl.length sc)) (fun V b => by
    obtain ⟨x', o', e, c0, c1⟩ := CC.out V b
    injection e with e
    injection e with e1 e2
    subst e1 e2
    exact ⟨c0, c1⟩)
  have M0 := make_intsV sl.length N3.out
  clear CC
  go_enter Tryd.func9, Tryd.ntmps9
  go_wp2_with (first | (go_at_call 6; refine KV.out.mono ?_; rintro e w1 ⟨rfl, h1⟩; have B1 := Lib.hid ((B0.out.trans (h1.mono B0.out.size)).alloc (B0.out.trans (h1.mono B0.out.size)).size (.cells #[.int .i64 st, .int .i64 fu, .int .i64 ba] 29)); obtain ⟨_, _, _, _, _, _, _, x7⟩ := box_all8 ((TB.out.lat h1).lat (allocBP _ (.cells #[.int .i64 st, .int .i64 fu, .int .i64 ba] 29))); obtain ⟨c0, c1⟩ := CD.out _ B1.out; clear h1) | (go_at_call 13; refine (enter_any (B := w.heap.size) (n := sl.length) B1.out.size (two_pos N2.out) N3.out).mono ?_; rintro e w2 ⟨⟨wb, ab, G, A, rfl, hw⟩, hb⟩; have B2 := Lib.hid (B1.out.trans (hb.mono B1.out.size)); have R2 := Lib.hid (p := HrR w (w2.alloc (.cells (madeCells #[.int .i64 0] sl.length) 3)) wb ab w2.heap.size ⟨sd, sa, sc, sl⟩ 0) ⟨⟨G, A, hw.later (allocBP _ _)⟩, ht_start _ _ _, B2.out.alloc B2.out.size _⟩; have y1 := hw.wk.cell 1; have y2 := (hw.later (allocBP _ (.cells (madeCells #[.int .i64 0] sl.length) 3))).wk.cell 1; simp at y1 y2; clear hw hb))
  clear x7 c0 c1 y1 y2 KV
  go_loopw [49] (fun t wr => ∃ k : Nat, k ≤ sl.length ∧ t = .int .i64 (k : Int) ∧ HrR w wr wb ab w2.heap.size ⟨sd, sa, sc, sl⟩ k) (fun t _ => sl.length - (intOf t).toNat)
  case atStart => exact ⟨0, by omega, rfl, R2.out⟩
  case round =>
    clear R2
    rename World => wr
    obtain ⟨k, hk, rfl, hH⟩ := hrel
    by_cases hkn : k < sl.length
    · have kc2 : (k : Int) < (sl.length : Int) := by omega
      have kk0 : ¬ (k : Int) < 0 := by omega
      have ks2 : IntKind.i64.wrap ((k : Int) + 1) = (k : Int) + 1 := by simp [IntKind.wrap, IntKind.bits, IntKind.signed]; have := N3.out; omega
      have KP := Lib.hid (hr_pass hH hkn SO.out GI.out HR.out HU.out RN.out)
      have NX := Lib.hid (fun V (q : HpE w wb ab w2.heap.size ⟨sd, sa, sc, sl⟩ k V) => hr_next q hkn B2.out.size)
      clear hH
      go_wp2_with (go_at_call 14; refine KP.out.mono ?_; rintro e w3 ⟨rfl, h1⟩; obtain ⟨hx, g1, g2, g3⟩ := h1.ce; have g4 := h1.ro.cell k; rw [htA_at _ _ _ _ hkn] at g4; have g5 := h1.ro.frozen k; have R3 := Lib.hid (NX.out w3 h1); simp only at g1; clear h1)
      go_roundw
      case rel => exact ⟨k + 1, by omega, by go_num, R3.out⟩
      case measure => simp [intOf]; omega
    · obtain rfl : k = sl.length := by omega
      have HH := Lib.hid hH
      clear hH
      go_wp2
      go_ret2
      exact E.out _ _ HH.out.be B2.out.size HH.out.ro
theorem heights_any {w : World} {p : Pg} {sg : Int} (h : PV w p) (hR : Rws w) (hU : Rul w) : Calls Tryd.prog 9 #[p.agg, .int .i64 sg] w fun e w' => HtE w p sg e w' := by
  by_cases hc : (vfyA p).1 = 0
  · by_cases ho : sg < 0 ∨ (p.days.length : Int) ≤ sg
    · exact heights_out h hR hU hc ho
    · obtain ⟨d, rfl⟩ : ∃ d : Nat, sg = (d : Int) := ⟨sg.toNat, by omega⟩
      exact heights_ok h hR hU hc d (by omega)
  · exact heights_odd h hR hU hc
end Go.Proofs.YteedkcmjhdabeaaDoor

namespace Go.Proofs.YteedkcmjhdabeaaDoor
open Go.RowKit
set_option linter.unusedVariables false
set_option linter.unusedSimpArgs false
def plC : List In := [⟨3, 0, 1⟩, ⟨1, 0, 0⟩, ⟨9, 0, 0⟩, ⟨6, 0, 0⟩, ⟨1, 0, 0⟩, ⟨21, 0, 0⟩, ⟨27, 2, 0⟩, ⟨7, 0, 0⟩, ⟨28, 0, 0⟩, ⟨0, 0, 0⟩]
def plP (a b c d e : Nat) : Pg := ⟨some ⟨b, 0, none⟩, 1, [⟨#[65]⟩], some ⟨c, 0, none⟩, 1, [⟨#[69, 85, 82]⟩], some ⟨d, 0, none⟩, 1, [5], 3, 0, 1, 2, some ⟨e, 0, none⟩, 1, [⟨2, some ⟨a, 0, none⟩, 10, plC⟩]⟩
theorem plC_len : plC.length = 10 := rfl
def plW (w : World) : World := ((((((w.alloc (.cells #[.slice (some ⟨w.heap.size + 1 + 1, 0, none⟩) 1 1, .slice (some ⟨w.heap.size + 1 + 1 + 1, 0, none⟩) 1 1, .slice (some ⟨w.heap.size + 1 + 1 + 1 + 1, 0, none⟩) 1 1, .int .i64 3, .int .i64 0, .int .i64 1, .int .i64 2, .slice (some ⟨w.heap.size + 1 + 1 + 1 + 1 + 1, 0, none⟩) 1 1] 26)).alloc (.cells #[.int .i64 3, .int .i64 0, .int .i64 1, .int .i64 1, .int .i64 0, .int .i64 0, .int .i64 9, .int .i64 0, .int .i64 0, .int .i64 6, .int .i64 0, .int .i64 0, .int .i64 1, .int .i64 0, .int .i64 0, .int .i64 21, .int .i64 0, .int .i64 0, .int .i64 27, .int .i64 2, .int .i64 0, .int .i64 7, .int .i64 0, .int .i64 0, .int .i64 28, .int .i64 0, .int .i64 0, .int .i64 0, .int .i64 0, .int .i64 0] 38)).alloc (.cells #[.string ⟨#[65]⟩] 9)).alloc (.cells #[.string ⟨#[69, 85, 82]⟩] 9)).alloc (.cells #[.int .i64 5] 3)).alloc (.cells #[.int .i64 2, .slice (some ⟨w.heap.size + 1, 0, none⟩) 10 10] 36))
theorem pl_six (w : World) (o0 o1 o2 o3 o4 o5 : Obj) : ((((((w.alloc o0).alloc o1).alloc o2).alloc o3).alloc o4).alloc o5).heap[w.heap.size]? = some o0 ∧ ((((((w.alloc o0).alloc o1).alloc o2).alloc o3).alloc o4).alloc o5).heap[w.heap.size + 1]? = some o1 ∧ ((((((w.alloc o0).alloc o1).alloc o2).alloc o3).alloc o4).alloc o5).heap[w.heap.size + 1 + 1]? = some o2 ∧ ((((((w.alloc o0).alloc o1).alloc o2).alloc o3).alloc o4).alloc o5).heap[w.heap.size + 1 + 1 + 1]? = some o3 ∧ ((((((w.alloc o0).alloc o1).alloc o2).alloc o3).alloc o4).alloc o5).heap[w.heap.size + 1 + 1 + 1 + 1]? = some o4 ∧ ((((((w.alloc o0).alloc o1).alloc o2).alloc o3).alloc o4).alloc o5).heap[w.heap.size + 1 + 1 + 1 + 1 + 1]? = some o5 ∧ ((((((w.alloc o0).alloc o1).alloc o2).alloc o3).alloc o4).alloc o5).heap.size = w.heap.size + 6 ∧ Below w.heap.size w ((((((w.alloc o0).alloc o1).alloc o2).alloc o3).alloc o4).alloc o5) := by
  have e0 := heapN w o0
  have k1 := five_heap (w.alloc o0) o1 o2 o3 o4 o5
  have e1 := heapN (w.alloc o0) o1
  have s1 : (w.alloc o0).heap.size = w.heap.size + 1 := by simp
  rw [s1] at k1 e1
  obtain ⟨k2, k3, k4, k5⟩ := k1
  refine ⟨?_, ?_, k2, k3, k4, k5, by simp, ((((((Below.refl _ w).alloc (Nat.le_refl _) o0).alloc (by simp) o1).alloc (by simp; omega) o2).alloc (by simp; omega) o3).alloc (by simp; omega) o4).alloc (by simp; omega) o5⟩
  · rw [Below.heap_alloc _ _ _ (by simp <;> omega), Below.heap_alloc _ _ _ (by simp <;> omega), Below.heap_alloc _ _ _ (by simp <;> omega), Below.heap_alloc _ _ _ (by simp <;> omega), Below.heap_alloc _ _ _ (by simp <;> omega)]
    exact e0
  · rw [Below.heap_alloc _ _ _ (by simp <;> omega), Below.heap_alloc _ _ _ (by simp <;> omega), Below.heap_alloc _ _ _ (by simp <;> omega), Below.heap_alloc _ _ _ (by simp <;> omega)]
    exact e1
theorem i64_small (z : Int) (h0 : -100 ≤ z) (h1 : z ≤ 100) : i64 z := by
  unfold i64
  simp [Lit.wf, IntKind.min, IntKind.max, IntKind.bits, IntKind.signed]
  omega
theorem hd_one (b n : Nat) (h : n ≤ 100) : Hd (some ⟨b, 0, none⟩) n n := ⟨(fun e => by cases e), Nat.le_refl _, by unfold maxLen; omega⟩
theorem plC_cell (k : Nat) (hk : k < 10) (j : Nat) (hj : j < 3) : (#[.int .i64 3, .int .i64 0, .int .i64 1, .int .i64 1, .int .i64 0, .int .i64 0, .int .i64 9, .int .i64 0, .int .i64 0, .int .i64 6, .int .i64 0, .int .i64 0, .int .i64 1, .int .i64 0, .int .i64 0, .int .i64 21, .int .i64 0, .int .i64 0, .int .i64 27, .int .i64 2, .int .i64 0, .int .i64 7, .int .i64 0, .int .i64 0, .int .i64 28, .int .i64 0, .int .i64 0, .int .i64 0, .int .i64 0, .int .i64 0] : Array Value)[k * 3 + j]? = some ((icell (plC.getD k default)).getD j default) := by
  rcases (show k = 0 ∨ k = 1 ∨ k = 2 ∨ k = 3 ∨ k = 4 ∨ k = 5 ∨ k = 6 ∨ k = 7 ∨ k = 8 ∨ k = 9 by omega) with rfl | rfl | rfl | rfl | rfl | rfl | rfl | rfl | rfl | rfl <;> rcases (show j = 0 ∨ j = 1 ∨ j = 2 by omega) with rfl | rfl | rfl <;> rfl
theorem pl_pv (w : World) : PV (plW w) (plP (w.heap.size + 1) (w.heap.size + 1 + 1) (w.heap.size + 1 + 1 + 1) (w.heap.size + 1 + 1 + 1 + 1) (w.heap.size + 1 + 1 + 1 + 1 + 1)) ∧ Below w.heap.size w (plW w) := by
  obtain ⟨_, h1, h2, h3, h4, h5, h6, h7⟩ := pl_six w (.cells #[.slice (some ⟨w.heap.size + 1 + 1, 0, none⟩) 1 1, .slice (some ⟨w.heap.size + 1 + 1 + 1, 0, none⟩) 1 1, .slice (some ⟨w.heap.size + 1 + 1 + 1 + 1, 0, none⟩) 1 1, .int .i64 3, .int .i64 0, .int .i64 1, .int .i64 2, .slice (some ⟨w.heap.size + 1 + 1 + 1 + 1 + 1, 0, none⟩) 1 1] 26) (.cells #[.int .i64 3, .int .i64 0, .int .i64 1, .int .i64 1, .int .i64 0, .int .i64 0, .int .i64 9, .int .i64 0, .int .i64 0, .int .i64 6, .int .i64 0, .int .i64 0, .int .i64 1, .int .i64 0, .int .i64 0, .int .i64 21, .int .i64 0, .int .i64 0, .int .i64 27, .int .i64 2, .int .i64 0, .int .i64 7, .int .i64 0, .int .i64 0, .int .i64 28, .int .i64 0, .int .i64 0, .int .i64 0, .int .i64 0, .int .i64 0] 38) (.cells #[.string ⟨#[65]⟩] 9) (.cells #[.string ⟨#[69, 85, 82]⟩] 9) (.cells #[.int .i64 5] 3) (.cells #[.int .i64 2, .slice (some ⟨w.heap.size + 1, 0, none⟩) 10 10] 36)
  have b1 : BkP (plW w) (w.heap.size + 1) _ _ := h1
  have b2 : BkP (plW w) (w.heap.size + 1 + 1) _ _ := h2
  have b3 : BkP (plW w) (w.heap.size + 1 + 1 + 1) _ _ := h3
  have b4 : BkP (plW w) (w.heap.size + 1 + 1 + 1 + 1) _ _ := h4
  have b5 : BkP (plW w) (w.heap.size + 1 + 1 + 1 + 1 + 1) _ _ := h5
  refine ⟨⟨⟨hd_one _ _ (of_decide_eq_true rfl), rfl, of_decide_eq_true rfl, ?_, .inr ⟨_, 0, rfl, b2.lt, ?_⟩⟩, ⟨hd_one _ _ (of_decide_eq_true rfl), rfl, of_decide_eq_true rfl, ?_, .inr ⟨_, 0, rfl, b3.lt, ?_⟩⟩, ⟨hd_one _ _ (of_decide_eq_true rfl), rfl, of_decide_eq_true rfl, ?_, .inr ⟨_, 0, rfl, b4.lt, ?_⟩⟩, i64_small _ (of_decide_eq_true rfl) (of_decide_eq_true rfl), i64_small _ (of_decide_eq_true rfl) (of_decide_eq_true rfl), i64_small _ (of_decide_eq_true rfl) (of_decide_eq_true rfl), i64_small _ (of_decide_eq_true rfl) (of_decide_eq_true rfl), ⟨hd_one _ _ (of_decide_eq_true rfl), rfl, of_decide_eq_true rfl, ?_, .inr ⟨_, 0, rfl, b5.lt, ?_⟩⟩⟩, h7⟩
  · intro s hs
    rcases List.mem_singleton.1 hs with rfl
    exact of_decide_eq_true rfl
  · intro i hi j hj
    obtain rfl : i = 0 := by simp [plP] at hi; exact hi
    obtain rfl : j = 0 := by omega
    rw [b2.cell]; rfl
  · intro s hs
    rcases List.mem_singleton.1 hs with rfl
    exact of_decide_eq_true rfl
  · intro i hi j hj
    obtain rfl : i = 0 := by simp [plP] at hi; exact hi
    obtain rfl : j = 0 := by omega
    rw [b3.cell]; rfl
  · intro s hs
    rcases List.mem_singleton.1 hs with rfl
    exact i64_small _ (of_decide_eq_true rfl) (of_decide_eq_true rfl)
  · intro i hi j hj
    obtain rfl : i = 0 := by simp [plP] at hi; exact hi
    obtain rfl : j = 0 := by omega
    rw [b4.cell]; rfl
  · intro s hs
    rcases List.mem_singleton.1 hs with rfl
    refine ⟨i64_small _ (of_decide_eq_true rfl) (of_decide_eq_true rfl), hd_one _ _ (of_decide_eq_true rfl), rfl, of_decide_eq_true rfl, ?_, .inr ⟨_, 0, rfl, b1.lt, ?_⟩⟩
    · intro i hi
      simp [plC] at hi
      rcases hi with rfl | rfl | rfl | rfl | rfl | rfl | rfl | rfl | rfl | rfl <;> exact ⟨i64_small _ (of_decide_eq_true rfl) (of_decide_eq_true rfl), i64_small _ (of_decide_eq_true rfl) (of_decide_eq_true rfl), i64_small _ (of_decide_eq_true rfl) (of_decide_eq_true rfl)⟩
    · intro i hi j hj
      rw [b1.cell, Nat.zero_add]
      exact plC_cell i hi j hj
  · intro i hi j hj
    obtain rfl : i = 0 := by simp [plP] at hi; exact hi
    rcases (show j = 0 ∨ j = 1 by omega) with rfl | rfl
    · rw [b5.cell]; rfl
    · rw [b5.cell]; rfl
structure PlE (w : World) (e : Ending) (w' : World) : Prop where
  say : ∃ a b c d f, e = .returned (plP a b c d f).agg ∧ PV w' (plP a b c d f)
  bel : Below w.heap.size w w'
set_option maxRecDepth 100000 in
set_option maxHeartbeats 800000 in
theorem plain_any {w : World} : Calls Tryd.prog 11 #[] w fun e w' => PlE w e w' := by
  have E := Lib.hid (pl_pv w)
  have C := Lib.hid (pl_six w (.cells #[.slice (some ⟨w.heap.size + 1 + 1, 0, none⟩) 1 1, .slice (some ⟨w.heap.size + 1 + 1 + 1, 0, none⟩) 1 1, .slice (some ⟨w.heap.size + 1 + 1 + 1 + 1, 0, none⟩) 1 1, .int .i64 3, .int .i64 0, .int .i64 1, .int .i64 2, .slice (some ⟨w.heap.size + 1 + 1 + 1 + 1 + 1, 0, none⟩) 1 1] 26) (.cells #[.int .i64 3, .int .i64 0, .int .i64 1, .int .i64 1, .int .i64 0, .int .i64 0, .int .i64 9, .int .i64 0, .int .i64 0, .int .i64 6, .int .i64 0, .int .i64 0, .int .i64 1, .int .i64 0, .int .i64 0, .int .i64 21, .int .i64 0, .int .i64 0, .int .i64 27, .int .i64 2, .int .i64 0, .int .i64 7, .int .i64 0, .int .i64 0, .int .i64 28, .int .i64 0, .int .i64 0, .int .i64 0, .int .i64 0, .int .i64 0] 38) (.cells #[.string ⟨#[65]⟩] 9) (.cells #[.string ⟨#[69, 85, 82]⟩] 9) (.cells #[.int .i64 5] 3) (.cells #[.int .i64 2, .slice (some ⟨w.heap.size + 1, 0, none⟩) 10 10] 36)).1
  go_enter Tryd.func11, Tryd.ntmps11
  go_wp2
  obtain ⟨x0, x1, x2, x3, x4, x5, x6, x7⟩ := box_all8 C.out
  refine bodyPost_ret (v := .agg #[.slice (some ⟨w.heap.size + 1 + 1, 0, none⟩) 1 1, .slice (some ⟨w.heap.size + 1 + 1 + 1, 0, none⟩) 1 1, .slice (some ⟨w.heap.size + 1 + 1 + 1 + 1, 0, none⟩) 1 1, .int .i64 3, .int .i64 0, .int .i64 1, .int .i64 2, .slice (some ⟨w.heap.size + 1 + 1 + 1 + 1 + 1, 0, none⟩) 1 1]) ?r rfl ?s
  case r => simp [results, Tryd.results11, go_sem, x0, x1, x2, x3, x4, x5, x6, x7]
  case s => exact ⟨⟨_, _, _, _, _, rfl, E.out.1⟩, E.out.2⟩
theorem pl_can (a b c d e : Nat) : canP (plP a b c d e) := by
  refine ⟨by rfl, ⟨of_decide_eq_true rfl, by rfl, fun i hi => ?_, of_decide_eq_true rfl, by rfl, fun i hi => ?_, of_decide_eq_true rfl, fun i hi => ?_⟩, ⟨fun i hi => ?_, of_decide_eq_true rfl⟩, ⟨fun i hi => ?_, by rfl⟩⟩
  · simp [plP] at hi
  · simp [plP] at hi
  · simp [plP] at hi
  · obtain rfl : i = 0 := by simp [plP] at hi; exact hi
    exact ⟨of_decide_eq_true rfl, of_decide_eq_true rfl⟩
  · obtain rfl : i = 0 := by simp [plP] at hi; exact hi
    refine ⟨of_decide_eq_true rfl, fun n hn => ?_⟩
    have hn : n < 10 := hn
    rcases (show n = 0 ∨ n = 1 ∨ n = 2 ∨ n = 3 ∨ n = 4 ∨ n = 5 ∨ n = 6 ∨ n = 7 ∨ n = 8 ∨ n = 9 by omega) with rfl | rfl | rfl | rfl | rfl | rfl | rfl | rfl | rfl | rfl
    all_goals
      unfold insI inB In.okP
      simp [plP, plC, baA, bbA, baL, bbL]
set_option maxRecDepth 100000 in
theorem pl_vfy (a b c d e : Nat) : vfyA (plP a b c d e) = (0, 0, 0, ⟨2, 10, 1, 1, 0⟩) := by
  unfold vfyA
  rw [if_pos (pl_can a b c d e)]
  have e1 : vAll (plP a b c d e).days 1 = (0, 0, 9, ⟨2, 10, 1, 1, 0⟩) := by kernel_rfl
  have e2 : (plP a b c d e).days.length = 1 := rfl
  unfold vfy
  rw [e2, e1, if_neg (by simp), if_pos ⟨rfl, rfl, rfl⟩]
end Go.Proofs.YteedkcmjhdabeaaDoor

namespace Go.Proofs.YteedkcmjhdabeaaDoor
open Go.RowKit
set_option linter.unusedVariables false
set_option linter.unusedSimpArgs false
set_option maxRecDepth 100000 in
set_option maxHeartbeats 800000 in
theorem sameInts_eq {w : World} {a b n : Nat} (v : Nat → Int) (hn : n ≤ 262144) (ha : ∀ i, i < n → w.cell? ⟨a, i, none⟩ = some (.int .i64 (v i))) (hb : ∀ i, i < n → w.cell? ⟨b, i, none⟩ = some (.int .i64 (v i))) :
    Calls Tryd.prog 12 #[.slice (some ⟨a, 0, none⟩) n n, .slice (some ⟨b, 0, none⟩) n n] w fun e w' => e = .returned (.bool true) ∧ Below w.heap.size w w' := by
  have HA := Lib.hid ha
  have HB := Lib.hid hb
  have nn : ((n : Int) != (n : Int)) = false := by simp
  clear ha hb
  go_enter Tryd.func12, Tryd.ntmps12
  go_wp2
  go_loopw [5] (fun t wr => ∃ k : Nat, k ≤ n ∧ t = .int .i64 (k : Int) ∧ ∃ q, wr = w.drewN q) (fun t _ => n - (intOf t).toNat)
  case atStart => exact ⟨0, by omega, rfl, 0, rfl⟩
  case round =>
    obtain ⟨k, hk, rfl, q, rfl⟩ := hrel
    by_cases hlt : k < n
    · have kc : (k : Int) < (n : Int) := by omega
      have k0 : ¬ (k : Int) < 0 := by omega
      have ks : IntKind.i64.wrap ((k : Int) + 1) = (k : Int) + 1 := by simp [IntKind.wrap, IntKind.bits, IntKind.signed]; omega
      have c0 := HA.out k hlt
      have c1 := HB.out k hlt
      generalize v k = z at *
      go_wp2
      go_quiet (fail)
      go_wp2
      go_roundw
      case rel => exact ⟨k + 1, by omega, by go_num, _, rfl⟩
      case measure => simp [intOf]; omega
    · obtain rfl : k = n := by omega
      go_wp2
      go_ret
      exact ⟨rfl, drewBP _ _⟩
def plH : List Nat := [0, 1, 2, 1, 1, 2, 1, 0, 1, 0]
theorem pl_ht (a : Nat) (k : Nat) (hk : k < 10) : htF ⟨2, some ⟨a, 0, none⟩, 10, plC⟩ k = plH.getD k 0 := by
  rcases (show k = 0 ∨ k = 1 ∨ k = 2 ∨ k = 3 ∨ k = 4 ∨ k = 5 ∨ k = 6 ∨ k = 7 ∨ k = 8 ∨ k = 9 by omega) with rfl | rfl | rfl | rfl | rfl | rfl | rfl | rfl | rfl | rfl <;> kernel_rfl
theorem pl_heights {w : World} {a b c d f : Nat} (h : PV w (plP a b c d f)) (hR : Rws w) (hU : Rul w) : Calls Tryd.prog 9 #[(plP a b c d f).agg, .int .i64 0] w fun e w' => Below w.heap.size w w' ∧ ∃ hb, e = .returned (.tuple #[.slice (some ⟨hb, 0, none⟩) 10 10, .int .i64 0]) ∧ hb < w'.heap.size ∧ ∀ i, i < 10 → w'.cell? ⟨hb, i, none⟩ = some (.int .i64 (plH.getD i 0 : Int)) := by
  refine (heights_any (sg := 0) h hR hU).mono ?_
  intro e w' q
  obtain ⟨hb, _, h2, h3⟩ := q.ok (by rw [pl_vfy]) 0 rfl (by show 0 < 1; omega)
  refine ⟨q.bel, hb, h2, h3.lt, fun i hi => ?_⟩
  rw [h3.cell]
  show (htA (htF ⟨2, some ⟨a, 0, none⟩, 10, plC⟩) 10 10)[i]? = _
  rw [htA_at _ _ _ _ hi, if_pos hi, pl_ht a i hi]
theorem plH_cell (V : World) (i : Nat) (hi : i < 10) : (V.alloc (.cells #[.int .i64 0, .int .i64 1, .int .i64 2, .int .i64 1, .int .i64 1, .int .i64 2, .int .i64 1, .int .i64 0, .int .i64 1, .int .i64 0] 3)).cell? ⟨V.heap.size, i, none⟩ = some (.int .i64 (plH.getD i 0 : Int)) := by
  rw [BkP.cell (heapN V (.cells #[.int .i64 0, .int .i64 1, .int .i64 2, .int .i64 1, .int .i64 1, .int .i64 2, .int .i64 1, .int .i64 0, .int .i64 1, .int .i64 0] 3))]
  rcases (show i = 0 ∨ i = 1 ∨ i = 2 ∨ i = 3 ∨ i = 4 ∨ i = 5 ∨ i = 6 ∨ i = 7 ∨ i = 8 ∨ i = 9 by omega) with rfl | rfl | rfl | rfl | rfl | rfl | rfl | rfl | rfl | rfl <;> rfl
set_option maxRecDepth 100000 in
set_option maxHeartbeats 800000 in
theorem lives_any {w : World} (hR : Rws w) (hU : Rul w) : Calls Tryd.prog 5 #[] w fun e w' => e = .returned (.bool true) ∧ Below w.heap.size w w' := by
  have KP := Lib.hid (fun W => plain_any (w := W))
  have KV := Lib.hid (p := ∀ W a b c d f, Below w.heap.size w W → PV W (plP a b c d f) → Calls Tryd.prog 6 #[(plP a b c d f).agg] W fun e w' => e = .returned (.tuple #[.agg #[.int .i64 2, .int .i64 10, .int .i64 1], .int .i64 0, .int .i64 0, .int .i64 0]) ∧ Below W.heap.size W w') (fun W a b c d f bW hP => by
    have := verify_any hP (hR.below bW) (hU.lat bW)
    rw [pl_vfy] at this
    exact this)
  have KH := Lib.hid (fun W a b c d f (bW : Below w.heap.size w W) (hP : PV W (plP a b c d f)) => pl_heights hP (hR.below bW) (hU.lat bW))
  clear hR hU
  have Q1 : True := trivial
  go_enter Tryd.func5, Tryd.ntmps5
  go_wp2_with (first | (go_at_call 11; have qq := Q1; refine (KP.out _).mono ?_; clear qq Q1; rintro e w1 ⟨⟨a1, b1, c1, d1, f1, rfl, h1⟩, h2⟩; have P1 := Lib.hid h1; have B1 := Lib.hid h2; clear h1 h2; unfold Pg.agg plP; simp only [List.length_cons, List.length_nil, Nat.zero_add]) | (go_at_call 6; refine (KV.out w1 a1 b1 c1 d1 f1 B1.out P1.out).mono ?_; rintro e w2 ⟨rfl, h2⟩; have B2 := Lib.hid (p := Below w.heap.size w (w2.alloc (.cells #[.int .i64 2, .int .i64 10, .int .i64 1] 29))) ((B1.out.trans (h2.mono B1.out.size)).alloc (B1.out.trans (h2.mono B1.out.size)).size _); have X2 := Lib.hid (p := BkP (w2.alloc (.cells #[.int .i64 2, .int .i64 10, .int .i64 1] 29)) w2.heap.size #[.int .i64 2, .int .i64 10, .int .i64 1] 29) (heapN _ _); clear h2; have Q2 : True := trivial) | (go_at_call 11; have qq := Q2; refine (KP.out _).mono ?_; clear qq Q2; rintro e w3 ⟨⟨a3, b3, c3, d3, f3, rfl, h1⟩, h2⟩; have P3 := Lib.hid h1; have B3 := Lib.hid (B2.out.trans (h2.mono B2.out.size)); have X3 := Lib.hid (X2.out.lat h2); clear h1 h2; unfold Pg.agg plP; simp only [List.length_cons, List.length_nil, Nat.zero_add]) | (go_at_call 9; refine (KH.out w3 a3 b3 c3 d3 f3 B3.out P3.out).mono ?_; rintro e w4 ⟨h1, hb, rfl, h2, h3⟩; have B4 := Lib.hid (B3.out.trans (h1.mono B3.out.size)); obtain ⟨x0, x1, x2⟩ := boxV3 (X3.out.lat h1); have L4 := Lib.hid h2; have H4 := Lib.hid h3; clear h1 h2 h3) | (go_at_call 12; refine (sameInts_eq (n := 10) (fun i => (plH.getD i 0 : Int)) (of_decide_eq_true rfl) (fun i hi => (Below.cell (allocBP w4 _) (p := ⟨hb, i, none⟩) L4.out).trans (H4.out i hi)) (fun i hi => plH_cell w4 i hi)).mono ?_; rintro e w5 ⟨rfl, h1⟩; have B5 := Lib.hid ((B4.out.alloc B4.out.size (.cells #[.int .i64 0, .int .i64 1, .int .i64 2, .int .i64 1, .int .i64 1, .int .i64 2, .int .i64 1, .int .i64 0, .int .i64 1, .int .i64 0] 3)).trans (h1.mono (B4.out.alloc B4.out.size _).size)); clear h1))
  go_ret
  exact ⟨rfl, B5.out⟩
end Go.Proofs.YteedkcmjhdabeaaDoor

namespace Go.Proofs.YteedkcmjhdabeaaDoor
open Go.ChangeShapes Go.WideShapes Go.ChangeAt Go.RowKit
set_option linter.unusedVariables false
set_option linter.unusedSimpArgs false
section
variable {H : Type} {enc : TypeId × Value → H} {P : Program} {W : World} {base : Nat} {sp : Nat → Bool} {held : Bool}
theorem trod_three {t u : TypeId} {fuel : Nat} {v1 v2 v3 : Int} {x : DataW H × List MemPlace} {cs : List Value}
    (ht : P.underlying t = some (.array 3 u)) (hu : P.underlying u = some (.int .u8)) (hcu : P.cellsOf u = 1) (hct : P.cellsOf t = 3)
    (h : DataW.trod enc P W base sp held fuel t cs = some x) (hx1 : x.1 = .agg [.lit (.int .u8 v1), .lit (.int .u8 v2), .lit (.int .u8 v3)]) : cs = [.int .u8 v1, .int .u8 v2, .int .u8 v3] := by
  obtain ⟨xs, m, _, hx, hl, hlen, hel⟩ := DataW.trod_array ht h
  rw [hct] at hl
  rw [hcu] at hel
  obtain ⟨c0, c1, c2, rfl⟩ : ∃ a b c, cs = [a, b, c] := by
    match cs, hl with
    | [a, b, c], _ => exact ⟨a, b, c, rfl⟩
  obtain ⟨y0, y1, y2, rfl⟩ : ∃ a b c, xs = [a, b, c] := by
    match xs, hlen with
    | [a, b, c], _ => exact ⟨a, b, c, rfl⟩
  have k0 := hel 0 (by omega)
  have k1 := hel 1 (by omega)
  have k2 := hel 2 (by omega)
  simp only [List.getElem?_cons_zero, List.getElem?_cons_succ] at k0 k1 k2
  obtain ⟨z1, r1, q1, _⟩ := DataW.trod_int hu k0
  obtain ⟨z2, r2, q2, _⟩ := DataW.trod_int hu k1
  obtain ⟨z3, r3, q3, _⟩ := DataW.trod_int hu k2
  simp at r1 r2 r3
  subst r1 r2 r3
  rw [hx] at hx1
  simp only [List.map_cons, List.map_nil, DataW.agg.injEq, List.cons.injEq, and_true] at hx1
  rw [q1, q2, q3] at hx1
  simp at hx1
  obtain ⟨e1, e2, e3⟩ := hx1
  subst e1 e2 e3
  rfl
theorem trod_rule {t a u : TypeId} {fs : Array Field} {fuel : Nat} {v1 v2 v3 v4 : Int} {x : DataW H × List MemPlace} {cs : List Value}
    (ht : P.underlying t = some (.struct fs)) (hfs : fs.toList.map (fun f => (f.type, f.offset)) = [(a, 0), (u, 3)]) (ha : P.underlying a = some (.array 3 u)) (hu : P.underlying u = some (.int .u8)) (hcu : P.cellsOf u = 1) (hca : P.cellsOf a = 3) (hct : P.cellsOf t = 4)
    (h : DataW.trod enc P W base sp held fuel t cs = some x) (hx1 : x.1 = .agg [.agg [.lit (.int .u8 v1), .lit (.int .u8 v2), .lit (.int .u8 v3)], .lit (.int .u8 v4)]) : cs = [.int .u8 v1, .int .u8 v2, .int .u8 v3, .int .u8 v4] := by
  obtain ⟨xs, m, _, hx, hl, hlen, hfld⟩ := DataW.trod_struct ht h
  rw [hct] at hl
  obtain ⟨c0, c1, c2, c3, rfl⟩ : ∃ a b c d, cs = [a, b, c, d] := by
    match cs, hl with
    | [a, b, c, d], _ => exact ⟨a, b, c, d, rfl⟩
  have h3 : fs.size = 2 := by have := congrArg List.length hfs; simpa using this
  have fat : ∀ j (hj : j < 2), ∃ f, fs[j]? = some f ∧ (f.type, f.offset) = [(a, 0), (u, 3)][j] := fun j hj => by
    refine ⟨fs[j]'(by omega), by simp [show j < fs.size by omega], ?_⟩
    have : (fs.toList.map (fun f => (f.type, f.offset)))[j]? = [(a, 0), (u, 3)][j]? := by rw [hfs]
    simpa [show j < fs.size by omega, hj] using this
  obtain ⟨f0, g0, e0⟩ := fat 0 (by omega)
  obtain ⟨f1, g1, e1⟩ := fat 1 (by omega)
  obtain ⟨y0, y1, rfl⟩ : ∃ a b, xs = [a, b] := by
    have : xs.length = 2 := by omega
    match xs, this with
    | [a, b], _ => exact ⟨a, b, rfl⟩
  have k0 := hfld 0 f0 g0
  have k1 := hfld 1 f1 g1
  simp at e0 e1
  simp only [List.getElem?_cons_zero, List.getElem?_cons_succ] at k0 k1
  rw [e0.1, e0.2, hca] at k0
  rw [e1.1, e1.2, hcu] at k1
  rw [hx] at hx1
  simp only [List.map_cons, List.map_nil, DataW.agg.injEq, List.cons.injEq, and_true] at hx1
  have r0 := trod_three ha hu hcu hca k0 hx1.1
  obtain ⟨z1, r1, q1, _⟩ := DataW.trod_int hu k1
  simp at r0 r1
  rw [q1] at hx1
  have e := hx1.2
  simp at e
  subst e
  obtain ⟨e1, e2, e3⟩ := r0
  subst e1 e2 e3 r1
  rfl
end
def rulD {H : Type} (k : Nat) : DataW H := .agg [.agg [.lit (.int .u8 ((wtA k).getD 0 0 : Int)), .lit (.int .u8 ((wtA k).getD 1 0 : Int)), .lit (.int .u8 ((wtA k).getD 2 0 : Int))], .lit (.int .u8 (psA k : Int))]
theorem laid_rules {H : Type} : (Rows.laid_payoff_verify_rules : DataW H) = .agg ((List.range 29).map rulD) := rfl
theorem rul_of_laid {w : World} {rest : List (String × DataW Unit)} (h : laidMet Tryd.prog (("payoff/verify.rules", Rows.laid_payoff_verify_rules) :: rest) w) : Rul w := by
  have hg : Tryd.prog.globalNamed "payoff/verify.rules" = some 0 := by kernel_rfl
  have hty : (Tryd.prog.globals[0]?).map (·.type) = some 91 := by kernel_rfl
  obtain ⟨ps, ⟨g', t', cs, fuel, p, q, hg', ht', hvar, hd, _, _⟩, _⟩ := h
  obtain rfl := Option.some.inj (hg.symm.trans hg')
  obtain rfl := Option.some.inj (hty.symm.trans ht')
  rw [laid_rules] at hd
  obtain ⟨xs, m, _, hx, hl, hlen, hel⟩ := DataW.trod_array Tryd.underlying91 hd
  rw [show Tryd.prog.cellsOf 91 = 116 by kernel_rfl] at hl
  rw [show Tryd.prog.cellsOf 90 = 4 by kernel_rfl] at hel
  have hx1 : xs.map (·.1) = (List.range 29).map rulD := by
    have := congrArg Prod.fst hx
    simp only [DataW.agg.injEq] at this
    exact this.symm
  have key : ∀ k, k < 29 → (cs.toList.drop (k * 4)).take 4 = [.int .u8 ((wtA k).getD 0 0 : Int), .int .u8 ((wtA k).getD 1 0 : Int), .int .u8 ((wtA k).getD 2 0 : Int), .int .u8 (psA k : Int)] := by
    intro k hk
    have h1 := hel k hk
    have hk' : k < xs.length := by omega
    rw [List.getElem?_eq_getElem hk'] at h1
    have h2 : (xs[k]).1 = rulD k := by
      have : (xs.map (·.1))[k]? = ((List.range 29).map rulD)[k]? := by rw [hx1]
      simpa [hk', hk] using this
    exact trod_rule (t := 90) (a := 86) (u := 74) Tryd.underlying90 rfl (by kernel_rfl) (by kernel_rfl) (by kernel_rfl) (by kernel_rfl) (by kernel_rfl) h1 h2
  have cell : ∀ k, k < 29 → ∀ j, j < 4 → w.cell? ⟨0, k * 4 + j, none⟩ = [Value.int .u8 ((wtA k).getD 0 0 : Int), .int .u8 ((wtA k).getD 1 0 : Int), .int .u8 ((wtA k).getD 2 0 : Int), .int .u8 (psA k : Int)][j]? := by
    intro k hk j hj
    rw [World.var?_cell hg hvar (k * 4 + j), ← key k hk, List.getElem?_take_of_lt hj, List.getElem?_drop]
    simp
  have lt : 0 < w.heap.size := by
    have c0 := cell 0 (by omega) 0 (by omega)
    unfold World.cell? at c0
    by_cases g : 0 < w.heap.size
    · exact g
    · rw [Array.getElem?_eq_none (by show w.heap.size ≤ 0; omega)] at c0
      simp at c0
  exact ⟨lt, fun k hk => ⟨cell k hk 0 (by omega), cell k hk 1 (by omega), cell k hk 2 (by omega), cell k hk 3 (by omega)⟩⟩
end Go.Proofs.YteedkcmjhdabeaaDoor

namespace Go.Proofs.YteedkcmjhdabeaaDoor
open Go.RowKit
set_option linter.unusedVariables false
set_option linter.unusedSimpArgs false
def CdR (w : World) (a : Option Addr) (l : List In) : Prop := Row w a l.length 3 (fun i => icell (l.getD i default))
theorem in_list_eqV {xs ys : List In} (hl : xs.length = ys.length) (h : ∀ i, i < xs.length → xs.getD i default = ys.getD i default) : xs = ys := by
  apply List.ext_getElem hl
  intro i h1 h2
  have := h i h1
  simpa [List.getD, h1, h2] using this
theorem ret_bV {x y : Bool} (h : x = y) : Ending.returned (.bool x) = .returned (.bool y) := by rw [h]
/-- A day's cells of a program. -/
theorem day_cells {w : World} {p : Pg} (h : PV w p) (h0 : 0 < p.days.length) : ∃ x o, p.da = some ⟨x, o, none⟩ ∧ ∀ V, Below w.heap.size w V → ∀ d, d < p.days.length → V.cell? ⟨x, o + d * 2, none⟩ = some (.int .i64 (p.days.getD d default).day) ∧ V.cell? ⟨x, o + d * 2 + 1, none⟩ = some (.slice (p.days.getD d default).ca (p.days.getD d default).code.length (p.days.getD d default).cc) := by
  obtain ⟨x, o, hda, _, _⟩ := h.days.2.2.2.2.oneP h0
  refine ⟨x, o, hda, fun V b d hd => ?_⟩
  obtain ⟨x', o', hda', _, hc⟩ := (h.days.2.2.2.2.later b).oneP h0
  rw [hda] at hda'
  injection hda' with e
  injection e with e1 e2
  subst e1 e2
  have c0 := hc d hd 0 (by omega)
  have c1 := hc d hd 1 (by omega)
  simp only [Sg.cs, Nat.add_zero, List.getD_cons_zero, List.getD_cons_succ] at c0 c1
  exact ⟨c0, c1⟩
theorem day_code {w V : World} {p : Pg} (h : PV w p) (b : Below w.heap.size w V) {d : Nat} (hd : d < p.days.length) : IR V (p.days.getD d default).ca (p.days.getD d default).code.length (p.days.getD d default).cc (p.days.getD d default).code := ((h.days.2.2.2.1 _ (sg_mem (i := d) hd)).2).later b
theorem cd_take {V : World} {a : Option Addr} {n c : Nat} {l : List In} (h : IR V a n c l) (m : Nat) (hm : m ≤ n) : CdR V a (l.take m) ∧ (l.take m).length = m := by
  have hl := h.2.1
  have e : (l.take m).length = m := by rw [List.length_take]; omega
  refine ⟨?_, e⟩
  unfold CdR
  rw [e]
  rcases h.2.2.2.2 with q | ⟨b, o, q1, q2, q3⟩
  · exact .inl (by omega)
  · refine .inr ⟨b, o, q1, q2, fun i hi j hj => ?_⟩
    rw [q3 i (by omega) j hj]
    have : (l.take m).getD i default = l.getD i default := by
      simp [List.getD, List.getElem?_take, hi]
    simp only [this]
end Go.Proofs.YteedkcmjhdabeaaDoor

namespace Go.Proofs.YteedkcmjhdabeaaDoor
open Go.RowKit
set_option linter.unusedVariables false
set_option linter.unusedSimpArgs false
theorem most_any (a b : Int) (w : World) : Calls Tryd.prog 7 #[.int .i64 a, .int .i64 b] w fun e w' => e = .returned (.int .i64 (max a b)) ∧ w' = w := by
  by_cases h : b < a
  · have m : max a b = a := by omega
    rw [m]
    clear m
    go_enter Tryd.func7, Tryd.ntmps7
    go_wp2
    go_ret
    exact ⟨rfl, rfl⟩
  · have m : max a b = b := by omega
    rw [m]
    clear m
    go_enter Tryd.func7, Tryd.ntmps7
    go_wp2
    go_ret
    exact ⟨rfl, rfl⟩
/-- The boxes while VerifyProof goes on. -/
structure PxR (w wr : World) (p : Pg) (prb xb : Nat) (r nd : Nds) : Prop where
  pb : BkP wr w.heap.size p.arr 26
  pr : BkP wr prb #[.int .i64 r.stack, .int .i64 r.fuel, .int .i64 r.back] 29
  xx : BkP wr xb #[.int .i64 nd.stack, .int .i64 nd.fuel, .int .i64 nd.back] 29
  be : Below w.heap.size w wr
  lo : w.heap.size ≤ xb ∧ prb ≠ xb
theorem PxR.later {w wr V : World} {p : Pg} {prb xb : Nat} {r nd : Nds} (h : PxR w wr p prb xb r nd) (b : Below wr.heap.size wr V) : PxR w V p prb xb r nd := ⟨h.pb.lat b, h.pr.lat b, h.xx.lat b, h.be.trans (b.mono h.be.size), h.lo⟩
theorem px_set {w wr : World} {p : Pg} {prb xb : Nat} {r nd nd' : Nds} (h : PxR w wr p prb xb r nd) (k : Nat) (v : Value) (hk : k < 3) (e : (#[.int .i64 nd.stack, .int .i64 nd.fuel, .int .i64 nd.back] : Array Value).set! k v = #[.int .i64 nd'.stack, .int .i64 nd'.fuel, .int .i64 nd'.back]) : PxR w (wr.setCell ⟨xb, k, none⟩ v) p prb xb r nd' := by
  have x1 := h.xx.set2 k v (by simpa using hk)
  rw [e] at x1
  exact ⟨h.pb.other xb k v (fun q => bk_ne h.pb h.xx (by decide) q.symm), h.pr.other xb k v (Ne.symm h.lo.2), x1, h.be.setCell (p := ⟨xb, k, none⟩) h.lo.1 v, h.lo⟩
/-- The three numbers that are told of an instruction. -/
theorem see_three (nd : Nds) (i : In) (h : Nat) : (vSee nd i h).stack = max nd.stack h ∧ (vSee nd i h).fuel = nd.fuel + 1 ∧ (vSee nd i h).back = if i.o = 3 then max nd.back i.b else nd.back := by
  unfold vSee
  simp only
  by_cases a : i.o = 6 ∨ i.o = 7
  · rw [if_pos a]
    exact ⟨rfl, rfl, by rw [if_neg (by omega)]⟩
  · rw [if_neg a]
    by_cases b : i.o = 4 ∨ i.o = 5
    · rw [if_pos b]
      exact ⟨rfl, rfl, by rw [if_neg (by omega)]⟩
    · rw [if_neg b]
      by_cases c : i.o = 3
      · rw [if_pos c, if_pos c]
        exact ⟨rfl, rfl, rfl⟩
      · rw [if_neg c, if_neg c]
        exact ⟨rfl, rfl, rfl⟩
theorem need_next {nd : Nds} {sg : Sg} {k : Nat} (hk : k < sg.code.length) : (vNeed nd sg.day sg.code (k + 1)).stack = max (vNeed nd sg.day sg.code k).stack (htF sg k) ∧ (vNeed nd sg.day sg.code (k + 1)).fuel = (vNeed nd sg.day sg.code k).fuel + 1 ∧ (vNeed nd sg.day sg.code (k + 1)).back = if (sg.code.getD k default).o = 3 then max (vNeed nd sg.day sg.code k).back (sg.code.getD k default).b else (vNeed nd sg.day sg.code k).back := by
  have e := see_three (vNeed nd sg.day sg.code k) (sg.code.getD k default) (htF sg k)
  have e2 : vNeed nd sg.day sg.code (k + 1) = vSee (vNeed nd sg.day sg.code k) (sg.code.getD k default) (htF sg k) := by
    simp only [vNeed]
    rw [htF_at hk]
  rw [e2]
  exact e
/-- Verify of a program whose numbers alone are others. -/
theorem vfy_other {p q : Pg} (hd : q.days = p.days) (h : (vfy p).1 = 0) (hq : canP q) : vfyA q = if q.stack = p.stack ∧ q.slots = p.slots ∧ q.cells = p.cells then (0, 0, 0, (vAll p.days p.days.length).2.2.2) else (147, p.days.length, 0, ⟨0, 0, 0, 0, 0⟩) := by
  obtain ⟨h1, h2, h3⟩ := vfy_ok h
  have e : vfyA q = vfy q := by unfold vfyA; rw [if_pos hq]
  rw [e]
  unfold vfy
  rw [hd, if_neg (by simpa using h1)]
  by_cases c : q.stack = p.stack ∧ q.slots = p.slots ∧ q.cells = p.cells
  · rw [if_pos c, if_pos ⟨c.1.trans h2.1, c.2.1.trans h2.2.1, c.2.2.trans h2.2.2⟩]
  · rw [if_neg c, if_neg (fun z => c ⟨z.1.trans h2.1.symm, z.2.1.trans h2.2.1.symm, z.2.2.trans h2.2.2.symm⟩)]
end Go.Proofs.YteedkcmjhdabeaaDoor

namespace Go.Proofs.YteedkcmjhdabeaaDoor
open Go.RowKit
set_option linter.unusedVariables false
set_option linter.unusedSimpArgs false
theorem vfyA_canV {p : Pg} (h : (vfyA p).1 = 0) : canP p ∧ vfyA p = vfy p := by
  by_cases c : canP p
  · exact ⟨c, by unfold vfyA; rw [if_pos c]⟩
  · exfalso
    unfold vfyA at h
    rw [if_neg c] at h
    simp at h
theorem fuel_of {p : Pg} (hc : canP p) {d : Nat} (hd : d < p.days.length) (h0 : (vAll p.days d).1 = 0) : 0 ≤ (vAll p.days d).2.2.2.fuel ∧ (vAll p.days d).2.2.2.fuel + (p.days.getD d default).code.length ≤ 262144 := by
  have e := all_fuel d (by omega) h0
  have t := tot_le (days := p.days) (d := d + 1) (by omega)
  have u := hc.2.2.1.2
  have s : totN p.days (d + 1) = totN p.days d + (p.days.getD d default).code.length := by
    unfold totN
    rw [List.take_succ_eq_append_getElem hd, List.map_append, List.sum_append]
    simp [List.getD, hd]
  rw [e]
  omega
theorem heights_at {w : World} {p : Pg} (hc : (vfyA p).1 = 0) {d : Nat} (hd : d < p.days.length) (h : PV w p) (hR : Rws w) (hU : Rul w) : Calls Tryd.prog 9 #[p.agg, .int .i64 (d : Int)] w fun e w' => Below w.heap.size w w' ∧ ∃ hb, e = .returned (.tuple #[.slice (some ⟨hb, 0, none⟩) (p.days.getD d default).code.length (p.days.getD d default).code.length, .int .i64 0]) ∧ BkP w' hb (htA (htF (p.days.getD d default)) (p.days.getD d default).code.length (p.days.getD d default).code.length) 3 := by
  refine (heights_any h hR hU).mono ?_
  intro e w' q
  obtain ⟨hb, _, h2, h3⟩ := q.ok hc d rfl hd
  exact ⟨q.bel, hb, h2, h3⟩
theorem px_start {w w1 w2 : World} {p : Pg} {st fu ba : Int} {r : Nds} (pb : BkP w1 w.heap.size p.arr 26) (h : Below w1.heap.size w1 w2) (b : Below w.heap.size w (w2.alloc (.cells #[.int .i64 st, .int .i64 fu, .int .i64 ba] 29))) (l : w.heap.size ≤ w2.heap.size) (hr : r.stack = st ∧ r.fuel = fu ∧ r.back = ba) : PxR w ((w2.alloc (.cells #[.int .i64 st, .int .i64 fu, .int .i64 ba] 29)).alloc (.cells #[.int .i64 0, .int .i64 0, .int .i64 0] 29)) p w2.heap.size (w2.heap.size + 1) r ⟨0, 0, 0, 0, 0⟩ := by
  obtain ⟨h1, h2, h3⟩ := hr
  subst h1 h2 h3
  have e : (w2.alloc (.cells #[.int .i64 r.stack, .int .i64 r.fuel, .int .i64 r.back] 29)).heap.size = w2.heap.size + 1 := by simp
  have k := heapN (w2.alloc (.cells #[.int .i64 r.stack, .int .i64 r.fuel, .int .i64 r.back] 29)) (.cells #[.int .i64 0, .int .i64 0, .int .i64 0] 29)
  rw [e] at k
  exact ⟨((pb.lat h).lat (allocBP _ _)).lat (allocBP _ _), BkP.lat (heapN _ _) (allocBP _ _), k, b.alloc b.size _, ⟨by omega, by omega⟩⟩
end Go.Proofs.YteedkcmjhdabeaaDoor
