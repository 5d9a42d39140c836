import Derived.Test.YtjbbbejadhojlaaDoorXAQ
import Derived.Test.YtjbbbejadhojlaaDoorXAN
namespace Go.Proofs.YtjbbbejadhojlaaDoor
open Go.RowKit
set_option linter.unusedVariables false
set_option linter.unusedSimpArgs false
theorem vRun_before {day : Int} {code : List In} {m : Nat} (h : (vRun day code m).1 = 0) {k : Nat} (hk : k ≤ m) : (vRun day code k).1 = 0 := by
  by_cases e : (vRun day code k).1 = 0
  · exact e
  · rw [vRun_stop e m hk] at h
    exact absurd h e
theorem WkR.grownI {W V : World} {B wb ab : Nat} {day : Int} {ca : Option Addr} {cc n : Nat} {G : Tg} {A : Nat → Option Nat} {l : Nat → Option Vs} (h : WkR W B wb ab day ca cc n G A l) {x : Nat} {y : Array Value} (g : W.grownBy V (some x)) (hx : BkP W x y 3) : WkR V B wb ab day ca cc n G A l := by
  have no : ∀ {b z t}, BkP W b z t → t ≠ 3 → some b ≠ some x := fun k ht e => by injection e with e; exact bk_ne k hx ht e
  refine ⟨h.tri.other g hx (by decide), h.wk.grown g (no h.wk (by decide)), h.ah.grown g (no h.ah (by decide)), fun j hj => ?_, h.inj, h.low, h.ok⟩
  rcases h.st j hj with q | ⟨z, s, tb, ps, h1, h2, h3⟩
  · exact .inl q
  · exact .inr ⟨z, s, tb, ps, h1, h2, ⟨h3.top, h3.box.grown g (no h3.box (by decide)), h3.slt.other g hx (by decide), h3.low⟩⟩
/-- A round of Heights. -/
structure HrR (w wr : World) (wb ab hb : Nat) (sg : Sg) (k : Nat) : Prop where
  wk : ∃ G A, WkR wr w.heap.size wb ab sg.day sg.ca sg.cc sg.code.length G A (vRun sg.day sg.code k).2.2
  ro : BkP wr hb (htA (htF sg) k sg.code.length) 3
  be : Below w.heap.size w wr
structure HpE (w : World) (wb ab hb : Nat) (sg : Sg) (k : Nat) (V : World) : Prop where
  wk : ∃ G A, WkR V w.heap.size wb ab sg.day sg.ca sg.cc sg.code.length G A (vRun sg.day sg.code (k + 1)).2.2
  ro : BkP V hb (htA (htF sg) k sg.code.length) 3
  be : Below w.heap.size w V
  ce : ∃ hx, V.cell? ⟨wb, 2, none⟩ = some (.slice (some ⟨ab, 0, none⟩) sg.code.length sg.code.length) ∧ V.cell? ⟨ab, k, none⟩ = some (.pointer (some ⟨hx, 0, none⟩)) ∧ V.cell? ⟨hx, 1, none⟩ = some (.int .i64 (htF sg k : Int))
theorem htF_at {sg : Sg} {k : Nat} (hk : k < sg.code.length) : vHt (vRun sg.day sg.code (k + 1)).2.2 k = htF sg k := by
  unfold htF vHt
  rw [vRun_old (Nat.lt_succ_self k) sg.code.length hk]
theorem hr_pass {w wr : World} {wb ab hb : Nat} {sg : Sg} {k : Nat} (h : HrR w wr wb ab hb sg k) (hk : k < sg.code.length) (hs : SgOk sg) (hI : IR w sg.ca sg.code.length sg.cc sg.code) (hR : Rws w) (hU : Rul w) (ha : (vRun sg.day sg.code sg.code.length).1 = 0) :
    Calls Tryd.prog 17 #[.pointer (some ⟨wb, 0, none⟩), .int .i64 (k : Int)] wr fun e V => e = .returned (.int .i64 0) ∧ HpE w wb ab hb sg k V := by
  obtain ⟨G, A, hw⟩ := h.wk
  have h0 := vRun_before ha (Nat.le_of_lt hk)
  have h1 := vRun_before ha hk
  have e1 := vRun_succ h0
  have ez : (vPass sg.day sg.code.length (sg.code.getD k default) k (vRun sg.day sg.code k).2.2).1 = 0 := by rw [e1] at h1; exact h1
  refine (pass_any hw h.be.size hk hs.len (fun u hu => ?_) ⟨hI, hR, hU, Nat.le_refl _⟩ h.be (hs.ok k hk).1 (hs.ok k hk).2).mono ?_
  · have := vRun_high k k u hu
    have := hs.len
    omega
  · rintro e V ⟨p1, ⟨G', A', p2⟩, p3, p4⟩
    have e2 : (vRun sg.day sg.code (k + 1)).2.2 = (vPass sg.day sg.code.length (sg.code.getD k default) k (vRun sg.day sg.code k).2.2).2 := by rw [e1]
    refine ⟨by rw [p1, ez], ⟨G', A', by rw [e2]; exact p2⟩, p4 _ _ _ h.ro (by decide) (by decide) (by decide), h.be.trans p3, ?_⟩
    obtain ⟨u, hu⟩ := pass_has ez
    obtain ⟨hx, q1, q2⟩ := high_of p2 hk hu
    have q3 := p2.wk.cell 2
    simp at q3
    refine ⟨hx, q3, q1, ?_⟩
    rw [q2, ← htF_at hk, e2]
theorem hr_next {w V : World} {wb ab hb : Nat} {sg : Sg} {k : Nat} (h : HpE w wb ab hb sg k V) (hk : k < sg.code.length) (hb0 : w.heap.size ≤ hb) : HrR w (V.setCell ⟨hb, k, none⟩ (.int .i64 (htF sg k : Int))) wb ab hb sg (k + 1) := by
  obtain ⟨G, A, q⟩ := h.wk
  refine ⟨⟨G, A, q.grownI (setCell_gr V hb k _) h.ro⟩, ?_, h.be.setCell (p := ⟨hb, k, none⟩) hb0 _⟩
  have := h.ro.set2 k (.int .i64 (htF sg k : Int)) (by rw [htA_size]; exact hk)
  rw [htA_set _ _ _ hk] at this
  exact this
theorem two_pos {n : Nat} (h : 2 ≤ n) : 0 < n := by omega
theorem ht_start (V : World) (sg : Sg) (n : Nat) : BkP (V.alloc (.cells (madeCells #[.int .i64 0] n) 3)) V.heap.size (htA (htF sg) 0 n) 3 := by
  rw [htA_zero (htF sg)]
  exact heapN _ _
set_option maxRecDepth 100000 in
set_option maxHeartbeats 800000 in
theorem heights_ok {w : World} {p : Pg} (h : PV w p) (hR : Rws w) (hU : Rul w) (hc : (vfyA p).1 = 0) (d : Nat) (hd : d < p.days.length) : Calls Tryd.prog 10 #[p.agg, .int .i64 (d : Int)] w fun e w' => HtE w p (d : Int) e w' := by
  have cp : canP p := by
    refine Classical.byContradiction fun z => ?_
    unfold vfyA at hc
    rw [if_neg z] at hc
    simp at hc
  have vk : (vfy p).1 = 0 := by
    unfold vfyA at hc
    rw [if_pos cp] at hc
    exact hc
  have RN := Lib.hid (all_ok (vfy_ok vk).1 hd)
  have SO := Lib.hid (sg_ok cp hd)
  have B0 := Lib.hid (allocBP w p.box)
  have KV := Lib.hid (verify_any (h.later B0.out) (hR.below B0.out) (hU.lat B0.out))
  have E := Lib.hid (p := ∀ V hb, Below w.heap.size w V → w.heap.size ≤ hb → BkP V hb (htA (htF (p.days.getD d default)) (p.days.getD d default).code.length (p.days.getD d default).code.length) 3 → HtE w p (d : Int) (.returned (.tuple #[.slice (some ⟨hb, 0, none⟩) (p.days.getD d default).code.length (p.days.getD d default).code.length, .int .i64 0])) V) (fun V hb b b2 b3 => ⟨b, fun z => absurd hc z, fun _ z => by omega, fun _ d' e1 e2 => by
    have : d = d' := by omega
    subst this
    exact ⟨hb, b2, rfl, b3⟩⟩)
  have TB := Lib.hid (p := BkP (w.alloc p.box) w.heap.size p.arr 26) (heapN _ _)
  have ne : ((vfyA p).1 != 0) = false := by simpa using hc
  have DR := Lib.hid h.days.2.2.2.2
  have GI := Lib.hid (h.days.2.2.2.1 _ (sg_mem (i := d) hd)).2
  have HR := Lib.hid hR
  have HU := Lib.hid hU
  generalize vfyA p = r at *
  clear h hR hU hc cp vk
  unfold vfV at KV
  unfold Pg.agg at *
  unfold Pg.box at *
  unfold Pg.arr at TB
  obtain ⟨na, nc, names, ua, uc, curs, pa, pc, pool, hor, cells, slots, stack, da, dc, days⟩ := p
  obtain ⟨r1, r2, r3, ⟨st, fu, ba, rs, ce⟩⟩ := r
  simp only at *
  have l0 : ¬ (d : Int) < 0 := by omega
  have l1 : ¬ (days.length : Int) ≤ (d : Int) := by omega
  have l2 : (d : Int) < (days.length : Int) := by omega
  have CC := Lib.hid (p := ∀ V, Below w.heap.size w V → ∃ x o, da = some ⟨x, o, none⟩ ∧ V.cell? ⟨x, o + d * 2, none⟩ = some (.int .i64 (days.getD d default).day) ∧ V.cell? ⟨x, o + d * 2 + 1, none⟩ = some (.slice (days.getD d default).ca (days.getD d default).code.length (days.getD d default).cc)) (fun V b => by
    obtain ⟨x, o, hda, _, hc⟩ := (DR.out.later b).oneP (by omega)
    have c0 := hc d hd 0 (by omega)
    have c1 := hc d hd 1 (by omega)
    simp only [Sg.cs, Nat.add_zero, List.getD_cons_zero, List.getD_cons_succ] at c0 c1
    exact ⟨x, o, hda, c0, c1⟩)
  clear DR hd
  generalize days.getD d default = s at *
  obtain ⟨sd, sa, sc, sl⟩ := s
  simp only at *
  have N2 := Lib.hid SO.out.two
  have N3 := Lib.hid SO.out.len
  simp only at N2 N3
  obtain ⟨x, o, hda, _, _⟩ := CC.out w (Below.refl _ _)
  subst hda
  have CD := Lib.hid (p := ∀ V, Below w.heap.size w V → V.cell? ⟨x, o + d * 2, none⟩ = some (.int .i64 sd) ∧ V.cell? ⟨x, o + d * 2 + 1, none⟩ = some (.slice sa sl.length sc)) (fun V b => by
    obtain ⟨x', o', e, c0, c1⟩ := CC.out V b
    injection e with e
    injection e with e1 e2
    subst e1 e2
    exact ⟨c0, c1⟩)
  have M0 := make_intsV sl.length N3.out
  clear CC
  go_enter Tryd.func10, Tryd.ntmps10
  go_wp2_with (first | (go_at_call 6; refine KV.out.mono ?_; rintro e w1 ⟨rfl, h1⟩; have B1 := Lib.hid ((B0.out.trans (h1.mono B0.out.size)).alloc (B0.out.trans (h1.mono B0.out.size)).size (.cells #[.int .i64 st, .int .i64 fu, .int .i64 ba] 29)); obtain ⟨_, _, _, _, _, _, _, x7⟩ := box_all8 ((TB.out.lat h1).lat (allocBP _ (.cells #[.int .i64 st, .int .i64 fu, .int .i64 ba] 29))); obtain ⟨c0, c1⟩ := CD.out _ B1.out; clear h1) | (go_at_call 16; refine (enter_any (B := w.heap.size) (n := sl.length) B1.out.size (two_pos N2.out) N3.out).mono ?_; rintro e w2 ⟨⟨wb, ab, G, A, rfl, hw⟩, hb⟩; have B2 := Lib.hid (B1.out.trans (hb.mono B1.out.size)); have R2 := Lib.hid (p := HrR w (w2.alloc (.cells (madeCells #[.int .i64 0] sl.length) 3)) wb ab w2.heap.size ⟨sd, sa, sc, sl⟩ 0) ⟨⟨G, A, hw.later (allocBP _ _)⟩, ht_start _ _ _, B2.out.alloc B2.out.size _⟩; have y1 := hw.wk.cell 1; have y2 := (hw.later (allocBP _ (.cells (madeCells #[.int .i64 0] sl.length) 3))).wk.cell 1; simp at y1 y2; clear hw hb))
  clear x7 c0 c1 y1 y2 KV
  go_loopw [49] (fun t wr => ∃ k : Nat, k ≤ sl.length ∧ t = .int .i64 (k : Int) ∧ HrR w wr wb ab w2.heap.size ⟨sd, sa, sc, sl⟩ k) (fun t _ => sl.length - (intOf t).toNat)
  case atStart => exact ⟨0, by omega, rfl, R2.out⟩
  case round =>
    clear R2
    rename World => wr
    obtain ⟨k, hk, rfl, hH⟩ := hrel
    by_cases hkn : k < sl.length
    · have kc2 : (k : Int) < (sl.length : Int) := by omega
      have kk0 : ¬ (k : Int) < 0 := by omega
      have ks2 : IntKind.i64.wrap ((k : Int) + 1) = (k : Int) + 1 := by simp [IntKind.wrap, IntKind.bits, IntKind.signed]; have := N3.out; omega
      have KP := Lib.hid (hr_pass hH hkn SO.out GI.out HR.out HU.out RN.out)
      have NX := Lib.hid (fun V (q : HpE w wb ab w2.heap.size ⟨sd, sa, sc, sl⟩ k V) => hr_next q hkn B2.out.size)
      clear hH
      go_wp2_with (go_at_call 17; refine KP.out.mono ?_; rintro e w3 ⟨rfl, h1⟩; obtain ⟨hx, g1, g2, g3⟩ := h1.ce; have g4 := h1.ro.cell k; rw [htA_at _ _ _ _ hkn] at g4; have g5 := h1.ro.frozen k; have R3 := Lib.hid (NX.out w3 h1); simp only at g1; clear h1)
      go_roundw
      case rel => exact ⟨k + 1, by omega, by go_num, R3.out⟩
      case measure => simp [intOf]; omega
    · obtain rfl : k = sl.length := by omega
      have HH := Lib.hid hH
      clear hH
      go_wp2
      go_ret2
      exact E.out _ _ HH.out.be B2.out.size HH.out.ro
theorem heights_any {w : World} {p : Pg} {sg : Int} (h : PV w p) (hR : Rws w) (hU : Rul w) : Calls Tryd.prog 10 #[p.agg, .int .i64 sg] w fun e w' => HtE w p sg e w' := by
  by_cases hc : (vfyA p).1 = 0
  · by_cases ho : sg < 0 ∨ (p.days.length : Int) ≤ sg
    · exact heights_out h hR hU hc ho
    · obtain ⟨d, rfl⟩ : ∃ d : Nat, sg = (d : Int) := ⟨sg.toNat, by omega⟩
      exact heights_ok h hR hU hc d (by omega)
  · exact heights_odd h hR hU hc
end Go.Proofs.YtjbbbejadhojlaaDoor

namespace Go.Proofs.YtjbbbejadhojlaaDoor
open Go.RowKit
set_option linter.unusedVariables false
set_option linter.unusedSimpArgs false
def boundN (p : Pg) (o : Int) : Int := if o = 1 then p.pool.length else if o = 3 then p.names.length else if o = 28 then p.curs.length else if o = 4 ∨ o = 5 then p.cells else if o = 6 ∨ o = 7 then p.slots else 262144
theorem hi_lo {i : In} (h : i.okP) : 0 ≤ i.a ∧ i.a ≤ 262143 := by
  have h1 := h.1
  have h2 := h.2.1
  have h3 := h.2.2.1
  have h4 := h.2.2.2.1
  have hm := (tab_facts i.o.toNat (by omega)).2.1
  omega
theorem inB_bound {p : Pg} {i : In} (h : i.okP) : inB p i ↔ i.a < boundN p i.o := by
  obtain ⟨o, a, b⟩ := i
  have ho := hi_lo h
  unfold inB boundN
  simp only
  by_cases e1 : o = 1
  · subst e1; simp
  by_cases e3 : o = 3
  · subst e3; simp
  by_cases e28 : o = 28
  · subst e28; simp
  by_cases e4 : o = 4
  · subst e4; simp
  by_cases e5 : o = 5
  · subst e5; simp
  by_cases e6 : o = 6
  · subst e6; simp
  by_cases e7 : o = 7
  · subst e7; simp
  simp [e1, e3, e28, e4, e5, e6, e7]
  simp only at ho
  omega
theorem bound1_any {w : World} {p : Pg} : Calls Tryd.prog 50 #[p.agg, .int .i64 1] w fun e w' => e = .returned (.int .i64 (boundN p 1)) ∧ Below w.heap.size w w' := by
  have R := Lib.hid (p := boundN p 1 = p.pool.length) (by simp [boundN])
  rw [R.out]
  unfold Pg.agg
  obtain ⟨na, nc, names, ua, uc, curs, pa, pc, pool, hor, cells, slots, stack, da, dc, days⟩ := p
  clear R
  go_enter Tryd.func50, Tryd.ntmps50
  go_wp2
  go_ret
  exact ⟨rfl, allocBP w _⟩
theorem bound3_any {w : World} {p : Pg} : Calls Tryd.prog 50 #[p.agg, .int .i64 3] w fun e w' => e = .returned (.int .i64 (boundN p 3)) ∧ Below w.heap.size w w' := by
  have R := Lib.hid (p := boundN p 3 = p.names.length) (by simp [boundN])
  rw [R.out]
  unfold Pg.agg
  obtain ⟨na, nc, names, ua, uc, curs, pa, pc, pool, hor, cells, slots, stack, da, dc, days⟩ := p
  clear R
  go_enter Tryd.func50, Tryd.ntmps50
  go_wp2
  go_ret
  exact ⟨rfl, allocBP w _⟩
theorem bound28_any {w : World} {p : Pg} : Calls Tryd.prog 50 #[p.agg, .int .i64 28] w fun e w' => e = .returned (.int .i64 (boundN p 28)) ∧ Below w.heap.size w w' := by
  have R := Lib.hid (p := boundN p 28 = p.curs.length) (by simp [boundN])
  rw [R.out]
  unfold Pg.agg
  obtain ⟨na, nc, names, ua, uc, curs, pa, pc, pool, hor, cells, slots, stack, da, dc, days⟩ := p
  clear R
  go_enter Tryd.func50, Tryd.ntmps50
  go_wp2
  go_ret
  exact ⟨rfl, allocBP w _⟩
theorem bound4_any {w : World} {p : Pg} : Calls Tryd.prog 50 #[p.agg, .int .i64 4] w fun e w' => e = .returned (.int .i64 (boundN p 4)) ∧ Below w.heap.size w w' := by
  have R := Lib.hid (p := boundN p 4 = p.cells) (by simp [boundN])
  rw [R.out]
  unfold Pg.agg
  obtain ⟨na, nc, names, ua, uc, curs, pa, pc, pool, hor, cells, slots, stack, da, dc, days⟩ := p
  clear R
  go_enter Tryd.func50, Tryd.ntmps50
  go_wp2
  go_ret
  exact ⟨rfl, allocBP w _⟩
theorem bound5_any {w : World} {p : Pg} : Calls Tryd.prog 50 #[p.agg, .int .i64 5] w fun e w' => e = .returned (.int .i64 (boundN p 5)) ∧ Below w.heap.size w w' := by
  have R := Lib.hid (p := boundN p 5 = p.cells) (by simp [boundN])
  rw [R.out]
  unfold Pg.agg
  obtain ⟨na, nc, names, ua, uc, curs, pa, pc, pool, hor, cells, slots, stack, da, dc, days⟩ := p
  clear R
  go_enter Tryd.func50, Tryd.ntmps50
  go_wp2
  go_ret
  exact ⟨rfl, allocBP w _⟩
theorem bound6_any {w : World} {p : Pg} : Calls Tryd.prog 50 #[p.agg, .int .i64 6] w fun e w' => e = .returned (.int .i64 (boundN p 6)) ∧ Below w.heap.size w w' := by
  have R := Lib.hid (p := boundN p 6 = p.slots) (by simp [boundN])
  rw [R.out]
  unfold Pg.agg
  obtain ⟨na, nc, names, ua, uc, curs, pa, pc, pool, hor, cells, slots, stack, da, dc, days⟩ := p
  clear R
  go_enter Tryd.func50, Tryd.ntmps50
  go_wp2
  go_ret
  exact ⟨rfl, allocBP w _⟩
theorem bound7_any {w : World} {p : Pg} : Calls Tryd.prog 50 #[p.agg, .int .i64 7] w fun e w' => e = .returned (.int .i64 (boundN p 7)) ∧ Below w.heap.size w w' := by
  have R := Lib.hid (p := boundN p 7 = p.slots) (by simp [boundN])
  rw [R.out]
  unfold Pg.agg
  obtain ⟨na, nc, names, ua, uc, curs, pa, pc, pool, hor, cells, slots, stack, da, dc, days⟩ := p
  clear R
  go_enter Tryd.func50, Tryd.ntmps50
  go_wp2
  go_ret
  exact ⟨rfl, allocBP w _⟩
theorem boundE_any {w : World} {p : Pg} (k : Int) (n1 : k ≠ 1) (n3 : k ≠ 3) (n28 : k ≠ 28) (n4 : k ≠ 4) (n5 : k ≠ 5) (n6 : k ≠ 6) (n7 : k ≠ 7) : Calls Tryd.prog 50 #[p.agg, .int .i64 k] w fun e w' => e = .returned (.int .i64 (boundN p k)) ∧ Below w.heap.size w w' := by
  have R := Lib.hid (p := boundN p k = 262144) (by simp [boundN, n1, n3, n28, n4, n5, n6, n7])
  rw [R.out]
  unfold Pg.agg
  obtain ⟨na, nc, names, ua, uc, curs, pa, pc, pool, hor, cells, slots, stack, da, dc, days⟩ := p
  have b1 : (k == 1) = false := by simpa using n1
  have b3 : (k == 3) = false := by simpa using n3
  have b28 : (k == 28) = false := by simpa using n28
  have b4 : (k == 4) = false := by simpa using n4
  have b5 : (k == 5) = false := by simpa using n5
  have b6 : (k == 6) = false := by simpa using n6
  have b7 : (k == 7) = false := by simpa using n7
  clear R
  go_enter Tryd.func50, Tryd.ntmps50
  go_wp2
  go_ret
  exact ⟨rfl, allocBP w _⟩
theorem bound_any {w : World} {p : Pg} (k : Int) : Calls Tryd.prog 50 #[p.agg, .int .i64 k] w fun e w' => e = .returned (.int .i64 (boundN p k)) ∧ Below w.heap.size w w' := by
  by_cases e1 : k = 1
  · subst e1; exact bound1_any
  by_cases e3 : k = 3
  · subst e3; exact bound3_any
  by_cases e28 : k = 28
  · subst e28; exact bound28_any
  by_cases e4 : k = 4
  · subst e4; exact bound4_any
  by_cases e5 : k = 5
  · subst e5; exact bound5_any
  by_cases e6 : k = 6
  · subst e6; exact bound6_any
  by_cases e7 : k = 7
  · subst e7; exact bound7_any
  exact boundE_any k e1 e3 e28 e4 e5 e6 e7
/-- A row of counts that fills its block. -/
def RNo (W : World) (B g : Nat) (cs : List Int) : Prop := W.ownsRow B 3 1 (.slice (some ⟨g, 0, none⟩) cs.length cs.length) cs.length (intsP cs)
theorem RNo.at {W : World} {B g : Nat} {cs : List Int} (h : RNo W B g cs) (i : Nat) (hi : i < cs.length) : W.cell? ⟨g, i, none⟩ = some (.int .i64 (cs.getD i 0)) ∧ W.frozen? ⟨g, i, none⟩ = false := by
  refine ⟨own_cellsP h i _ ?_, World.ownsRow.frozenAt h i⟩
  have := intsP_at cs [] i hi
  simpa using this
theorem RNo.set {W : World} {B g : Nat} {cs : List Int} (h : RNo W B g cs) (i : Nat) (v : Int) : RNo (W.setCell ⟨g, i, none⟩ (.int .i64 v)) B g (cs.set i v) := by
  have := (World.ownsRow.stored h i (.int .i64 v)).1
  unfold RNo
  rw [List.length_set, show intsP (cs.set i v) = (intsP cs).set i (.int .i64 v) by simp [intsP, List.map_set]]
  exact this
theorem RNo.far {W W' : World} {B g : Nat} {cs : List Int} (h : RNo W B g cs) {x : Nat} (k : W.grownBy W' (some x)) (hx : x ≠ g) : RNo W' B g cs := row_farP h k (fun a q e e2 => by injection e with e; have e3 : g = q := Option.some.inj e2; omega)
theorem RNo.later {W W' : World} {B g : Nat} {cs : List Int} (h : RNo W B g cs) (k : Below W.heap.size W W') : RNo W' B g cs := row_farP h (gr_below k none) (fun a q e => by cases e)
/-- Counts and marks say the same. -/
def Rel (cs : List Int) (bs : List Bool) (M : Nat) : Prop := cs.length = bs.length ∧ ∀ j, j < cs.length → 0 ≤ cs.getD j 0 ∧ cs.getD j 0 ≤ M ∧ (cs.getD j 0 ≠ 0 ↔ bs.getD j false = true)
theorem Rel.wide {cs : List Int} {bs : List Bool} {M M' : Nat} (h : Rel cs bs M) (hm : M ≤ M') : Rel cs bs M' := ⟨h.1, fun j hj => ⟨(h.2 j hj).1, by have := (h.2 j hj).2.1; omega, (h.2 j hj).2.2⟩⟩
theorem Rel.set {cs : List Int} {bs : List Bool} {M : Nat} (h : Rel cs bs M) (i : Nat) (hi : i < cs.length) : Rel (cs.set i (cs.getD i 0 + 1)) (bs.set i true) (M + 1) := by
  refine ⟨by simp [h.1], fun j hj => ?_⟩
  rw [List.length_set] at hj
  have hj2 := h.2 j hj
  by_cases e : i = j
  · subst e
    have e1 : (cs.set i (cs.getD i 0 + 1)).getD i 0 = cs.getD i 0 + 1 := by simp [List.getD, hj]
    have e2 : (bs.set i true).getD i false = true := by simp [List.getD, show i < bs.length by rw [← h.1]; exact hj]
    rw [e1, e2]
    refine ⟨by omega, by omega, ⟨fun _ => rfl, fun _ => by omega⟩⟩
  · have e1 : (cs.set i (cs.getD i 0 + 1)).getD j 0 = cs.getD j 0 := by simp [List.getD, List.getElem?_set, e]
    have e2 : (bs.set i true).getD j false = bs.getD j false := by simp [List.getD, List.getElem?_set, e]
    rw [e1, e2]
    exact ⟨hj2.1, by omega, hj2.2.2⟩
theorem Rel.all {cs : List Int} {bs : List Bool} {M : Nat} (h : Rel cs bs M) : (∀ j, j < cs.length → cs.getD j 0 ≠ 0) ↔ bs.all id = true := by
  rw [List.all_eq_true]
  constructor
  · intro q b hb
    obtain ⟨i, hi, rfl⟩ := List.getElem_of_mem hb
    have := (h.2 i (by rw [h.1]; exact hi)).2.2.1 (q i (by rw [h.1]; exact hi))
    simpa [List.getD, hi] using this
  · intro q j hj
    refine (h.2 j hj).2.2.2 ?_
    have hb : j < bs.length := by rw [← h.1]; exact hj
    have := q bs[j] (List.getElem_mem hb)
    simpa [List.getD, hb] using this
set_option maxRecDepth 100000 in
theorem noneR_any {w : World} {B g : Nat} {cs : List Int} {bs : List Bool} {M : Nat} (h : RNo w B g cs) (hr : Rel cs bs M) (hn : cs.length ≤ 17592186043904) :
    Calls Tryd.prog 31 #[.slice (some ⟨g, 0, none⟩) cs.length cs.length] w fun e w' => e = .returned (.bool (!(bs.all id))) ∧ w' = w := by
  have H := Lib.hid (fun i hi => (h.at i hi).1)
  have RA := Lib.hid hr.all
  obtain ⟨n, hn'⟩ : ∃ n, cs.length = n := ⟨_, rfl⟩
  rw [hn'] at H hn RA ⊢
  clear h hn' hr
  go_enter Tryd.func31, Tryd.ntmps31
  go_wp2
  go_loopw [3] (fun t wr => ∃ k : Nat, k ≤ n ∧ t = .int .i64 (k : Int) ∧ RowKit.Hid (∀ i, i < k → cs.getD i 0 ≠ 0) ∧ w = wr) (fun t _ => n - (intOf t).toNat)
  case atStart => exact ⟨0, by omega, rfl, (fun i hi => absurd hi (by omega)), rfl⟩
  case round =>
    obtain ⟨k, hk, rfl, hE, rfl⟩ := hrel
    by_cases hlt : k < n
    · have c0 := H.out k hlt
      have kc : (k : Int) < (n : Int) := by omega
      by_cases e : cs.getD k 0 = 0
      · have NA := Lib.hid (p := bs.all id = false) (Bool.eq_false_iff.2 (fun q => RA.out.2 q k hlt e))
        rw [e] at c0
        clear hE e
        go_wp2
        go_ret
        exact ⟨by rw [NA.out]; rfl, rfl⟩
      · have NX := Lib.hid (p := ∀ i, i < k + 1 → cs.getD i 0 ≠ 0) (fun i hi => by
          rcases (show i < k ∨ i = k by omega) with r | r
          · exact hE.out i r
          · rw [r]; exact e)
        have eb : (cs.getD k 0 == 0) = false := by simpa using e
        generalize cs.getD k 0 = z at *
        clear hE e
        go_wp2
        go_roundw
        case rel => exact ⟨k + 1, by omega, by go_num, NX.out, by first | rfl | trivial⟩
        case measure => simp [intOf]; omega
    · obtain rfl : k = n := by omega
      have AA := Lib.hid (p := bs.all id = true) (RA.out.1 hE.out)
      clear hE
      go_wp2
      go_ret
      exact ⟨by rw [AA.out]; rfl, rfl⟩
end Go.Proofs.YtjbbbejadhojlaaDoor
