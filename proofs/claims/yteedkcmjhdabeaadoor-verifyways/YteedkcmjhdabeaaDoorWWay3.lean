/-
  VerifyWays.
-/
import Derived.Test.YteedkcmjhdabeaaDoorWWay2
import Derived.Test.YteedkcmjhdabeaaDoorME
import Derived.Deep.RegionHeld3
namespace Go.Proofs.YteedkcmjhdabeaaDoor
open Go.RowKit
set_option linter.unusedVariables false
set_option linter.unusedSimpArgs false
theorem drew1V (w : World) (n : Nat) : Below n w w.drew := ⟨rfl, rfl, rfl, Nat.le_refl _, fun _ _ => rfl⟩
theorem below_cellV {w V : World} (b : Below w.drew.heap.size w.drew V) {a : Addr} {v : Value} (h : w.cell? a = some v) : V.cell? a = some v := (b.cell (World.block_lt_of_cell? w a h)).trans h
theorem BoF.lat {w V : World} {a : Option Addr} {n : Nat} (h : BoF w a n) (b : Below w.heap.size w V) : BoF V a n := by
  rcases h with q | ⟨x, o, q1, q2, q3⟩
  · exact .inl q
  · exact .inr ⟨x, o, q1, Nat.lt_of_lt_of_le q2 b.size, fun i hi => by obtain ⟨z, hz⟩ := q3 i hi; exact ⟨z, (b.cell (p := ⟨x, o + i, none⟩) q2).trans hz⟩⟩
set_option maxRecDepth 100000 in
set_option maxHeartbeats 1600000 in
theorem ways_bad {w : World} {p : Pg} {sg : Int} {cha : Option Addr} {chn chc : Nat} (hp : PV w p) (hR : Rws w) (hU : Rul w) (hc : (vfyA p).1 ≠ 0 ∨ sg < 0 ∨ (p.days.length : Int) ≤ sg) : Calls Tryd.prog 4 #[p.agg, .int .i64 sg, .slice cha chn chc] w fun e w' => e = .returned (.bool true) ∧ Below w.heap.size w w' := by
  have B0 := Lib.hid (p := Below w.heap.size w (w.alloc p.box)) (allocBP _ _)
  have KL := Lib.hid (lives_any (hR.below B0.out) (hU.lat B0.out))
  have KV := Lib.hid (fun V (b : Below w.heap.size w V) => verify_any (hp.later b) (hR.below b) (hU.lat b))
  have PB := Lib.hid (p := BkP (w.alloc p.box) w.heap.size p.arr 26) (heapN _ _)
  have ways : ((vfyA p).1 != 0) = true ∨ (((vfyA p).1 != 0) = false ∧ sg < 0) ∨ (((vfyA p).1 != 0) = false ∧ ¬ sg < 0 ∧ (p.days.length : Int) ≤ sg) := by
    by_cases a : (vfyA p).1 = 0
    · by_cases b : sg < 0
      · exact .inr (.inl ⟨by simpa using a, b⟩)
      · exact .inr (.inr ⟨by simpa using a, b, by rcases hc with q | q | q; exact absurd a q; exact absurd q b; exact q⟩)
    · exact .inl (by simpa using a)
  generalize vfyA p = r at *
  clear hp hR hU hc
  unfold vfV at KV
  unfold Pg.agg at *
  unfold Pg.box at *
  unfold Pg.arr at PB
  obtain ⟨na, nc, names, ua, uc, curs, pa, pc, pool, hor, cells, slots, stack, da, dc, days⟩ := p
  obtain ⟨re, rs, ri, ⟨st, fu, ba, rl, ce⟩⟩ := r
  simp only at *
  rcases ways with ne | ⟨ne, s0⟩ | ⟨ne, s0, s1⟩
  all_goals
    go_enter Tryd.func4, Tryd.ntmps4
    go_wp2_with (first | (go_at_call 5; refine KL.out.mono ?_; rintro e w1 ⟨rfl, h1⟩; have B1 := Lib.hid (B0.out.trans (h1.mono B0.out.size)); have PB1 := Lib.hid (PB.out.lat h1); obtain ⟨x0, x1, x2, x3, x4, x5, x6, x7⟩ := box_all8 PB1.out; clear h1; have Q1 : True := trivial) | (go_at_call 6; have qq := Q1; refine (KV.out w1 B1.out).mono ?_; clear qq Q1; rintro e w2 ⟨rfl, h1⟩; have B2 := Lib.hid (p := Below w.heap.size w (w2.alloc (.cells #[.int .i64 st, .int .i64 fu, .int .i64 ba] 29))) ((B1.out.trans (h1.mono B1.out.size)).alloc (B1.out.trans (h1.mono B1.out.size)).size _); obtain ⟨y0, y1, y2, y3, y4, y5, y6, y7⟩ := box_all8 ((PB1.out.lat h1).lat (allocBP w2 (.cells #[.int .i64 st, .int .i64 fu, .int .i64 ba] 29))); clear h1))
    go_ret
    exact ⟨rfl, B2.out⟩
set_option maxRecDepth 100000 in
set_option maxHeartbeats 3200000 in
theorem ways_ok {w : World} {p : Pg} {d : Nat} {cha : Option Addr} {chn chc : Nat} (hp : PV w p) (hR : Rws w) (hU : Rul w) (hC : BoF w cha chn) (hc : (vfyA p).1 = 0) (hd : d < p.days.length) : Calls Tryd.prog 4 #[p.agg, .int .i64 (d : Int), .slice cha chn chc] w fun e w' => e = .returned (.bool true) ∧ Below w.heap.size w w' := by
  obtain ⟨cp, ev⟩ := vfyA_canV hc
  obtain ⟨o1, o2, o3⟩ := vfy_ok (p := p) (by rw [← ev]; exact hc)
  have B0 := Lib.hid (p := Below w.heap.size w (w.alloc p.box)) (allocBP _ _)
  have KL := Lib.hid (lives_any (hR.below B0.out) (hU.lat B0.out))
  have KV := Lib.hid (fun V (b : Below w.heap.size w V) => verify_any (hp.later b) (hR.below b) (hU.lat b))
  have PB := Lib.hid (p := BkP (w.alloc p.box) w.heap.size p.arr 26) (heapN _ _)
  have KH := Lib.hid (fun V (b : Below w.heap.size w V) => heights_at hc hd (hp.later b) (hR.below b) (hU.lat b))
  have KW := Lib.hid (p := ∀ V hb, Below w.heap.size w V → BkP V hb (htA (htF (p.days.getD d default)) (p.days.getD d default).code.length (p.days.getD d default).code.length) 3 → Calls Tryd.prog 10 #[.agg #[.int .i64 (p.days.getD d default).day, .slice (p.days.getD d default).ca (p.days.getD d default).code.length (p.days.getD d default).cc], .slice (some ⟨hb, 0, none⟩) (p.days.getD d default).code.length (p.days.getD d default).code.length, .agg #[.int .i64 (vfyA p).2.2.2.stack, .int .i64 (vfyA p).2.2.2.fuel, .int .i64 (vfyA p).2.2.2.back], .slice cha chn chc] V fun e w' => e = .returned (.bool true) ∧ Below V.heap.size V w') (fun V hb b hH => way_any (day_code hp b hd) (sg_ok cp hd) (all_ok o1 hd) (hR.below b) hH (fun k hk => by rw [ev, o3]; exact all_up p.days.length (Nat.le_refl _) o1 d hd k hk) (hC.lat b))
  obtain ⟨dx, dox, hda, hcell⟩ := day_cells hp (by omega)
  have DC := Lib.hid (fun V b => hcell V b d hd)
  have ne : ((vfyA p).1 != 0) = false := by simpa using hc
  have n3 := hp.days.2.2.1
  have two := (sg_ok cp hd).two
  clear hp hR hU hC hc cp ev o1 o2 o3 hcell
  generalize vfyA p = r at *
  unfold vfV at KV
  unfold Pg.agg at *
  unfold Pg.box at *
  unfold Pg.arr at PB
  obtain ⟨na, nc, names, ua, uc, curs, pa, pc, pool, hor, cells, slots, stack, da, dc, days⟩ := p
  obtain ⟨re, rs, ri, ⟨st, fu, ba, rl, ce⟩⟩ := r
  simp only at *
  subst hda
  generalize days.getD d default = s at *
  obtain ⟨sd, sa, sc, sl⟩ := s
  simp only at *
  obtain ⟨n, hn⟩ : ∃ n, sl.length = n := ⟨_, rfl⟩
  rw [hn] at KH KW DC two
  have d0 : ¬ (d : Int) < 0 := by omega
  have d1 : (d : Int) < (days.length : Int) := by omega
  have d2 : ¬ (days.length : Int) ≤ (d : Int) := by omega
  have nn : ((n : Int) != (n : Int)) = false := by simp
  generalize days.length = N at *
  go_enter Tryd.func4, Tryd.ntmps4
  go_wp2_with (first | (go_at_call 5; refine KL.out.mono ?_; rintro e w1 ⟨rfl, h1⟩; have B1 := Lib.hid (B0.out.trans (h1.mono B0.out.size)); have PB1 := Lib.hid (PB.out.lat h1); obtain ⟨x0, x1, x2, x3, x4, x5, x6, x7⟩ := box_all8 PB1.out; clear h1; have Q1 : True := trivial) | (go_at_call 6; have qq := Q1; refine (KV.out w1 B1.out).mono ?_; clear qq Q1; rintro e w2 ⟨rfl, h1⟩; have B2 := Lib.hid (p := Below w.heap.size w (w2.alloc (.cells #[.int .i64 st, .int .i64 fu, .int .i64 ba] 29))) ((B1.out.trans (h1.mono B1.out.size)).alloc (B1.out.trans (h1.mono B1.out.size)).size _); have PB2 := Lib.hid ((PB1.out.lat h1).lat (allocBP w2 (.cells #[.int .i64 st, .int .i64 fu, .int .i64 ba] 29))); obtain ⟨y0, y1, y2, y3, y4, y5, y6, y7⟩ := box_all8 PB2.out; have PR2 := Lib.hid (p := BkP (w2.alloc (.cells #[.int .i64 st, .int .i64 fu, .int .i64 ba] 29)) w2.heap.size #[.int .i64 st, .int .i64 fu, .int .i64 ba] 29) (heapN _ _); clear h1; have Q2 : True := trivial) | (go_at_call 9; have qq := Q2; refine (KH.out _ B2.out).mono ?_; clear qq Q2; rintro e w3 ⟨h1, hb, rfl, h2⟩; have B3 := Lib.hid (B2.out.trans (h1.mono B2.out.size)); obtain ⟨z0, z1, z2, z3, z4, z5, z6, z7⟩ := box_all8 (PB2.out.lat h1); obtain ⟨p0, p1, p2⟩ := boxV3 (PR2.out.lat h1); obtain ⟨c0, c1⟩ := DC.out w3 B3.out; have HB := Lib.hid h2; clear h1 h2))
  go_region_held3 (fun w' => w'.cell? ⟨w.heap.size, 7, none⟩ = some (.slice (some ⟨dx, dox, none⟩) N dc) ∧ w'.cell? ⟨dx, dox + d * 2, none⟩ = some (.int .i64 sd) ∧ w'.cell? ⟨dx, dox + d * 2 + 1, none⟩ = some (.slice sa n sc) ∧ w'.cell? ⟨w2.heap.size, 0, none⟩ = some (.int .i64 st) ∧ w'.cell? ⟨w2.heap.size, 1, none⟩ = some (.int .i64 fu) ∧ w'.cell? ⟨w2.heap.size, 2, none⟩ = some (.int .i64 ba))
    (refine ⟨?_, ?_, ?_, ?_, ?_, ?_⟩ <;> first | assumption | (go_simp; done))
    (first | (go_at_call 10; refine (KW.out w3.drew hb (B3.out.trans (drew1V _ _)) (HB.out.lat (drew1V _ _))).mono ?_; rintro e w4 ⟨rfl, h1⟩; have B4 := Lib.hid (p := Below w.heap.size w w4) ((B3.out.trans (drew1V _ _)).trans (h1.mono B3.out.size)); have u1 := below_cellV h1 z7; have u2 := below_cellV h1 c0; have u3 := below_cellV h1 c1; have u4 := below_cellV h1 p0; have u5 := below_cellV h1 p1; have u6 := below_cellV h1 p2; clear h1))
  all_goals go_wp2
  all_goals go_ret
  all_goals exact ⟨rfl, B4.out⟩
theorem verifyWays_any {w : World} {p : Pg} {sg : Int} {cha : Option Addr} {chn chc : Nat} (hp : PV w p) (hC : BoF w cha chn) (hR : Rws w) (hU : Rul w) : Calls Tryd.prog 4 #[p.agg, .int .i64 sg, .slice cha chn chc] w fun e w' => e = .returned (.bool true) ∧ Below w.heap.size w w' := by
  by_cases h : (vfyA p).1 = 0 ∧ 0 ≤ sg ∧ sg < (p.days.length : Int)
  · obtain ⟨d, rfl⟩ : ∃ d : Nat, sg = (d : Int) := ⟨sg.toNat, by omega⟩
    exact ways_ok hp hR hU hC h.1 (by omega)
  · exact ways_bad hp hR hU (by
      by_cases a : (vfyA p).1 = 0
      · by_cases b : sg < 0
        · exact .inr (.inl b)
        · exact .inr (.inr (by apply Classical.byContradiction; intro q; exact h ⟨a, by omega, by omega⟩))
      · exact .inl a)
theorem bof_of {w : World} {a : Option Addr} {n c : Nat} {l : List Bool} (h : (a = none ∧ n = 0 ∧ c = 0 ∧ l = []) ∨ ∃ x, a = some x ∧ n ≤ c ∧ c ≤ maxLen ∧ l.length = n ∧ ∀ i, i < n → w.cell? (x.add (i * 1)) = some (.bool (l.getD i default))) : BoF w a n := by
  rcases h with ⟨_, h0, _⟩ | ⟨x, rfl, _, _, _, hc⟩
  · exact .inl h0
  · by_cases h0 : n = 0
    · exact .inl h0
    · have q0 := hc 0 (by omega)
      obtain ⟨b, o, s⟩ := x
      have hs : s = none := by
        have := World.cell?_spot q0
        simpa [Addr.add] using this
      subst hs
      refine .inr ⟨b, o, rfl, ?_, fun i hi => ⟨_, by have := hc i hi; rw [Addr.add_lit, Nat.mul_one] at this; exact this⟩⟩
      have := World.block_lt_of_cell? w _ q0
      rw [Addr.add_lit] at this
      exact this
end Go.Proofs.YteedkcmjhdabeaaDoor
