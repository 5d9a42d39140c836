/-
  VerifyFirst, the other is canonical (made by gen_wvx.py).
-/
import Derived.Test.YtbhbbpbdnmhppaaDoorWVX
namespace Go.Proofs.YtbhbbpbdnmhppaaDoor
open Go.RowKit
set_option linter.unusedVariables false
set_option linter.unusedSimpArgs false
set_option maxRecDepth 100000 in
set_option maxHeartbeats 1600000 in
theorem first_f3 {w : World} {p q : Pg} (hp : PV w p) (hq : PV w q) (hR : Rws w) (hU : Rul w) (h1 : ¬ (vfyA p).1 ≤ 141) (h2 : ¬ 146 < (vfyA p).1) (hc : canP q) (hs : (vfyA p).2.1 < p.days.length) (hi : (vfyA p).2.2.1 < (p.days.getD (vfyA p).2.1 default).code.length) (hq2 : (vfyA p).2.1 < q.days.length) (hd : (p.days.getD (vfyA p).2.1 default).day = (q.days.getD (vfyA p).2.1 default).day) (hl : (q.days.getD (vfyA p).2.1 default).code.length < (p.days.getD (vfyA p).2.1 default).code.length) : Calls Tryd.prog 4 #[p.agg, q.agg] w fun e w' => e = .returned (.bool true) ∧ Below w.heap.size w w' := by
  have B0 := Lib.hid (p := Below w.heap.size w ((w.alloc p.box).alloc q.box)) (((Below.refl _ w).alloc (Nat.le_refl _) _).alloc (by simp) _)
  have KL := Lib.hid (lives_any (hR.below B0.out) (hU.lat B0.out))
  have KV := Lib.hid (fun V (b : Below w.heap.size w V) => verify_any (hp.later b) (hR.below b) (hU.lat b))
  have KC := Lib.hid (fun V (b : Below w.heap.size w V) => canon_any (hq.later b) (hR.below b))
  have KW := Lib.hid (fun V (b : Below w.heap.size w V) => verify_any (hq.later b) (hR.below b) (hU.lat b))
  have PB := Lib.hid (p := BkP ((w.alloc p.box).alloc q.box) w.heap.size p.arr 26) (BkP.lat (heapN _ _) (allocBP _ _))
  have QB := Lib.hid (p := BkP ((w.alloc p.box).alloc q.box) (w.heap.size + 1) q.arr 26) (by
    have e : (w.alloc p.box).heap.size = w.heap.size + 1 := by simp
    have := heapN (w.alloc p.box) q.box
    rw [e] at this
    exact this)
  rw [if_pos hc] at KC
  obtain ⟨x, o, hda, DP⟩ := day_cells hp (by omega)
  have DPs := Lib.hid (fun V b => DP V b (vfyA p).2.1 hs)
  have LP := Lib.hid (p := (p.days.getD (vfyA p).2.1 default).code.length ≤ 5864062014634) ((hp.days.2.2.2.1 _ (sg_mem (i := (vfyA p).2.1) hs)).2.2.2.1)
  obtain ⟨x', o', hda', DQ⟩ := day_cells hq (by omega)
  have DQs := Lib.hid (fun V b => DQ V b (vfyA p).2.1 hq2)
  generalize hsp : p.days.getD (vfyA p).2.1 default = sp at *
  clear hsp
  generalize hsq : q.days.getD (vfyA p).2.1 default = sq at *
  clear hsq
  generalize hr : vfyA p = r at *
  clear hr
  clear hp hq hR hU KW hc DP DQ
  unfold Pg.agg at *
  unfold Pg.box at *
  unfold Pg.arr at PB QB
  obtain ⟨na, nc, names, ua, uc, curs, pa, pc, pool, hor, cells, slots, stack, da, dc, days⟩ := p
  obtain ⟨na', nc', names', ua', uc', curs', pa', pc', pool', hor', cells', slots', stack', da', dc', days'⟩ := q
  simp only at hda hda'
  subst hda hda'
  obtain ⟨re, rs, ri, ⟨st, fu, ba, sl, ce⟩⟩ := r
  unfold vfV at KV
  simp only at *
  have ks0 : ¬ (rs : Int) < 0 := by omega
  have ks1 : ¬ (days.length : Int) ≤ (rs : Int) := by omega
  have ks2 : (rs : Int) < (days.length : Int) := by omega
  have ki0 : ¬ (ri : Int) < 0 := by omega
  have ki1 : ¬ (sp.code.length : Int) ≤ (ri : Int) := by omega
  have kq : ¬ (days'.length : Int) ≤ (rs : Int) := by omega
  have kq2 : (rs : Int) < (days'.length : Int) := by omega
  have kqd : decide ((days'.length : Int) ≤ (rs : Int)) = false := decide_eq_false kq
  have kqn : decide (days'.length ≤ rs) = false := decide_eq_false (by omega)
  have kd : (sp.day != sq.day) = false := by simpa using hd
  have kl : decide ((sq.code.length : Int) < (sp.code.length : Int)) = true := decide_eq_true (by omega)
  have kln : decide (sq.code.length < sp.code.length) = true := decide_eq_true (by omega)
  obtain ⟨pd, pca, pcc, pcode⟩ := sp
  obtain ⟨qd, qca, qcc, qcode⟩ := sq
  simp only at *
  clear hs hi hq2 hl hd
  go_enter Tryd.func4, Tryd.ntmps4
  go_wp2_with (first | (go_at_call 9; refine KL.out.mono ?_; rintro e w1 ⟨rfl, h1⟩; have B1 := Lib.hid (B0.out.trans (h1.mono B0.out.size)); have PB1 := Lib.hid (PB.out.lat h1); have QB1 := Lib.hid (QB.out.lat h1); obtain ⟨x0, x1, x2, x3, x4, x5, x6, x7⟩ := box_all8 PB1.out; clear h1; have Q1 : True := trivial) | (go_at_call 10; have qq := Q1; refine (KV.out w1 B1.out).mono ?_; clear qq Q1; rintro e w2 ⟨rfl, h1⟩; have B2 := Lib.hid (p := Below w.heap.size w (w2.alloc (.cells #[.int .i64 st, .int .i64 fu, .int .i64 ba] 29))) ((B1.out.trans (h1.mono B1.out.size)).alloc (B1.out.trans (h1.mono B1.out.size)).size _); have PB2 := Lib.hid ((PB1.out.lat h1).lat (allocBP _ (.cells #[.int .i64 st, .int .i64 fu, .int .i64 ba] 29))); have QB2 := Lib.hid ((QB1.out.lat h1).lat (allocBP _ (.cells #[.int .i64 st, .int .i64 fu, .int .i64 ba] 29))); obtain ⟨y0, y1, y2, y3, y4, y5, y6, y7⟩ := box_all8 QB2.out; clear h1; have Q2 : True := trivial) | (go_at_call 13; refine (KC.out _ B2.out).mono ?_; rintro e w3 ⟨rfl, h1⟩; have B3 := Lib.hid (B2.out.trans (h1.mono B2.out.size)); have PB3 := Lib.hid (PB2.out.lat h1); have QB3 := Lib.hid (QB2.out.lat h1); obtain ⟨_, _, _, _, _, _, _, z7⟩ := box_all8 PB3.out; obtain ⟨_, _, _, _, _, _, _, v7⟩ := box_all8 QB3.out; obtain ⟨c0, c1⟩ := DPs.out _ B3.out; obtain ⟨d0, d1⟩ := DQs.out _ B3.out; clear h1))
  go_quiet (fail)
  go_wp2
  go_ret
  exact ⟨rfl, bel_drV2 B3.out _⟩
end Go.Proofs.YtbhbbpbdnmhppaaDoor
