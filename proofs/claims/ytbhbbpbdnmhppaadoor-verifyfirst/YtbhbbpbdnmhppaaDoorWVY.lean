/-
  VerifyFirst, where all is the same up to there (made by gen_wvy.py).
-/
import Derived.Test.YtbhbbpbdnmhppaaDoorWVX
import Derived.Test.YtbhbbpbdnmhppaaDoorWVX3
import Derived.Test.YtbhbbpbdnmhppaaDoorWVX4
namespace Go.Proofs.YtbhbbpbdnmhppaaDoor
open Go.RowKit
set_option linter.unusedVariables false
set_option linter.unusedSimpArgs false
set_option maxRecDepth 100000 in
set_option maxHeartbeats 1600000 in
theorem first_f5 {w : World} {p q : Pg} (hp : PV w p) (hq : PV w q) (hR : Rws w) (hU : Rul w) (h1 : ¬ (vfyA p).1 ≤ 141) (h2 : ¬ 146 < (vfyA p).1) (hc : canP q) (hs : (vfyA p).2.1 < p.days.length) (hi : (vfyA p).2.2.1 < (p.days.getD (vfyA p).2.1 default).code.length) (hq2 : (vfyA p).2.1 < q.days.length) (hd : (p.days.getD (vfyA p).2.1 default).day = (q.days.getD (vfyA p).2.1 default).day) (hl : ¬ (q.days.getD (vfyA p).2.1 default).code.length < (p.days.getD (vfyA p).2.1 default).code.length) (ht : (p.days.getD (vfyA p).2.1 default).code.take ((vfyA p).2.2.1 + 1) = (q.days.getD (vfyA p).2.1 default).code.take ((vfyA p).2.2.1 + 1)) : Calls Tryd.prog 4 #[p.agg, q.agg] w fun e w' => e = .returned (.bool true) ∧ Below w.heap.size w w' := by
  have B0 := Lib.hid (p := Below w.heap.size w ((w.alloc p.box).alloc q.box)) (((Below.refl _ w).alloc (Nat.le_refl _) _).alloc (by simp) _)
  have KL := Lib.hid (lives_any (hR.below B0.out) (hU.lat B0.out))
  have KV := Lib.hid (fun V (b : Below w.heap.size w V) => verify_any (hp.later b) (hR.below b) (hU.lat b))
  have KC := Lib.hid (fun V (b : Below w.heap.size w V) => canon_any (hq.later b) (hR.below b))
  have KW := Lib.hid (fun V (b : Below w.heap.size w V) => verify_any (hq.later b) (hR.below b) (hU.lat b))
  have PB := Lib.hid (p := BkP ((w.alloc p.box).alloc q.box) w.heap.size p.arr 26) (BkP.lat (heapN _ _) (allocBP _ _))
  have QB := Lib.hid (p := BkP ((w.alloc p.box).alloc q.box) (w.heap.size + 1) q.arr 26) (by
    have e : (w.alloc p.box).heap.size = w.heap.size + 1 := by simp
    have := heapN (w.alloc p.box) q.box
    rw [e] at this
    exact this)
  rw [if_pos hc] at KC
  obtain ⟨x, o, hda, DP⟩ := day_cells hp (by omega)
  have DPs := Lib.hid (fun V b => DP V b (vfyA p).2.1 hs)
  have LP := Lib.hid (p := (p.days.getD (vfyA p).2.1 default).code.length ≤ 5864062014634) ((hp.days.2.2.2.1 _ (sg_mem (i := (vfyA p).2.1) hs)).2.2.2.1)
  obtain ⟨x', o', hda', DQ⟩ := day_cells hq (by omega)
  have DQs := Lib.hid (fun V b => DQ V b (vfyA p).2.1 hq2)
  have KS := Lib.hid (p := ∀ V, Below w.heap.size w V → Calls Tryd.prog 14 #[.slice (p.days.getD (vfyA p).2.1 default).ca ((vfyA p).2.2.1 + 1) (p.days.getD (vfyA p).2.1 default).cc, .slice (q.days.getD (vfyA p).2.1 default).ca ((vfyA p).2.2.1 + 1) (q.days.getD (vfyA p).2.1 default).cc] V fun e w' => e = .returned (.bool (decide ((p.days.getD (vfyA p).2.1 default).code.take ((vfyA p).2.2.1 + 1) = (q.days.getD (vfyA p).2.1 default).code.take ((vfyA p).2.2.1 + 1)))) ∧ ∃ m, w' = V.drewN m) (fun V b => by
    obtain ⟨a1, a2⟩ := cd_take (day_code hp b hs) ((vfyA p).2.2.1 + 1) (by omega)
    obtain ⟨b1, b2⟩ := cd_take (day_code hq b hq2) ((vfyA p).2.2.1 + 1) (by omega)
    have := sameCode_any (p.days.getD (vfyA p).2.1 default).ca (q.days.getD (vfyA p).2.1 default).ca (p.days.getD (vfyA p).2.1 default).cc (q.days.getD (vfyA p).2.1 default).cc _ _ V a1 b1 (by have := LP.out; omega)
    rw [a2, b2] at this
    exact this)
  have CPp := Lib.hid (p := (p.days.getD (vfyA p).2.1 default).code.length ≤ (p.days.getD (vfyA p).2.1 default).cc) ((hp.days.2.2.2.1 _ (sg_mem (i := (vfyA p).2.1) hs)).2.1.2.1)
  have CPq := Lib.hid (p := (q.days.getD (vfyA p).2.1 default).code.length ≤ (q.days.getD (vfyA p).2.1 default).cc) ((hq.days.2.2.2.1 _ (sg_mem (i := (vfyA p).2.1) hq2)).2.1.2.1)
  rw [decide_eq_true ht] at KS
  have LDD := Lib.hid (p := p.days.length ≤ 4398046510976) hp.days.2.2.1
  have DPd := Lib.hid (p := ∀ V, Below w.heap.size w V → ∀ d, d < (vfyA p).2.1 → V.cell? ⟨x, o + d * 2, none⟩ = some (.int .i64 (p.days.getD d default).day) ∧ V.cell? ⟨x, o + d * 2 + 1, none⟩ = some (.slice (p.days.getD d default).ca (p.days.getD d default).code.length (p.days.getD d default).cc)) (fun V b d h => DP V b d (by omega))
  have DQd := Lib.hid (p := ∀ V, Below w.heap.size w V → ∀ d, d < (vfyA p).2.1 → V.cell? ⟨x', o' + d * 2, none⟩ = some (.int .i64 (q.days.getD d default).day) ∧ V.cell? ⟨x', o' + d * 2 + 1, none⟩ = some (.slice (q.days.getD d default).ca (q.days.getD d default).code.length (q.days.getD d default).cc)) (fun V b d h => DQ V b d (by omega))
  have KSd := Lib.hid (p := ∀ V, Below w.heap.size w V → ∀ d, d < (vfyA p).2.1 → Calls Tryd.prog 14 #[.slice (p.days.getD d default).ca (p.days.getD d default).code.length (p.days.getD d default).cc, .slice (q.days.getD d default).ca (q.days.getD d default).code.length (q.days.getD d default).cc] V fun e w' => e = .returned (.bool (decide ((p.days.getD d default).code = (q.days.getD d default).code))) ∧ ∃ m, w' = V.drewN m) (fun V b d h => by
    have i1 := day_code hp b (d := d) (by omega)
    have i2 := day_code hq b (d := d) (by omega)
    exact sameCode_any _ _ _ _ _ _ V i1.2.2.2.2 i2.2.2.2.2 i1.2.2.1)
  have KWq := Lib.hid (p := (∀ d, d < (vfyA p).2.1 → (p.days.getD d default).day = (q.days.getD d default).day ∧ (p.days.getD d default).code = (q.days.getD d default).code) → vfyA q = vfyA p) (fun z => by
    obtain ⟨cp, e1⟩ := vfyA_can (p := p) (by omega)
    have e2 : vfyA q = vfy q := by unfold vfyA; rw [if_pos hc]
    rw [e1] at h1 h2 hs hi hq2 hd hl ht z ⊢
    rw [e2]
    exact vfy_first (by omega) (by omega) hq2 hd (by omega) (fun j hj => take_same ht j hj) z)
  generalize hsp : p.days.getD (vfyA p).2.1 default = sp at *
  clear hsp
  generalize hsq : q.days.getD (vfyA p).2.1 default = sq at *
  clear hsq
  generalize hr : vfyA p = r at *
  clear hr
  clear hp hq hR hU hc DP DQ ht
  unfold Pg.agg at *
  unfold Pg.box at *
  unfold Pg.arr at PB QB
  obtain ⟨na, nc, names, ua, uc, curs, pa, pc, pool, hor, cells, slots, stack, da, dc, days⟩ := p
  obtain ⟨na', nc', names', ua', uc', curs', pa', pc', pool', hor', cells', slots', stack', da', dc', days'⟩ := q
  simp only at hda hda'
  subst hda hda'
  obtain ⟨re, rs, ri, ⟨st, fu, ba, sl, ce⟩⟩ := r
  unfold vfV at KV KW
  simp only at *
  have ks0 : ¬ (rs : Int) < 0 := by omega
  have ks1 : ¬ (days.length : Int) ≤ (rs : Int) := by omega
  have ks2 : (rs : Int) < (days.length : Int) := by omega
  have ki0 : ¬ (ri : Int) < 0 := by omega
  have ki1 : ¬ (sp.code.length : Int) ≤ (ri : Int) := by omega
  have kq : ¬ (days'.length : Int) ≤ (rs : Int) := by omega
  have kq2 : (rs : Int) < (days'.length : Int) := by omega
  have kqd : decide ((days'.length : Int) ≤ (rs : Int)) = false := decide_eq_false kq
  have kqn : decide (days'.length ≤ rs) = false := decide_eq_false (by omega)
  have kd : (sp.day != sq.day) = false := by simpa using hd
  have kl : decide ((sq.code.length : Int) < (sp.code.length : Int)) = false := decide_eq_false (by omega)
  have kln : decide (sq.code.length < sp.code.length) = false := decide_eq_false (by omega)
  have ki2 : IntKind.i64.wrap ((ri : Int) + 1) = ((ri + 1 : Nat) : Int) := by have := LP.out; simp [IntKind.wrap, IntKind.bits, IntKind.signed]; omega
  have kp : ri + 1 ≤ sp.cc := by have := CPp.out; omega
  have kp2 : ri + 1 ≤ sq.cc := by have := CPq.out; omega
  have kz1 : decide (days.length ≤ rs) = false := decide_eq_false (by omega)
  have kz2 : decide (sp.code.length ≤ ri) = false := decide_eq_false (by omega)
  have kz3 : decide ((rs : Int) < 0) = false := decide_eq_false ks0
  have kz4 : decide ((ri : Int) < 0) = false := decide_eq_false ki0
  have kz5 : decide (re ≤ 141) = false := decide_eq_false h1
  have kz6 : decide (146 < re) = false := decide_eq_false h2
  obtain ⟨pd, pca, pcc, pcode⟩ := sp
  obtain ⟨qd, qca, qcc, qcode⟩ := sq
  simp only at *
  have LD := Lib.hid (p := days.length ≤ 4398046510976) LDD.out
  have LR := Lib.hid (p := rs < days.length ∧ rs < days'.length) ⟨hs, hq2⟩
  clear hs hi hq2 hl hd
  go_enter Tryd.func4, Tryd.ntmps4
  go_wp2_with (first | (go_at_call 9; refine KL.out.mono ?_; rintro e w1 ⟨rfl, h1⟩; have B1 := Lib.hid (B0.out.trans (h1.mono B0.out.size)); have PB1 := Lib.hid (PB.out.lat h1); have QB1 := Lib.hid (QB.out.lat h1); obtain ⟨x0, x1, x2, x3, x4, x5, x6, x7⟩ := box_all8 PB1.out; clear h1; have Q1 : True := trivial) | (go_at_call 10; have qq := Q1; refine (KV.out w1 B1.out).mono ?_; clear qq Q1; rintro e w2 ⟨rfl, h1⟩; have B2 := Lib.hid (p := Below w.heap.size w (w2.alloc (.cells #[.int .i64 st, .int .i64 fu, .int .i64 ba] 29))) ((B1.out.trans (h1.mono B1.out.size)).alloc (B1.out.trans (h1.mono B1.out.size)).size _); have PB2 := Lib.hid ((PB1.out.lat h1).lat (allocBP _ (.cells #[.int .i64 st, .int .i64 fu, .int .i64 ba] 29))); have QB2 := Lib.hid ((QB1.out.lat h1).lat (allocBP _ (.cells #[.int .i64 st, .int .i64 fu, .int .i64 ba] 29))); obtain ⟨y0, y1, y2, y3, y4, y5, y6, y7⟩ := box_all8 QB2.out; clear h1; have Q2 : True := trivial) | (go_at_call 13; refine (KC.out _ B2.out).mono ?_; rintro e w3 ⟨rfl, h1⟩; have B3 := Lib.hid (B2.out.trans (h1.mono B2.out.size)); have PB3 := Lib.hid (PB2.out.lat h1); have QB3 := Lib.hid (QB2.out.lat h1); obtain ⟨_, _, _, _, _, _, _, z7⟩ := box_all8 PB3.out; obtain ⟨_, _, _, _, _, _, _, v7⟩ := box_all8 QB3.out; obtain ⟨c0, c1⟩ := DPs.out _ B3.out; obtain ⟨d0, d1⟩ := DQs.out _ B3.out; clear h1))
  go_quiet (first | (go_at_call 14; exact Calls.quiet_of (KS.out _ (bel_drV2 B3.out _))))
  go_wp2
  clear kz1 kz2 kz3 kz4 kz5 kz6 z7 v7 x0 x1 x2 x3 x4 x5 x6 x7 y0 y1 y2 y3 y4 y5 y6 y7 c0 c1 d0 d1 KS KL KV KC ki0 ki1 ki2 kp kp2 kl kln kd kq kqd kqn kq2 ks0 ks1 ks2 h1 h2
  go_loopw [10] (fun t wr => ∃ d : Nat, d ≤ rs ∧ t = .int .i64 (d : Int) ∧ RowKit.Hid (∀ d', d' < d → (days.getD d' default).day = (days'.getD d' default).day ∧ (days.getD d' default).code = (days'.getD d' default).code) ∧ Below w3.heap.size w3 wr) (fun t _ => rs - (intOf t).toNat)
  case atStart => exact ⟨0, by omega, rfl, (fun d' h => absurd h (by omega)), drewBP _ _⟩
  case round =>
    rename World => wr
    obtain ⟨d, hd, rfl, hA, hW⟩ := hrel
    have BW := Lib.hid (B3.out.trans (hW.mono B3.out.size))
    have PB4 := Lib.hid (PB3.out.lat hW)
    have QB4 := Lib.hid (QB3.out.lat hW)
    obtain ⟨_, _, _, _, _, _, _, z8⟩ := box_all8 PB4.out
    obtain ⟨t0, t1, t2, t3, t4, t5, t6, t7⟩ := box_all8 QB4.out
    have HW := Lib.hid hW
    clear hW
    by_cases hlt : d < rs
    · obtain ⟨c0, c1⟩ := DPd.out wr BW.out d hlt
      obtain ⟨d0, d1⟩ := DQd.out wr BW.out d hlt
      have KSn := Lib.hid (fun V b => KSd.out V b d hlt)
      have NX := Lib.hid (p := (days.getD d default).day = (days'.getD d default).day → (days.getD d default).code = (days'.getD d default).code → ∀ d', d' < d + 1 → (days.getD d' default).day = (days'.getD d' default).day ∧ (days.getD d' default).code = (days'.getD d' default).code) (fun e1 e2 d' h => by
        rcases (show d' < d ∨ d' = d by omega) with r | r
        · exact hA.out d' r
        · rw [r]; exact ⟨e1, e2⟩)
      have l0 : ¬ (d : Int) < 0 := by omega
      have l1 : (d : Int) < (rs : Int) := by omega
      have l2 : (d : Int) < (days.length : Int) := by have := LR.out.1; omega
      have l3 : (d : Int) < (days'.length : Int) := by have := LR.out.2; omega
      have l5 : IntKind.i64.wrap ((d : Int) + 1) = (d : Int) + 1 := by have := LP.out; simp [IntKind.wrap, IntKind.bits, IntKind.signed]; have := LD.out; omega
      generalize days.getD d default = s1 at *
      generalize days'.getD d default = s2 at *
      obtain ⟨e1, e2, e3, e4⟩ := s1
      obtain ⟨f1, f2, f3, f4⟩ := s2
      simp only at c0 c1 d0 d1 KSn NX
      by_cases g1 : e1 = f1
      · subst g1
        have k1 : (e1 != e1) = false := by simp
        by_cases g2 : e4 = f4
        · have N2 := Lib.hid (NX.out rfl g2)
          simp only [decide_eq_true g2] at KSn
          clear g2 hA
          go_wp2
          go_quiet (first | (go_at_call 14; exact Calls.quiet_of (KSn.out _ (bel_drV2 BW.out _))))
          go_wp2
          exact ⟨⟨d + 1, by omega, by go_num, N2.out, HW.out.trans (Below.mono (drewBP _ _) HW.out.size)⟩, by simp [intOf]; omega⟩
        · simp only [decide_eq_false g2] at KSn
          clear g2 hA
          go_wp2
          go_quiet (first | (go_at_call 14; exact Calls.quiet_of (KSn.out _ (bel_drV2 BW.out _))))
          go_wp2
          go_ret
          exact ⟨rfl, bel_drV2 BW.out _⟩
      · have k1 : (e1 != f1) = true := by simpa using g1
        clear g1 hA
        go_wp2
        go_quiet (fail)
        go_wp2
        go_ret
        exact ⟨rfl, bel_drV2 BW.out _⟩
    · obtain rfl : d = rs := by omega
      have ER := Lib.hid (KWq.out hA.out)
      have KW2 := Lib.hid (KW.out _ BW.out)
      simp only [ER.out] at KW2
      clear hA KW KWq ER
      go_wp2_with (go_at_call 10; refine KW2.out.mono ?_; rintro e w4 ⟨rfl, h1⟩; have B4 := Lib.hid (BW.out.trans (h1.mono BW.out.size)); clear h1)
      go_ret
      exact ⟨rfl, B4.out.alloc B4.out.size _⟩
theorem verifyFirst_any {w : World} {p q : Pg} (hp : PV w p) (hq : PV w q) (hR : Rws w) (hU : Rul w) : Calls Tryd.prog 4 #[p.agg, q.agg] w fun e w' => e = .returned (.bool true) ∧ Below w.heap.size w w' := by
  by_cases h1 : (vfyA p).1 ≤ 141
  · exact first_low hp hq hR hU h1
  by_cases h2 : 146 < (vfyA p).1
  · exact first_high hp hq hR hU h1 h2
  by_cases hc : canP q
  · obtain ⟨cp, e⟩ := vfyA_can (p := p) (by omega)
    have fp := first_place (p := p) (by rw [← e]; omega) (by rw [← e]; omega)
    rw [← e] at fp
    by_cases a1 : q.days.length ≤ (vfyA p).2.1
    · exact first_f1 hp hq hR hU h1 h2 hc fp.1 fp.2 a1
    have a2 : (vfyA p).2.1 < q.days.length := by omega
    by_cases a3 : (p.days.getD (vfyA p).2.1 default).day = (q.days.getD (vfyA p).2.1 default).day
    · by_cases a4 : (q.days.getD (vfyA p).2.1 default).code.length < (p.days.getD (vfyA p).2.1 default).code.length
      · exact first_f3 hp hq hR hU h1 h2 hc fp.1 fp.2 a2 a3 a4
      · by_cases a5 : (p.days.getD (vfyA p).2.1 default).code.take ((vfyA p).2.2.1 + 1) = (q.days.getD (vfyA p).2.1 default).code.take ((vfyA p).2.2.1 + 1)
        · exact first_f5 hp hq hR hU h1 h2 hc fp.1 fp.2 a2 a3 a4 a5
        · exact first_f4 hp hq hR hU h1 h2 hc fp.1 fp.2 a2 a3 a4 a5
    · exact first_f2 hp hq hR hU h1 h2 hc fp.1 fp.2 a2 a3
  · exact first_odd hp hq hR hU h1 h2 hc
end Go.Proofs.YtbhbbpbdnmhppaaDoor
