/-
  VerifyProof (made by gen_wvproof.py).
-/
import Derived.Test.YtbhbbpbdnmhppaaDoorWVZ
namespace Go.Proofs.YtbhbbpbdnmhppaaDoor
open Go.RowKit
set_option linter.unusedVariables false
set_option linter.unusedSimpArgs false
theorem vfyA_canV {p : Pg} (h : (vfyA p).1 = 0) : canP p ∧ vfyA p = vfy p := by
  by_cases c : canP p
  · exact ⟨c, by unfold vfyA; rw [if_pos c]⟩
  · exfalso
    unfold vfyA at h
    rw [if_neg c] at h
    simp at h
theorem fuel_of {p : Pg} (hc : canP p) {d : Nat} (hd : d < p.days.length) (h0 : (vAll p.days d).1 = 0) : 0 ≤ (vAll p.days d).2.2.2.fuel ∧ (vAll p.days d).2.2.2.fuel + (p.days.getD d default).code.length ≤ 262144 := by
  have e := all_fuel d (by omega) h0
  have t := tot_le (days := p.days) (d := d + 1) (by omega)
  have u := hc.2.2.1.2
  have s : totN p.days (d + 1) = totN p.days d + (p.days.getD d default).code.length := by
    unfold totN
    rw [List.take_succ_eq_append_getElem hd, List.map_append, List.sum_append]
    simp [List.getD, hd]
  rw [e]
  omega
theorem heights_at {w : World} {p : Pg} (hc : (vfyA p).1 = 0) {d : Nat} (hd : d < p.days.length) (h : PV w p) (hR : Rws w) (hU : Rul w) : Calls Tryd.prog 11 #[p.agg, .int .i64 (d : Int)] w fun e w' => Below w.heap.size w w' ∧ ∃ hb, e = .returned (.tuple #[.slice (some ⟨hb, 0, none⟩) (p.days.getD d default).code.length (p.days.getD d default).code.length, .int .i64 0]) ∧ BkP w' hb (htA (htF (p.days.getD d default)) (p.days.getD d default).code.length (p.days.getD d default).code.length) 3 := by
  refine (heights_any h hR hU).mono ?_
  intro e w' q
  obtain ⟨hb, _, h2, h3⟩ := q.ok hc d rfl hd
  exact ⟨q.bel, hb, h2, h3⟩
set_option maxRecDepth 100000 in
set_option maxHeartbeats 1600000 in
theorem proof_bad {w : World} {p : Pg} (hp : PV w p) (hR : Rws w) (hU : Rul w) (zs zl zc : Int) (is : i64 zs) (il : i64 zl) (ic : i64 zc) (hc : (vfyA p).1 ≠ 0) : Calls Tryd.prog 3 #[p.agg, .int .i64 zs, .int .i64 zl, .int .i64 zc] w fun e w' => e = .returned (.bool true) ∧ Below w.heap.size w w' := by
  have B0 := Lib.hid (p := Below w.heap.size w (w.alloc p.box)) (allocBP _ _)
  have KL := Lib.hid (lives_any (hR.below B0.out) (hU.lat B0.out))
  have KV := Lib.hid (fun V (b : Below w.heap.size w V) => verify_any (hp.later b) (hR.below b) (hU.lat b))
  have PB := Lib.hid (p := BkP (w.alloc p.box) w.heap.size p.arr 26) (heapN _ _)
  have ne : ((vfyA p).1 != 0) = true := by simpa using hc
  generalize vfyA p = r at *
  clear hp hR hU hc is il ic
  unfold vfV at KV
  unfold Pg.agg at *
  unfold Pg.box at *
  unfold Pg.arr at PB
  obtain ⟨na, nc, names, ua, uc, curs, pa, pc, pool, hor, cells, slots, stack, da, dc, days⟩ := p
  obtain ⟨re, rs, ri, ⟨st, fu, ba, rl, ce⟩⟩ := r
  simp only at *
  go_enter Tryd.func3, Tryd.ntmps3
  go_wp2_with (first | (go_at_call 9; refine KL.out.mono ?_; rintro e w1 ⟨rfl, h1⟩; have B1 := Lib.hid (B0.out.trans (h1.mono B0.out.size)); have PB1 := Lib.hid (PB.out.lat h1); obtain ⟨x0, x1, x2, x3, x4, x5, x6, x7⟩ := box_all8 PB1.out; clear h1; have Q1 : True := trivial) | (go_at_call 10; have qq := Q1; refine (KV.out w1 B1.out).mono ?_; clear qq Q1; rintro e w2 ⟨rfl, h1⟩; have B2 := Lib.hid (p := Below w.heap.size w (w2.alloc (.cells #[.int .i64 st, .int .i64 fu, .int .i64 ba] 29))) ((B1.out.trans (h1.mono B1.out.size)).alloc (B1.out.trans (h1.mono B1.out.size)).size _); clear h1))
  go_ret
  exact ⟨rfl, B2.out⟩
theorem px_start {w w1 w2 : World} {p : Pg} {st fu ba : Int} {r : Nds} (pb : BkP w1 w.heap.size p.arr 26) (h : Below w1.heap.size w1 w2) (b : Below w.heap.size w (w2.alloc (.cells #[.int .i64 st, .int .i64 fu, .int .i64 ba] 29))) (l : w.heap.size ≤ w2.heap.size) (hr : r.stack = st ∧ r.fuel = fu ∧ r.back = ba) : PxR w ((w2.alloc (.cells #[.int .i64 st, .int .i64 fu, .int .i64 ba] 29)).alloc (.cells #[.int .i64 0, .int .i64 0, .int .i64 0] 29)) p w2.heap.size (w2.heap.size + 1) r ⟨0, 0, 0, 0, 0⟩ := by
  obtain ⟨h1, h2, h3⟩ := hr
  subst h1 h2 h3
  have e : (w2.alloc (.cells #[.int .i64 r.stack, .int .i64 r.fuel, .int .i64 r.back] 29)).heap.size = w2.heap.size + 1 := by simp
  have k := heapN (w2.alloc (.cells #[.int .i64 r.stack, .int .i64 r.fuel, .int .i64 r.back] 29)) (.cells #[.int .i64 0, .int .i64 0, .int .i64 0] 29)
  rw [e] at k
  exact ⟨((pb.lat h).lat (allocBP _ _)).lat (allocBP _ _), BkP.lat (heapN _ _) (allocBP _ _), k, b.alloc b.size _, ⟨by omega, by omega⟩⟩
end Go.Proofs.YtbhbbpbdnmhppaaDoor
