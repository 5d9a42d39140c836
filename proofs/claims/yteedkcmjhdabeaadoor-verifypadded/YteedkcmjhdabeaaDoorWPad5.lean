/-
  VerifyPadded, the program verifies: the walk.
-/
import Derived.Test.YteedkcmjhdabeaaDoorWPad4
namespace Go.Proofs.YteedkcmjhdabeaaDoor
open Go.RowKit
set_option linter.unusedVariables false
set_option linter.unusedSimpArgs false
theorem own_new3 (W : World) (B : Nat) (hb : B ≤ W.heap.size) : (W.alloc (.cells #[] 38)).ownsRow B 38 3 (.slice (some ⟨W.heap.size, 0, none⟩) 0 0) 0 [] := World.ownsRow_made W #[] 0 hb (by unfold maxLen; omega) rfl
set_option maxRecDepth 100000 in
set_option maxHeartbeats 6400000 in
theorem padded_ok {w : World} {p : Pg} {d : Nat} (hp : PV w p) (hR : Rws w) (hU : Rul w) (hc : (vfyA p).1 = 0) (hd : d < p.days.length) : Calls Tryd.prog 3 #[p.agg, .int .i64 (d : Int)] w fun e w' => e = .returned (.bool true) ∧ Below w.heap.size w w' := by
  obtain ⟨cp, ev⟩ := vfyA_canV hc
  have B0 := Lib.hid (p := Below w.heap.size w (w.alloc p.box)) (allocBP _ _)
  have KL := Lib.hid (lives_any (hR.below B0.out) (hU.lat B0.out))
  have KV := Lib.hid (fun V (b : Below w.heap.size w V) => verify_any (hp.later b) (hR.below b) (hU.lat b))
  have PB := Lib.hid (p := BkP (w.alloc p.box) w.heap.size p.arr 26) (heapN _ _)
  have KC := Lib.hid (fun V q (b : Below w.heap.size w V) (h : PV V q) => canon_any h (hR.below b))
  have KQ := Lib.hid (fun V q (b : Below w.heap.size w V) (h : PV V q) => verify_any h (hR.below b) (hU.lat b))
  have two := (sg_ok cp hd).two
  have big := (sg_ok cp hd).len
  have PM := Lib.hid (fun V xb qb g cap g2 cap2 st fu ba h o => pad_mem (V := V) (xb := xb) (qb := qb) (g := g) (cap := cap) (g2 := g2) (cap2 := cap2) (st := st) (fu := fu) (ba := ba) hp hd two big h o)
  have PC := Lib.hid (fun g cap g2 cap2 (ht : totN p.days p.days.length + 2 ≤ 262144) => pad_can (padP_rel p hd g cap g2 cap2) cp rfl rfl rfl rfl rfl rfl rfl ht)
  have PF := Lib.hid (pad_fuel hc)
  have FB : 0 ≤ (vfyA p).2.2.2.fuel ∧ (vfyA p).2.2.2.fuel ≤ 262144 := by rw [pad_fuel hc]; have := cp.2.2.1.2; omega
  have PW := Lib.hid (fun g cap g2 cap2 (hq : canP (padP p d g cap g2 cap2)) => pad_vfy (padP_rel p hd g cap g2 cap2) hc rfl rfl rfl hq)
  obtain ⟨dx, dox, hda, hcell⟩ := day_cells hp (by omega)
  have DC := Lib.hid (fun V b => hcell V b d hd)
  have SC := Lib.hid (p := ∀ V, Below w.heap.size w V → ∀ i, i < p.days.length → ∀ j, j < 2 → V.cell? ⟨dx, dox + i * 2 + j, none⟩ = some ((sgV p.days i).getD j default)) (fun V b i hi j hj => by
    obtain ⟨q0, q1⟩ := hcell V b i hi
    rcases (show j = 0 ∨ j = 1 by omega) with rfl | rfl
    · exact q0
    · exact q1)
  have IC := Lib.hid (fun V (b : Below w.heap.size w V) => day_code hp b hd)
  have PS := Lib.hid (fun w2 w9 N g cap st fu ba hN pb b2 l2 W8 h8 o gr => pd_start (w := w) (w2 := w2) (w9 := w9) (p := p) (N := N) (g := g) (cap := cap) (st := st) (fu := fu) (ba := ba) hN pb b2 l2 (W8 := W8) h8 o gr)
  have n3 := hp.days.2.2.1
  have ne : ((vfyA p).1 != 0) = false := by simpa using hc
  have tot := hc
  clear hp hR hU hc cp ev hcell tot
  generalize vfyA p = r at *
  unfold vfV at KV
  obtain ⟨re, rs, ri, ⟨st, fu, ba, rl, ce⟩⟩ := r
  simp only at ne KV PF PW FB
  unfold Pg.agg at KV ⊢
  unfold Pg.box at *
  unfold Pg.arr at PB PS
  obtain ⟨na, nc, names, ua, uc, curs, pa, pc, pool, hor, cells, slots, stack, da, dc, days⟩ := p
  simp only at *
  subst hda
  generalize hs0 : days.getD d default = s0 at *
  have HS0 := Lib.hid hs0
  clear hs0
  obtain ⟨sd, sa, sc, sl⟩ := s0
  simp only at *
  have IC2 := (IC.out w (Below.refl _ _))
  obtain ⟨cx, co, hca, _, _⟩ := IC2.2.2.2.2.oneP (by omega)
  have scn : sl.length ≤ sc := IC2.1.2.1
  have CE0 := Lib.hid (p := ∀ V, Below w.heap.size w V → ∀ i, i < sl.length → ∀ j, j < 3 → V.cell? ⟨cx, co + i * 3 + j, none⟩ = some ((inW sl i).getD j default)) (fun V b i hi j hj => by
    obtain ⟨cx', co', h', _, hh⟩ := (IC.out V b).2.2.2.2.oneP (by omega)
    rw [hca] at h'
    simp only [Option.some.injEq, Addr.mk.injEq] at h'
    obtain ⟨rfl, rfl, _⟩ := h'
    exact hh i hi j hj)
  clear IC IC2
  subst hca
  obtain ⟨n, hn⟩ : ∃ n, sl.length = n := ⟨_, rfl⟩
  rw [hn] at CE0 two big DC scn
  have HN := Lib.hid hn
  clear hn
  have d0 : ¬ (d : Int) < 0 := by omega
  have d1 : (d : Int) < (days.length : Int) := by omega
  have d2 : ¬ (days.length : Int) ≤ (d : Int) := by omega
  go_enter Tryd.func3, Tryd.ntmps3
  go_wp2_with (first | (go_at_call 5; refine KL.out.mono ?_; rintro e w1 ⟨rfl, h1⟩; have B1 := Lib.hid (B0.out.trans (h1.mono B0.out.size)); have PB1 := Lib.hid (PB.out.lat h1); obtain ⟨x0, x1, x2, x3, x4, x5, x6, x7⟩ := box_all8 PB1.out; clear h1; have Q1 : True := trivial) | (go_at_call 6; have qq := Q1; refine (KV.out w1 B1.out).mono ?_; clear qq Q1; rintro e w2 ⟨rfl, h1⟩; have B2 := Lib.hid (p := Below w.heap.size w (w2.alloc (.cells #[.int .i64 st, .int .i64 fu, .int .i64 ba] 29))) ((B1.out.trans (h1.mono B1.out.size)).alloc (B1.out.trans (h1.mono B1.out.size)).size _); have L2 := Lib.hid (Nat.le_trans B1.out.size h1.size); have PB2 := Lib.hid ((PB1.out.lat h1).lat (allocBP w2 (.cells #[.int .i64 st, .int .i64 fu, .int .i64 ba] 29))); obtain ⟨y0, y1, y2, y3, y4, y5, y6, y7⟩ := box_all8 PB2.out; have z6 := fun o => bel_cellP (allocBP (w2.alloc (.cells #[.int .i64 st, .int .i64 fu, .int .i64 ba] 29)) o) y6; have z7 := fun o o' => bel_cellP (allocBP _ o') (bel_cellP (allocBP (w2.alloc (.cells #[.int .i64 st, .int .i64 fu, .int .i64 ba] 29)) o) y7); clear h1) | (go_at_call 7; refine (most_any stack 1 _).mono ?_; rintro e w3 ⟨rfl, hw⟩; have hw' := hw.symm; subst hw'; clear hw) | (at_builtin; refine wp_segs _ rfl _ _ rfl w.heap.size dx dox days.length dc days (w2.heap.size + 1 + 1) (by simp) rfl rfl rfl (by omega) n3 (fun V b => SC.out V ((B2.out.alloc B2.out.size _).trans (b.mono (B2.out.alloc B2.out.size _).size))) (B2.out.alloc B2.out.size _).size ?_; intro g cap w9 k1 k2; obtain ⟨e1, e2, e3⟩ := PS.out w2 w9 days.length g cap st fu ba rfl PB2.out B2.out L2.out _ rfl k1 k2; obtain ⟨f0, f1, f2, f3, f4, f5, f6, f7⟩ := box_all8 e3.pb; obtain ⟨c0, c1⟩ := DC.out _ e3.be; have E3 := Lib.hid e3; clear k1 k2 e3))
  clear x0 x1 x2 x3 x4 x5 x6 x7 y0 y1 y2 y3 y4 y5 y6 y7 z6 z7 e1 e2 f0 f1 f2 f3 f4 f5 f6 f7 c0 c1 B0 KL KV PB PS PB1 B1
  obtain ⟨W9, hW9⟩ : ∃ W, w9.setCell ⟨w2.heap.size + 1, 7, none⟩ (.slice (some ⟨g, 0, none⟩) days.length cap) = W := ⟨_, rfl⟩
  rw [hW9] at E3 ⊢
  clear hW9 SC DC
  obtain ⟨m1, hm1⟩ : ∃ m1, n - 1 = m1 := ⟨_, rfl⟩
  have CE := Lib.hid (p := ∀ V, Below w.heap.size w V → ∀ i, i < m1 → ∀ j, j < 3 → V.cell? ⟨cx, co + i * 3 + j, none⟩ = some ((inW sl i).getD j default)) (fun V b i hi j hj => CE0.out V b i (by omega) j hj)
  have FP := Lib.hid (p := flatV m1 (inW sl) ++ flatV 3 (inW padT) = flatV (n + 2) (inW (padC sl))) (by rw [← hm1]; exact flat_pad HN.out (by omega))
  have NE := Lib.hid (p := m1 + 3 = n + 2) (by omega)
  have M0 := Lib.hid (p := 0 < m1) (by omega)
  have M1 := Lib.hid (p := 0 + m1 ≤ 5864062014700) (by omega)
  have M3 := Lib.hid (p := m1 + 3 ≤ 5864062014700) (by omega)
  have ew : IntKind.i64.wrap ((n : Int) - 1) = (m1 : Int) := by simp [IntKind.wrap, IntKind.bits, IntKind.signed]; omega
  have m0 : ¬ (m1 : Int) < 0 := by omega
  have msc : m1 ≤ sc := by omega
  have msc2 : ¬ (sc : Int) < (m1 : Int) := by omega
  have PMN := Lib.hid (p := ∀ V g2 cap2, PdR w V ⟨na, nc, names, ua, uc, curs, pa, pc, pool, hor, cells, slots, stack, some ⟨dx, dox, none⟩, dc, days⟩ days.length w2.heap.size (w2.heap.size + 1) g cap st fu ba (.slice na names.length nc) (.slice ua curs.length uc) (.slice pa pool.length pc) → V.ownsRow w.heap.size 38 3 (.slice (some ⟨g2, 0, none⟩) (n + 2) cap2) (n + 2) (flatV (n + 2) (inW (padC sl))) → V.cell? ⟨g, d * 2 + 1, none⟩ = some (.slice (some ⟨cx, co, none⟩) n sc) ∧ V.frozen? ⟨g, d * 2 + 1, none⟩ = false ∧ PV (V.setCell ⟨g, d * 2 + 1, none⟩ (.slice (some ⟨g2, 0, none⟩) (n + 2) cap2)) (padP ⟨na, nc, names, ua, uc, curs, pa, pc, pool, hor, cells, slots, stack, some ⟨dx, dox, none⟩, dc, days⟩ d g cap g2 cap2) ∧ BkP (V.setCell ⟨g, d * 2 + 1, none⟩ (.slice (some ⟨g2, 0, none⟩) (n + 2) cap2)) (w2.heap.size + 1) (padP ⟨na, nc, names, ua, uc, curs, pa, pc, pool, hor, cells, slots, stack, some ⟨dx, dox, none⟩, dc, days⟩ d g cap g2 cap2).arr 26 ∧ BkP (V.setCell ⟨g, d * 2 + 1, none⟩ (.slice (some ⟨g2, 0, none⟩) (n + 2) cap2)) w2.heap.size #[.int .i64 st, .int .i64 fu, .int .i64 ba] 29 ∧ Below w.heap.size w (V.setCell ⟨g, d * 2 + 1, none⟩ (.slice (some ⟨g2, 0, none⟩) (n + 2) cap2))) (fun V g2 cap2 h o => by
    have q := PM.out V w2.heap.size (w2.heap.size + 1) g cap g2 cap2 st fu ba h
    rw [HN.out] at q
    exact q o)
  have e9 := E3.out.be.size
  have C3 := Lib.hid (p := ((W9.alloc (.cells #[] 38)).drew).ownsRow w.heap.size 38 3 (.slice (some ⟨W9.heap.size, 0, none⟩) 0 0) 0 [] ∧ PdR w ((W9.alloc (.cells #[] 38)).drew) ⟨na, nc, names, ua, uc, curs, pa, pc, pool, hor, cells, slots, stack, some ⟨dx, dox, none⟩, dc, days⟩ days.length w2.heap.size (w2.heap.size + 1) g cap st fu ba (.slice na names.length nc) (.slice ua curs.length uc) (.slice pa pool.length pc) ∧ True) ⟨own_new3 W9 _ e9, E3.out.lat ((allocBP _ _).trans (drewP _ _)), trivial⟩
  have C2 := Lib.hid (p := (((W9.alloc (.cells #[] 38)).alloc (.cells #[.int .i64 2, .int .i64 1, .int .i64 0, .int .i64 8, .int .i64 0, .int .i64 0, .int .i64 0, .int .i64 0, .int .i64 0] 38)).drew).ownsRow w.heap.size 38 3 (.slice (some ⟨W9.heap.size, 0, none⟩) 0 0) 0 [] ∧ PdR w (((W9.alloc (.cells #[] 38)).alloc (.cells #[.int .i64 2, .int .i64 1, .int .i64 0, .int .i64 8, .int .i64 0, .int .i64 0, .int .i64 0, .int .i64 0, .int .i64 0] 38)).drew) ⟨na, nc, names, ua, uc, curs, pa, pc, pool, hor, cells, slots, stack, some ⟨dx, dox, none⟩, dc, days⟩ days.length w2.heap.size (w2.heap.size + 1) g cap st fu ba (.slice na names.length nc) (.slice ua curs.length uc) (.slice pa pool.length pc) ∧ BkP (((W9.alloc (.cells #[] 38)).alloc (.cells #[.int .i64 2, .int .i64 1, .int .i64 0, .int .i64 8, .int .i64 0, .int .i64 0, .int .i64 0, .int .i64 0, .int .i64 0] 38)).drew) (W9.heap.size + 1) padA 38) ⟨World.ownsRow.alloc (own_new3 W9 _ e9) _, E3.out.lat ((alloc2 _ _ _).trans (drewP _ _)), by
    have q := heapN (W9.alloc (.cells #[] 38)) (.cells #[.int .i64 2, .int .i64 1, .int .i64 0, .int .i64 8, .int .i64 0, .int .i64 0, .int .i64 0, .int .i64 0, .int .i64 0] 38)
    rw [show (W9.alloc (.cells #[] 38)).heap.size = W9.heap.size + 1 by simp] at q
    exact q⟩
  have C1 := Lib.hid (p := (((W9.alloc (.cells #[.int .i64 2, .int .i64 1, .int .i64 0, .int .i64 8, .int .i64 0, .int .i64 0, .int .i64 0, .int .i64 0, .int .i64 0] 38)).alloc (.cells #[] 38)).drew).ownsRow w.heap.size 38 3 (.slice (some ⟨W9.heap.size + 1, 0, none⟩) 0 0) 0 [] ∧ PdR w (((W9.alloc (.cells #[.int .i64 2, .int .i64 1, .int .i64 0, .int .i64 8, .int .i64 0, .int .i64 0, .int .i64 0, .int .i64 0, .int .i64 0] 38)).alloc (.cells #[] 38)).drew) ⟨na, nc, names, ua, uc, curs, pa, pc, pool, hor, cells, slots, stack, some ⟨dx, dox, none⟩, dc, days⟩ days.length w2.heap.size (w2.heap.size + 1) g cap st fu ba (.slice na names.length nc) (.slice ua curs.length uc) (.slice pa pool.length pc) ∧ BkP (((W9.alloc (.cells #[.int .i64 2, .int .i64 1, .int .i64 0, .int .i64 8, .int .i64 0, .int .i64 0, .int .i64 0, .int .i64 0, .int .i64 0] 38)).alloc (.cells #[] 38)).drew) W9.heap.size padA 38) ⟨by
    have q := own_new3 (W9.alloc (.cells #[.int .i64 2, .int .i64 1, .int .i64 0, .int .i64 8, .int .i64 0, .int .i64 0, .int .i64 0, .int .i64 0, .int .i64 0] 38)) w.heap.size (by simp; omega)
    rw [show (W9.alloc (.cells #[.int .i64 2, .int .i64 1, .int .i64 0, .int .i64 8, .int .i64 0, .int .i64 0, .int .i64 0, .int .i64 0, .int .i64 0] 38)).heap.size = W9.heap.size + 1 by simp] at q
    exact q, E3.out.lat ((alloc2 _ _ _).trans (drewP _ _)), BkP.lat (heapN _ _) ((allocBP _ _).trans (drewP _ _))⟩
  have KCN := Lib.hid (p := ∀ V g2 cap2, Below w.heap.size w V → PV V (padP ⟨na, nc, names, ua, uc, curs, pa, pc, pool, hor, cells, slots, stack, some ⟨dx, dox, none⟩, dc, days⟩ d g cap g2 cap2) → Calls Tryd.prog 8 #[.agg #[.slice na names.length nc, .slice ua curs.length uc, .slice pa pool.length pc, .int .i64 hor, .int .i64 cells, .int .i64 slots, .int .i64 (max stack 1), .slice (some ⟨g, 0, none⟩) days.length cap]] V fun e w' => e = .returned (.int .i64 (if canP (padP ⟨na, nc, names, ua, uc, curs, pa, pc, pool, hor, cells, slots, stack, some ⟨dx, dox, none⟩, dc, days⟩ d g cap g2 cap2) then 0 else 121)) ∧ Below V.heap.size V w') (fun V g2 cap2 b h => by
    have q := KC.out V _ b h
    rw [show (padP ⟨na, nc, names, ua, uc, curs, pa, pc, pool, hor, cells, slots, stack, some ⟨dx, dox, none⟩, dc, days⟩ d g cap g2 cap2).agg = .agg #[.slice na names.length nc, .slice ua curs.length uc, .slice pa pool.length pc, .int .i64 hor, .int .i64 cells, .int .i64 slots, .int .i64 (max stack 1), .slice (some ⟨g, 0, none⟩) days.length cap] by simp [Pg.agg, padP]] at q
    exact q)
  have KQN := Lib.hid (p := ∀ V g2 cap2, Below w.heap.size w V → PV V (padP ⟨na, nc, names, ua, uc, curs, pa, pc, pool, hor, cells, slots, stack, some ⟨dx, dox, none⟩, dc, days⟩ d g cap g2 cap2) → canP (padP ⟨na, nc, names, ua, uc, curs, pa, pc, pool, hor, cells, slots, stack, some ⟨dx, dox, none⟩, dc, days⟩ d g cap g2 cap2) → ∃ rs' ri' : Int, Calls Tryd.prog 6 #[.agg #[.slice na names.length nc, .slice ua curs.length uc, .slice pa pool.length pc, .int .i64 hor, .int .i64 cells, .int .i64 slots, .int .i64 (max stack 1), .slice (some ⟨g, 0, none⟩) days.length cap]] V fun e w' => e = .returned (.tuple #[.agg #[.int .i64 (max stack 1), .int .i64 (fu + 2), .int .i64 ba], .int .i64 rs', .int .i64 ri', .int .i64 0]) ∧ Below V.heap.size V w') (fun V g2 cap2 b h c => by
    have q := KQ.out V _ b h
    rw [show (padP ⟨na, nc, names, ua, uc, curs, pa, pc, pool, hor, cells, slots, stack, some ⟨dx, dox, none⟩, dc, days⟩ d g cap g2 cap2).agg = .agg #[.slice na names.length nc, .slice ua curs.length uc, .slice pa pool.length pc, .int .i64 hor, .int .i64 cells, .int .i64 slots, .int .i64 (max stack 1), .slice (some ⟨g, 0, none⟩) days.length cap] by simp [Pg.agg, padP]] at q
    obtain ⟨z1, z2, z3, z4⟩ := PW.out g cap g2 cap2 c
    unfold vfV at q
    rw [z1, z2, z3, z4] at q
    exact ⟨_, _, q⟩)
  have NCN := Lib.hid (p := ∀ g2 cap2, ¬ canP (padP ⟨na, nc, names, ua, uc, curs, pa, pc, pool, hor, cells, slots, stack, some ⟨dx, dox, none⟩, dc, days⟩ d g cap g2 cap2) → 262144 < fu + 2) (fun g2 cap2 c => by
    have q : ¬ (totN days days.length + 2 ≤ 262144) := fun z => c (PC.out g cap g2 cap2 z)
    have f := PF.out
    omega)
  have BXN := Lib.hid (p := ∀ g2 cap2, (padP ⟨na, nc, names, ua, uc, curs, pa, pc, pool, hor, cells, slots, stack, some ⟨dx, dox, none⟩, dc, days⟩ d g cap g2 cap2).arr = #[.slice na names.length nc, .slice ua curs.length uc, .slice pa pool.length pc, .int .i64 hor, .int .i64 cells, .int .i64 slots, .int .i64 (max stack 1), .slice (some ⟨g, 0, none⟩) days.length cap]) (fun g2 cap2 => by simp [Pg.arr, padP])
  have fw : IntKind.i64.wrap (fu + 2) = fu + 2 := by simp [IntKind.wrap, IntKind.bits, IntKind.signed]; omega
  clear PC PW KC KQ
  have N2 := Lib.hid (p := some (W9.heap.size + 1) ≠ Value.ownBlock (.slice (some ⟨W9.heap.size, 0, none⟩) 0 0)) (by intro e; simp [Value.ownBlock] at e)
  have N1 := Lib.hid (p := some W9.heap.size ≠ Value.ownBlock (.slice (some ⟨W9.heap.size + 1, 0, none⟩) 0 0)) (by intro e; simp [Value.ownBlock] at e)
  have q7 := E3.out.qx.cell 7
  have q7a := fun o => bel_cellP (allocBP W9 o) q7
  have q7b := fun o o' => bel_cellP (alloc2 W9 o o') q7
  simp only [List.getElem?_toArray, List.getElem?_cons_zero, List.getElem?_cons_succ] at q7 q7a q7b
  clear CE0 hm1 E3
  go_region_law (first
    | (refine step_code _ rfl _ _ rfl w.heap.size (.slice (some ⟨W9.heap.size, 0, none⟩) 0 0) 0 [] cx co m1 sc sl rfl rfl C3.out.1 M0.out M1.out (CE.out _ C3.out.2.1.be) C3.out.2.1.be.size _ rfl ?_; intro g1 cap1 w5 k1 k2 k3 k4; have P5 := Lib.hid (C3.out.2.1.grow C3.out.1 (Nat.le_refl _) k2); have O5 := Lib.hid (p := w5.ownsRow w.heap.size 38 3 (.slice (some ⟨g1, 0, none⟩) m1 cap1) m1 (flatV m1 (inW sl))) (by rw [Nat.zero_add, List.nil_append] at k1; exact k1); have q5 := P5.out.qx.cell 7; have q5a := fun o => bel_cellP (allocBP w5 o) q5; simp only [List.getElem?_toArray, List.getElem?_cons_zero, List.getElem?_cons_succ] at q5 q5a; rw [Nat.zero_add]; clear k1 k2 k3 k4)
    | (refine step_code _ rfl _ _ rfl w.heap.size (.slice (some ⟨W9.heap.size, 0, none⟩) 0 0) 0 [] cx co m1 sc sl rfl rfl C2.out.1 M0.out M1.out (CE.out _ C2.out.2.1.be) C2.out.2.1.be.size _ rfl ?_; intro g1 cap1 w5 k1 k2 k3 k4; have P5 := Lib.hid (C2.out.2.1.grow C2.out.1 (Nat.le_refl _) k2); have O5 := Lib.hid (p := w5.ownsRow w.heap.size 38 3 (.slice (some ⟨g1, 0, none⟩) m1 cap1) m1 (flatV m1 (inW sl))) (by rw [Nat.zero_add, List.nil_append] at k1; exact k1); have L5 := Lib.hid (C2.out.2.2.grown k2 N2.out); have q5 := P5.out.qx.cell 7; have q5a := fun o => bel_cellP (allocBP w5 o) q5; simp only [List.getElem?_toArray, List.getElem?_cons_zero, List.getElem?_cons_succ] at q5 q5a; rw [Nat.zero_add]; clear k1 k2 k3 k4)
    | (refine step_code _ rfl _ _ rfl w.heap.size (.slice (some ⟨W9.heap.size + 1, 0, none⟩) 0 0) 0 [] cx co m1 sc sl rfl rfl C1.out.1 M0.out M1.out (CE.out _ C1.out.2.1.be) C1.out.2.1.be.size _ rfl ?_; intro g1 cap1 w5 k1 k2 k3 k4; have P5 := Lib.hid (C1.out.2.1.grow C1.out.1 (Nat.le_refl _) k2); have O5 := Lib.hid (p := w5.ownsRow w.heap.size 38 3 (.slice (some ⟨g1, 0, none⟩) m1 cap1) m1 (flatV m1 (inW sl))) (by rw [Nat.zero_add, List.nil_append] at k1; exact k1); have L5 := Lib.hid (C1.out.2.2.grown k2 N1.out); have q5 := P5.out.qx.cell 7; have q5a := fun o => bel_cellP (allocBP w5 o) q5; simp only [List.getElem?_toArray, List.getElem?_cons_zero, List.getElem?_cons_succ] at q5 q5a; rw [Nat.zero_add]; clear k1 k2 k3 k4)
    | (refine step_code _ rfl _ _ rfl w.heap.size (.slice (some ⟨g1, 0, none⟩) m1 cap1) m1 (flatV m1 (inW sl)) (w5.heap.size) 0 3 3 padT rfl rfl (World.ownsRow.alloc O5.out _) (by omega) M3.out (pad_cells (heapN _ _)) (P5.out.lat (allocBP _ _)).be.size _ rfl ?_; intro g2 cap2 w6 k1 k2 k3 k4; have P6 := Lib.hid ((P5.out.lat (allocBP _ _)).grow (World.ownsRow.alloc O5.out _) (Nat.le_refl _) k2); have O6 := Lib.hid (p := w6.ownsRow w.heap.size 38 3 (.slice (some ⟨g2, 0, none⟩) (n + 2) cap2) (n + 2) (flatV (n + 2) (inW (padC sl)))) (by rw [NE.out, FP.out] at k1; exact k1); have q6 := P6.out.qx.cell 7; simp only [List.getElem?_toArray, List.getElem?_cons_zero, List.getElem?_cons_succ] at q6; obtain ⟨e1, e2, e3, e4, e5, e6⟩ := PMN.out w6 g2 cap2 P6.out O6.out; have E3 := Lib.hid e3; have E4 := Lib.hid e4; have E5 := Lib.hid e5; have E6 := Lib.hid e6; rw [NE.out]; clear k1 k2 k3 k4 e3 e4 e5 e6)
    | (refine step_code _ rfl _ _ rfl w.heap.size (.slice (some ⟨g1, 0, none⟩) m1 cap1) m1 (flatV m1 (inW sl)) (W9.heap.size + 1) 0 3 3 padT rfl rfl O5.out (by omega) M3.out (pad_cells L5.out) P5.out.be.size _ rfl ?_; intro g2 cap2 w6 k1 k2 k3 k4; have P6 := Lib.hid (P5.out.grow O5.out (Nat.le_refl _) k2); have O6 := Lib.hid (p := w6.ownsRow w.heap.size 38 3 (.slice (some ⟨g2, 0, none⟩) (n + 2) cap2) (n + 2) (flatV (n + 2) (inW (padC sl)))) (by rw [NE.out, FP.out] at k1; exact k1); have q6 := P6.out.qx.cell 7; simp only [List.getElem?_toArray, List.getElem?_cons_zero, List.getElem?_cons_succ] at q6; obtain ⟨e1, e2, e3, e4, e5, e6⟩ := PMN.out w6 g2 cap2 P6.out O6.out; have E3 := Lib.hid e3; have E4 := Lib.hid e4; have E5 := Lib.hid e5; have E6 := Lib.hid e6; rw [NE.out]; clear k1 k2 k3 k4 e3 e4 e5 e6)
    | (refine step_code _ rfl _ _ rfl w.heap.size (.slice (some ⟨g1, 0, none⟩) m1 cap1) m1 (flatV m1 (inW sl)) (W9.heap.size) 0 3 3 padT rfl rfl O5.out (by omega) M3.out (pad_cells L5.out) P5.out.be.size _ rfl ?_; intro g2 cap2 w6 k1 k2 k3 k4; have P6 := Lib.hid (P5.out.grow O5.out (Nat.le_refl _) k2); have O6 := Lib.hid (p := w6.ownsRow w.heap.size 38 3 (.slice (some ⟨g2, 0, none⟩) (n + 2) cap2) (n + 2) (flatV (n + 2) (inW (padC sl)))) (by rw [NE.out, FP.out] at k1; exact k1); have q6 := P6.out.qx.cell 7; simp only [List.getElem?_toArray, List.getElem?_cons_zero, List.getElem?_cons_succ] at q6; obtain ⟨e1, e2, e3, e4, e5, e6⟩ := PMN.out w6 g2 cap2 P6.out O6.out; have E3 := Lib.hid e3; have E4 := Lib.hid e4; have E5 := Lib.hid e5; have E6 := Lib.hid e6; rw [NE.out]; clear k1 k2 k3 k4 e3 e4 e5 e6))
  all_goals
    rw [BXN.out] at E4
    obtain ⟨W, hW⟩ : ∃ W, w6.setCell ⟨g, d * 2 + 1, none⟩ (.slice (some ⟨g2, 0, none⟩) (n + 2) cap2) = W := ⟨_, rfl⟩
    rw [hW] at E3 E4 E5 E6 ⊢
    clear hW
    have QB0 := E4.out
    have XB0 := E5.out
    obtain ⟨u0, u1, u2, u3, u4, u5, u6, u7⟩ := box_all8 QB0
    by_cases cq : canP (padP ⟨na, nc, names, ua, uc, curs, pa, pc, pool, hor, cells, slots, stack, some ⟨dx, dox, none⟩, dc, days⟩ d g cap g2 cap2)
    · have KC1 := Lib.hid (KCN.out W g2 cap2 E6.out E3.out)
      rw [if_pos cq] at KC1
      have T1 : True := trivial
      go_wp2_with (first | (go_at_call 8; have qq := T1; refine KC1.out.mono ?_; clear qq T1; rintro e w7 ⟨rfl, h1⟩; have B7 := Lib.hid (E6.out.trans (h1.mono E6.out.size)); obtain ⟨v0, v1, v2, v3, v4, v5, v6, v7⟩ := box_all8 (QB0.lat h1); obtain ⟨rs', ri', k8⟩ := KQN.out w7 g2 cap2 B7.out (E3.out.later h1) cq; have K8 := Lib.hid k8; have QB7 := Lib.hid (QB0.lat h1); have XB7 := Lib.hid (XB0.lat h1); clear h1 k8; have T2 : True := trivial) | (go_at_call 6; have qq := T2; refine K8.out.mono ?_; clear qq T2; rintro e w8 ⟨rfl, h1⟩; have B8 := Lib.hid (p := Below w.heap.size w (w8.alloc (.cells #[.int .i64 (max stack 1), .int .i64 (fu + 2), .int .i64 ba] 29))) ((B7.out.trans (h1.mono B7.out.size)).alloc (B7.out.trans (h1.mono B7.out.size)).size _); obtain ⟨t0, t1, t2, t3, t4, t5, t6, t7⟩ := box_all8 ((QB7.out.lat h1).lat (allocBP w8 (.cells #[.int .i64 (max stack 1), .int .i64 (fu + 2), .int .i64 ba] 29))); obtain ⟨r0, r1, r2⟩ := boxV3 ((XB7.out.lat h1).lat (allocBP w8 (.cells #[.int .i64 (max stack 1), .int .i64 (fu + 2), .int .i64 ba] 29))); clear h1))
      go_ret
      exact ⟨rfl, B8.out⟩
    · have KC1 := Lib.hid (KCN.out W g2 cap2 E6.out E3.out)
      rw [if_neg cq] at KC1
      have fq := NCN.out g2 cap2 cq
      go_wp2_with (go_at_call 8; refine KC1.out.mono ?_; rintro e w7 ⟨rfl, h1⟩; have B7 := Lib.hid (E6.out.trans (h1.mono E6.out.size)); obtain ⟨r0, r1, r2⟩ := boxV3 (XB0.lat h1); clear h1)
      go_ret
      exact ⟨rfl, B7.out⟩
theorem verifyPadded_any {w : World} {p : Pg} {sg : Int} (hp : PV w p) (hR : Rws w) (hU : Rul w) : Calls Tryd.prog 3 #[p.agg, .int .i64 sg] w fun e w' => e = .returned (.bool true) ∧ Below w.heap.size w w' := by
  by_cases h : (vfyA p).1 = 0 ∧ 0 ≤ sg ∧ sg < (p.days.length : Int)
  · obtain ⟨d, rfl⟩ : ∃ d : Nat, sg = (d : Int) := ⟨sg.toNat, by omega⟩
    exact padded_ok hp hR hU h.1 (by omega)
  · exact padded_bad hp hR hU (by
      by_cases a : (vfyA p).1 = 0
      · by_cases b : sg < 0
        · exact .inr (.inl b)
        · exact .inr (.inr (by apply Classical.byContradiction; intro q; exact h ⟨a, by omega, by omega⟩))
      · exact .inl a)
end Go.Proofs.YteedkcmjhdabeaaDoor
