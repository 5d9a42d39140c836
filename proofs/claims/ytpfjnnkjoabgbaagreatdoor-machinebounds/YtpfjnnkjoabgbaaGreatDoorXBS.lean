import Derived.Test.YtpfjnnkjoabgbaaGreatDoorXBR
import Derived.Deep.RegionHeld2
namespace Go.Proofs.YtpfjnnkjoabgbaaGreatDoor
open Go.RowKit
set_option linter.unusedVariables false
set_option linter.unusedSimpArgs false
theorem od_pv {w : World} {p : Pg} {na : Option Addr} {nc : Nat} {ua : Option Addr} {uc : Nat} {pa : Option Addr} {pc : Nat} {da : Option Addr} {dc : Nat} {segs : List Sg} {W V : World} (c : OdL w p na nc ua uc pa pc da dc segs p.days.length W) (h : PV w p) (hV : ∀ k, w.heap.size ≤ k → k < W.heap.size → k ≠ w.heap.size + 1 → V.heap[k]? = W.heap[k]?) : PV V { p with na := na, nc := nc, ua := ua, uc := uc, pa := pa, pc := pc, da := da, dc := dc, days := segs } := by
  have own : ∀ {t : TypeId} {k : Nat} {a : Option Addr} {n cc : Nat} {U : Nat → List Value}, OwL W w.heap.size t k a n cc U → t ≠ 26 → ∀ g, Value.ownBlock (.slice a n cc) = some g → V.heap[g]? = W.heap[g]? := by
    intro t k a n cc U o ht g hg
    have lt := World.ownsRow.lt o g hg
    exact hV g lt.1 lt.2 (fun z => own_neB o c.s.zb ht (by rw [hg, z]))
  obtain ⟨d1, r1⟩ := c.names.list (by omega) (fun _ => rfl)
  obtain ⟨d2, r2⟩ := c.curs.list (by omega) (fun _ => rfl)
  obtain ⟨d3, r3⟩ := c.pool.list (by omega) (fun _ => rfl)
  obtain ⟨d4, r4⟩ := c.days.list (by omega) (fun i => sgV_len segs i)
  refine ⟨⟨d1, rfl, h.names.2.2.1, h.names.2.2.2.1, r1 V (own c.names (by decide))⟩, ⟨d2, rfl, h.curs.2.2.1, h.curs.2.2.2.1, r2 V (own c.curs (by decide))⟩, ⟨d3, rfl, h.pool.2.2.1, h.pool.2.2.2.1, r3 V (own c.pool (by decide))⟩, h.hor, h.cells, h.slots, h.stack, ?_⟩
  have hl := c.len
  refine ⟨by simp only; rw [hl]; exact d4, rfl, by simp only; rw [hl]; exact h.days.2.2.1, ?_, by simp only; rw [hl]; exact r4 V (own c.days (by decide))⟩
  intro s hs
  obtain ⟨i, hi, rfl⟩ := List.getElem_of_mem hs
  have hi2 : i < p.days.length := by rw [← hl]; exact hi
  have ge : segs[i] = segs.getD i default := by simp [List.getD, hi]
  rw [ge]
  obtain ⟨q1, q2⟩ := c.like i hi2
  have g0 := h.days.2.2.2.1 _ (sg_mem hi2)
  have o := c.new i hi2
  obtain ⟨d5, r5⟩ := o.list (by omega) (fun j => inW_len _ j)
  exact ⟨by rw [q1]; exact g0.1, d5, rfl, by rw [q2]; exact g0.2.2.2.1, by rw [q2]; exact g0.2.2.2.2.1, r5 V (own o (by decide))⟩
theorem od_key {w : World} {p : Pg} {na : Option Addr} {nc : Nat} {ua : Option Addr} {uc : Nat} {pa : Option Addr} {pc : Nat} {da : Option Addr} {dc : Nat} {segs : List Sg} {W : World} (c : OdL w p na nc ua uc pa pc da dc segs p.days.length W) : Pg.key { p with na := na, nc := nc, ua := ua, uc := uc, pa := pa, pc := pc, da := da, dc := dc, days := segs } = p.key := by
  have e : segs.map Sg.key = p.days.map Sg.key := by
    apply List.ext_getElem?
    intro i
    rw [List.getElem?_map, List.getElem?_map]
    by_cases hi : i < p.days.length
    · have hi1 : i < segs.length := by rw [c.len]; exact hi
      obtain ⟨q1, q2⟩ := c.like i hi
      have g1 : segs[i]? = some (segs.getD i default) := by simp [List.getD, hi1]
      have g2 : p.days[i]? = some (p.days.getD i default) := by simp [List.getD, hi]
      rw [g1, g2]
      simp only [Option.map_some, Sg.key, q1, q2]
    · rw [List.getElem?_eq_none (by rw [c.len]; omega), List.getElem?_eq_none (by omega)]
  unfold Pg.key
  simp only [e]
set_option maxRecDepth 100000 in
set_option maxHeartbeats 3200000 in
theorem owned_any {w : World} {p : Pg} (h : PV w p) : Calls Tryz.prog 11 #[p.agg] w fun e w' => CpE w p e w' := by
  have HH := Lib.hid h
  unfold Pg.agg
  obtain ⟨na, nc, names, ua, uc, curs, pa, pc, pool, hor, cells, slots, stack, da, dc, days⟩ := p
  simp only at *
  obtain ⟨W1, hW1⟩ : ∃ W, ((w.alloc (.cells #[.slice na names.length nc, .slice ua curs.length uc, .slice pa pool.length pc, .int .i64 hor, .int .i64 cells, .int .i64 slots, .int .i64 stack, .slice da days.length dc] 26)).alloc (.cells #[.slice none 0 0, .slice none 0 0, .slice none 0 0, .int .i64 0, .int .i64 0, .int .i64 0, .int .i64 0, .slice none 0 0] 26)).alloc (.cells #[.slice na names.length nc, .slice ua curs.length uc, .slice pa pool.length pc, .int .i64 hor, .int .i64 cells, .int .i64 slots, .int .i64 stack, .slice da days.length dc] 26) = W := ⟨_, rfl⟩
  have s1 : OdS w ⟨na, nc, names, ua, uc, curs, pa, pc, pool, hor, cells, slots, stack, da, dc, days⟩ #[.slice na names.length nc, .slice ua curs.length uc, .slice pa pool.length pc, .int .i64 hor, .int .i64 cells, .int .i64 slots, .int .i64 stack, .slice da days.length dc] W1 := by
    rw [← hW1]
    have a1 := allocBP w (.cells #[.slice na names.length nc, .slice ua curs.length uc, .slice pa pool.length pc, .int .i64 hor, .int .i64 cells, .int .i64 slots, .int .i64 stack, .slice da days.length dc] 26)
    have a2 := allocBP (w.alloc (.cells #[.slice na names.length nc, .slice ua curs.length uc, .slice pa pool.length pc, .int .i64 hor, .int .i64 cells, .int .i64 slots, .int .i64 stack, .slice da days.length dc] 26)) (.cells #[.slice none 0 0, .slice none 0 0, .slice none 0 0, .int .i64 0, .int .i64 0, .int .i64 0, .int .i64 0, .slice none 0 0] 26)
    have a3 := allocBP ((w.alloc (.cells #[.slice na names.length nc, .slice ua curs.length uc, .slice pa pool.length pc, .int .i64 hor, .int .i64 cells, .int .i64 slots, .int .i64 stack, .slice da days.length dc] 26)).alloc (.cells #[.slice none 0 0, .slice none 0 0, .slice none 0 0, .int .i64 0, .int .i64 0, .int .i64 0, .int .i64 0, .slice none 0 0] 26)) (.cells #[.slice na names.length nc, .slice ua curs.length uc, .slice pa pool.length pc, .int .i64 hor, .int .i64 cells, .int .i64 slots, .int .i64 stack, .slice da days.length dc] 26)
    have z := heapN (w.alloc (.cells #[.slice na names.length nc, .slice ua curs.length uc, .slice pa pool.length pc, .int .i64 hor, .int .i64 cells, .int .i64 slots, .int .i64 stack, .slice da days.length dc] 26)) (.cells #[.slice none 0 0, .slice none 0 0, .slice none 0 0, .int .i64 0, .int .i64 0, .int .i64 0, .int .i64 0, .slice none 0 0] 26)
    have q := heapN ((w.alloc (.cells #[.slice na names.length nc, .slice ua curs.length uc, .slice pa pool.length pc, .int .i64 hor, .int .i64 cells, .int .i64 slots, .int .i64 stack, .slice da days.length dc] 26)).alloc (.cells #[.slice none 0 0, .slice none 0 0, .slice none 0 0, .int .i64 0, .int .i64 0, .int .i64 0, .int .i64 0, .slice none 0 0] 26)) (.cells #[.slice na names.length nc, .slice ua curs.length uc, .slice pa pool.length pc, .int .i64 hor, .int .i64 cells, .int .i64 slots, .int .i64 stack, .slice da days.length dc] 26)
    rw [show (w.alloc (.cells #[.slice na names.length nc, .slice ua curs.length uc, .slice pa pool.length pc, .int .i64 hor, .int .i64 cells, .int .i64 slots, .int .i64 stack, .slice da days.length dc] 26)).heap.size = w.heap.size + 1 by simp] at z
    rw [show ((w.alloc (.cells #[.slice na names.length nc, .slice ua curs.length uc, .slice pa pool.length pc, .int .i64 hor, .int .i64 cells, .int .i64 slots, .int .i64 stack, .slice da days.length dc] 26)).alloc (.cells #[.slice none 0 0, .slice none 0 0, .slice none 0 0, .int .i64 0, .int .i64 0, .int .i64 0, .int .i64 0, .slice none 0 0] 26)).heap.size = w.heap.size + 2 by simp] at q
    exact ⟨(a1.trans (a2.mono a1.size)).trans (a3.mono (a1.trans (a2.mono a1.size)).size), ((show BkP _ _ _ _ from heapN w (.cells #[.slice na names.length nc, .slice ua curs.length uc, .slice pa pool.length pc, .int .i64 hor, .int .i64 cells, .int .i64 slots, .int .i64 stack, .slice da days.length dc] 26)).lat a2).lat a3, (show BkP _ _ _ _ from z).lat a3, q, by simp⟩
  have S1 := Lib.hid s1
  obtain ⟨na', nc', v2, r2, o2, b2⟩ := fresh_st (B := w.heap.size) s1.bel.size (h.names.later s1.bel)
  have s2' := s1.lat b2
  have s2 := s2'.set 0 (.slice na' names.length nc') (by simp)
  have o2' := o2.setQ s2' (by decide) 0 (.slice na' names.length nc')
  have g2 := s2'.qb.frozen 0
  have x2 := (box_all8 s2'.qb).1
  obtain ⟨W2, hW2⟩ : ∃ W, v2.setCell ⟨w.heap.size + 2, 0, none⟩ (.slice na' names.length nc') = W := ⟨_, rfl⟩
  rw [hW2] at s2 o2'
  obtain ⟨ua', uc', v3, r3, o3, b3⟩ := fresh_st (B := w.heap.size) s2.bel.size (h.curs.later s2.bel)
  have s3' := s2.lat b3
  have s3 := s3'.set 1 (.slice ua' curs.length uc') (by simp)
  have o23 := (o2'.lat b3).setQ s3' (by decide) 1 (.slice ua' curs.length uc')
  have o3' := o3.setQ s3' (by decide) 1 (.slice ua' curs.length uc')
  have g3 := s3'.qb.frozen 1
  have x3 : v3.cell? ⟨w.heap.size + 2, 1, none⟩ = some (.slice ua curs.length uc) := by rw [s3'.qb.cell]; rfl
  obtain ⟨W3, hW3⟩ : ∃ W, v3.setCell ⟨w.heap.size + 2, 1, none⟩ (.slice ua' curs.length uc') = W := ⟨_, rfl⟩
  rw [hW3] at s3 o3' o23
  obtain ⟨pa', pc', v4, r4, o4, b4⟩ := fresh_nu (B := w.heap.size) s3.bel.size (h.pool.later s3.bel)
  have s4' := s3.lat b4
  have s4 := s4'.set 2 (.slice pa' pool.length pc') (by simp)
  have o24 := (o23.lat b4).setQ s4' (by decide) 2 (.slice pa' pool.length pc')
  have o34 := (o3'.lat b4).setQ s4' (by decide) 2 (.slice pa' pool.length pc')
  have o4' := o4.setQ s4' (by decide) 2 (.slice pa' pool.length pc')
  have g4 := s4'.qb.frozen 2
  have x4 : v4.cell? ⟨w.heap.size + 2, 2, none⟩ = some (.slice pa pool.length pc) := by rw [s4'.qb.cell]; rfl
  obtain ⟨W4, hW4⟩ : ∃ W, v4.setCell ⟨w.heap.size + 2, 2, none⟩ (.slice pa' pool.length pc') = W := ⟨_, rfl⟩
  rw [hW4] at s4 o4' o24 o34
  have s5 := s4.set 7 (.slice none 0 0) (by simp)
  have g5 := s4.qb.frozen 7
  have x5 : W4.cell? ⟨w.heap.size + 2, 7, none⟩ = some (.slice da days.length dc) := by rw [s4.qb.cell]; rfl
  have o25 := o24.setQ s4 (by decide) 7 (.slice none 0 0)
  have o35 := o34.setQ s4 (by decide) 7 (.slice none 0 0)
  have o45 := o4'.setQ s4 (by decide) 7 (.slice none 0 0)
  obtain ⟨W5, hW5⟩ : ∃ W, W4.setCell ⟨w.heap.size + 2, 7, none⟩ (.slice none 0 0) = W := ⟨_, rfl⟩
  rw [hW5] at s5 o45 o25 o35
  have c1 : ∀ o, (W1.alloc o).cell? ⟨w.heap.size, 0, none⟩ = some (.slice na names.length nc) := fun o => below_cell (allocBP W1 o) (by rw [s1.pb.cell]; rfl)
  have c2 : ∀ o, (W2.alloc o).cell? ⟨w.heap.size, 1, none⟩ = some (.slice ua curs.length uc) := fun o => below_cell (allocBP W2 o) (by rw [s2.pb.cell]; rfl)
  have c3 : ∀ o, (W3.alloc o).cell? ⟨w.heap.size, 2, none⟩ = some (.slice pa pool.length pc) := fun o => below_cell (allocBP W3 o) (by rw [s3.pb.cell]; rfl)
  have H1 := Lib.hid hW1
  have H2 := Lib.hid hW2
  have H3 := Lib.hid hW3
  have H4 := Lib.hid hW4
  have H5 := Lib.hid hW5
  have S5 := Lib.hid s5
  have O2 := Lib.hid o25
  have O3 := Lib.hid o35
  have O4 := Lib.hid o45
  clear hW1 hW2 hW3 hW4 hW5 s1 s2' s2 s3' s3 s4' s4 s5 o2 o2' o3 o3' o4 o4' o23 o24 o34 o25 o35 o45 b2 b3 b4 h S1
  go_enter Tryz.func11, Tryz.ntmps11
  go_upto_region 2 with fail
  rw [H1.out]
  go_upto_region 3 with (at_builtin; refine wp_app_run rfl _ _ 22 rfl _ _ _ v2 rfl rfl r2 ?_)
  rw [H2.out]
  go_upto_region 4 with (at_builtin; refine wp_app_run rfl _ _ 22 rfl _ _ _ v3 rfl rfl r3 ?_)
  rw [H3.out]
  go_upto_region 5 with (at_builtin; refine wp_app_run rfl _ _ 23 rfl _ _ _ v4 rfl rfl r4 ?_)
  rw [H4.out]
  go_upto_region 6 with fail
  rw [H5.out]
  have L0 := Lib.hid (p := OdL w ⟨na, nc, names, ua, uc, curs, pa, pc, pool, hor, cells, slots, stack, da, dc, days⟩ na' nc' ua' uc' pa' pc' none 0 [] 0 W5) ⟨by simpa [odA] using S5.out, O2.out, O3.out, O4.out, World.ownsRow_nil _ _ _ _, rfl, fun i hi => by omega, fun i hi => by omega⟩
  clear S5 O2 O3 O4 H1 H2 H3 H4 H5 r2 r3 r4 c1 c2 c3 g2 g3 g4 g5 x2 x3 x4 x5
  go_wp2
  have nd := HH.out.days.2.2.1
  simp only at nd
  go_loopw [4] (fun t wr => ∃ (k : Nat) (da' : Option Addr) (dc' : Nat) (segs : List Sg), k ≤ days.length ∧ t = .int .i64 (k : Int) ∧ OdL w ⟨na, nc, names, ua, uc, curs, pa, pc, pool, hor, cells, slots, stack, da, dc, days⟩ na' nc' ua' uc' pa' pc' da' dc' segs k wr) (fun t _ => days.length - (intOf t).toNat)
  case atStart => exact ⟨0, none, 0, [], by omega, rfl, L0.out⟩
  case round =>
    clear L0
    rename World => wr
    obtain ⟨k, da1, dc1, segs, hk, rfl, hL⟩ := hrel
    have p7 : wr.cell? ⟨w.heap.size, 7, none⟩ = some (.slice da days.length dc) := by rw [hL.s.pb.cell]; rfl
    by_cases hlt : k < days.length
    · have kc : (k : Int) < (days.length : Int) := by omega
      have k0 : ¬ (k : Int) < 0 := by omega
      have ks : IntKind.i64.wrap ((k : Int) + 1) = (k : Int) + 1 := by simp [IntKind.wrap, IntKind.bits, IntKind.signed]; omega
      obtain ⟨x, o, ca, cc, w7, da2, dc2, w9, hda, r7, r9, hS, q0, q1, q2, q3, q4, q5, hL2⟩ := od_round hL HH.out hlt
      have q1' : ∀ ob, (wr.alloc ob).cell? ⟨w.heap.size + 2, 7, none⟩ = some (.slice da1 k dc1) := q1
      simp only at hda r7 r9
      unfold odR at hS
      simp only at hS
      have SS := Lib.hid hS.out
      have HL := Lib.hid hL2.out
      generalize days.getD k default = sg at *
      obtain ⟨sd, sa, sc, sl⟩ := sg
      simp only at r7 r9 SS
      have R7 := Lib.hid r7
      have R9 := Lib.hid r9
      subst hda
      clear hL hS hL2 r7 r9
      go_wp2
      refine wp_region_held_drew (S := (fun w' => w'.cell? ⟨w.heap.size, 7, none⟩ = some (.slice (some ⟨x, o, none⟩) days.length dc) ∧ w'.cell? ⟨x, o + k * 2, none⟩ = some (.int .i64 sd) ∧ w'.cell? ⟨x, o + k * 2 + 1, none⟩ = some (.slice sa sl.length sc))) (by kernel_rfl) ?_ (fun hHeld => ?_)
      · (try dsimp only)
        exact SS.out.1
      refine wpAnyH_take (i := 0) (oi := { dst := some 29, op := Op.fieldAddr 26 (Operand.tmp 3) 7, type := 0, pos := "law.go:98", after := #[], guard := none }) (v := ?_) rfl (by kernel_rfl) (by kernel_rfl) (by kernel_rfl) (fun _ _ _ h => h) (Or.inl ⟨by rfl, ?_⟩) (by assumption) ?_
      rotate_left 1
      · intro w' hSw; (try dsimp only at hSw); go_simp; try with_reducible rfl
      (try simp only [Act.put, List.setIfInBounds_toArray, List.set_cons_zero, List.set_cons_succ])
      refine wpAnyH_take (i := 2) (oi := { dst := some 31, op := Op.fieldAddr 26 (Operand.tmp 1) 7, type := 0, pos := "law.go:98", after := #[], guard := none }) (v := ?_) rfl (by kernel_rfl) (by kernel_rfl) (by kernel_rfl) (fun _ _ _ h => h) (Or.inl ⟨by rfl, ?_⟩) (by assumption) ?_
      rotate_left 1
      · intro w' hSw; (try dsimp only at hSw); go_simp; try with_reducible rfl
      (try simp only [Act.put, List.setIfInBounds_toArray, List.set_cons_zero, List.set_cons_succ])
      refine wpAnyH_take (i := 3) (oi := { dst := some 32, op := Op.load 24 (Operand.tmp 31), type := 24, pos := "law.go:98", after := #[{ on := 2, ground := Ground.data }], guard := none }) (v := ?_) rfl (by kernel_rfl) (by kernel_rfl) (by kernel_rfl) (fun _ _ _ h => h) (Or.inl ⟨by rfl, ?_⟩) (by assumption) ?_
      rotate_left 1
      · intro w' hSw; (try dsimp only at hSw); go_simp; try with_reducible rfl
      (try simp only [Act.put, List.setIfInBounds_toArray, List.set_cons_zero, List.set_cons_succ])
      refine wpAnyH_take (i := 4) (oi := { dst := some 33, op := Op.move (Operand.tmp 4), type := 3, pos := "law.go:98", after := #[], guard := none }) (v := ?_) rfl (by kernel_rfl) (by kernel_rfl) (by kernel_rfl) (fun _ _ _ h => h) (Or.inl ⟨by rfl, ?_⟩) (by assumption) ?_
      rotate_left 1
      · intro w' hSw; (try dsimp only at hSw); go_simp; try with_reducible rfl
      (try simp only [Act.put, List.setIfInBounds_toArray, List.set_cons_zero, List.set_cons_succ])
      refine wpAnyH_take (i := 5) (oi := { dst := some 34, op := Op.indexAddr 24 (Operand.tmp 32) (Operand.tmp 33), type := 0, pos := "law.go:98", after := #[{ on := 3, ground := Ground.data }, { on := 4, ground := Ground.data }], guard := none }) (v := ?_) rfl (by kernel_rfl) (by kernel_rfl) (by kernel_rfl) (fun _ _ _ h => h) (Or.inl ⟨by rfl, ?_⟩) (by assumption) ?_
      rotate_left 1
      · intro w' hSw; (try dsimp only at hSw); go_simp; try with_reducible rfl
      (try simp only [Act.put, List.setIfInBounds_toArray, List.set_cons_zero, List.set_cons_succ])
      refine wpAnyH_take (i := 6) (oi := { dst := some 35, op := Op.fieldAddr 71 (Operand.tmp 34) 0, type := 0, pos := "law.go:98", after := #[{ on := 5, ground := Ground.data }], guard := none }) (v := ?_) rfl (by kernel_rfl) (by kernel_rfl) (by kernel_rfl) (fun _ _ _ h => h) (Or.inl ⟨by rfl, ?_⟩) (by assumption) ?_
      rotate_left 1
      · intro w' hSw; (try dsimp only at hSw); go_simp; try with_reducible rfl
      (try simp only [Act.put, List.setIfInBounds_toArray, List.set_cons_zero, List.set_cons_succ])
      refine wpAnyH_take (i := 7) (oi := { dst := some 36, op := Op.load 3 (Operand.tmp 35), type := 3, pos := "law.go:98", after := #[{ on := 6, ground := Ground.data }], guard := none }) (v := ?_) rfl (by kernel_rfl) (by kernel_rfl) (by kernel_rfl) (fun _ _ _ h => h) (Or.inl ⟨by rfl, ?_⟩) (by assumption) ?_
      rotate_left 1
      · intro w' hSw; (try dsimp only at hSw); go_simp; try with_reducible rfl
      (try simp only [Act.put, List.setIfInBounds_toArray, List.set_cons_zero, List.set_cons_succ])
      refine wpAnyH_take (i := 9) (oi := { dst := some 38, op := Op.fieldAddr 26 (Operand.tmp 1) 7, type := 0, pos := "law.go:98", after := #[], guard := none }) (v := ?_) rfl (by kernel_rfl) (by kernel_rfl) (by kernel_rfl) (fun _ _ _ h => h) (Or.inl ⟨by rfl, ?_⟩) (by assumption) ?_
      rotate_left 1
      · intro w' hSw; (try dsimp only at hSw); go_simp; try with_reducible rfl
      (try simp only [Act.put, List.setIfInBounds_toArray, List.set_cons_zero, List.set_cons_succ])
      refine wpAnyH_take (i := 10) (oi := { dst := some 39, op := Op.load 24 (Operand.tmp 38), type := 24, pos := "law.go:98", after := #[{ on := 9, ground := Ground.data }], guard := none }) (v := ?_) rfl (by kernel_rfl) (by kernel_rfl) (by kernel_rfl) (fun _ _ _ h => h) (Or.inl ⟨by rfl, ?_⟩) (by assumption) ?_
      rotate_left 1
      · intro w' hSw; (try dsimp only at hSw); go_simp; try with_reducible rfl
      (try simp only [Act.put, List.setIfInBounds_toArray, List.set_cons_zero, List.set_cons_succ])
      refine wpAnyH_take (i := 11) (oi := { dst := some 40, op := Op.move (Operand.tmp 4), type := 3, pos := "law.go:98", after := #[], guard := none }) (v := ?_) rfl (by kernel_rfl) (by kernel_rfl) (by kernel_rfl) (fun _ _ _ h => h) (Or.inl ⟨by rfl, ?_⟩) (by assumption) ?_
      rotate_left 1
      · intro w' hSw; (try dsimp only at hSw); go_simp; try with_reducible rfl
      (try simp only [Act.put, List.setIfInBounds_toArray, List.set_cons_zero, List.set_cons_succ])
      refine wpAnyH_take (i := 12) (oi := { dst := some 41, op := Op.indexAddr 24 (Operand.tmp 39) (Operand.tmp 40), type := 0, pos := "law.go:98", after := #[{ on := 10, ground := Ground.data }, { on := 11, ground := Ground.data }], guard := none }) (v := ?_) rfl (by kernel_rfl) (by kernel_rfl) (by kernel_rfl) (fun _ _ _ h => h) (Or.inl ⟨by rfl, ?_⟩) (by assumption) ?_
      rotate_left 1
      · intro w' hSw; (try dsimp only at hSw); go_simp; try with_reducible rfl
      (try simp only [Act.put, List.setIfInBounds_toArray, List.set_cons_zero, List.set_cons_succ])
      refine wpAnyH_take (i := 13) (oi := { dst := some 42, op := Op.fieldAddr 71 (Operand.tmp 41) 1, type := 0, pos := "law.go:98", after := #[{ on := 12, ground := Ground.data }], guard := none }) (v := ?_) rfl (by kernel_rfl) (by kernel_rfl) (by kernel_rfl) (fun _ _ _ h => h) (Or.inl ⟨by rfl, ?_⟩) (by assumption) ?_
      rotate_left 1
      · intro w' hSw; (try dsimp only at hSw); go_simp; try with_reducible rfl
      (try simp only [Act.put, List.setIfInBounds_toArray, List.set_cons_zero, List.set_cons_succ])
      refine wpAnyH_take (i := 14) (oi := { dst := some 43, op := Op.load 69 (Operand.tmp 42), type := 69, pos := "law.go:98", after := #[{ on := 13, ground := Ground.data }], guard := none }) (v := ?_) rfl (by kernel_rfl) (by kernel_rfl) (by kernel_rfl) (fun _ _ _ h => h) (Or.inl ⟨by rfl, ?_⟩) (by assumption) ?_
      rotate_left 1
      · intro w' hSw; (try dsimp only at hSw); go_simp; try with_reducible rfl
      (try simp only [Act.put, List.setIfInBounds_toArray, List.set_cons_zero, List.set_cons_succ])
      refine wpAnyH_ready (rs := [1, 8]) (by kernel_rfl) (by simp) ?_
      refine AllReadyH.cons (o := { dst := some 30, op := Op.load 24 (Operand.tmp 29), type := 24, pos := "law.go:98", after := #[{ on := 0, ground := Ground.data }], guard := none }) rfl (fun K' hK => ?_) (AllReadyH.cons (o := { dst := some 37, op := Op.buildSlice 69 0 #[], type := 69, pos := "law.go:98", after := #[], guard := none }) rfl (fun K' hK => ?_) AllReadyH.nil)
      · go_simp
        refine hK.out _ _ ?_ (fun hHeld => ?_)
        · (try dsimp only)
          exact hHeld
        clear hK K'
        (try simp only [Act.put, List.setIfInBounds_toArray, List.set_cons_zero, List.set_cons_succ])
        refine wpAnyH_ready (rs := [8]) (by kernel_rfl) (by simp) ?_
        refine AllReadyH.cons (o := { dst := some 37, op := Op.buildSlice 69 0 #[], type := 69, pos := "law.go:98", after := #[], guard := none }) rfl (fun K' hK => ?_) AllReadyH.nil
        go_simp
        refine hK.out _ _ ?_ (fun hHeld => ?_)
        · (try dsimp only)
          exact SS.out.2.1 _
        clear hK K'
        (try simp only [Act.put, List.setIfInBounds_toArray, List.set_cons_zero, List.set_cons_succ])
        refine wpAnyH_ready (rs := [15]) (by kernel_rfl) (by simp) ?_
        refine AllReadyH.cons (o := { dst := some 44, op := Op.call { callee := Callee.builtin Builtin.append, args := #[Operand.tmp 37, Operand.tmp 43], argTypes := #[69, 69] }, type := 69, pos := "law.go:98", after := #[{ on := 8, ground := Ground.data }, { on := 14, ground := Ground.data }], guard := none }) rfl (fun K' hK => ?_) AllReadyH.nil
        refine step_app_run rfl _ _ 69 rfl _ _ _ w7 rfl rfl R7.out ?_
        refine hK.out _ _ ?_ (fun hHeld => ?_)
        · (try dsimp only)
          exact SS.out.2.2.1
        clear hK K'
        (try simp only [Act.put, List.setIfInBounds_toArray, List.set_cons_zero, List.set_cons_succ])
        refine wpAnyH_take (i := 16) (oi := { dst := some 45, op := Op.build 71 #[(0, Operand.tmp 36), (1, Operand.tmp 44)], type := 71, pos := "law.go:98", after := #[{ on := 7, ground := Ground.data }, { on := 15, ground := Ground.data }], guard := none }) (v := ?_) rfl (by kernel_rfl) (by kernel_rfl) (by kernel_rfl) (fun _ _ _ h => h) (Or.inl ⟨by rfl, ?_⟩) (by assumption) ?_
        rotate_left 1
        · intro w' hSw; (try dsimp only at hSw); go_simp; try with_reducible rfl
        (try simp only [Act.put, List.setIfInBounds_toArray, List.set_cons_zero, List.set_cons_succ])
        refine wpAnyH_ready (rs := [17]) (by kernel_rfl) (by simp) ?_
        refine AllReadyH.cons (o := { dst := some 46, op := Op.buildSlice 24 1 #[(0, Operand.tmp 45)], type := 24, pos := "law.go:98", after := #[{ on := 16, ground := Ground.data }], guard := none }) rfl (fun K' hK => ?_) AllReadyH.nil
        go_simp
        refine hK.out _ _ ?_ (fun hHeld => ?_)
        · (try dsimp only)
          exact SS.out.2.2.2.1 _
        clear hK K'
        (try simp only [Act.put, List.setIfInBounds_toArray, List.set_cons_zero, List.set_cons_succ])
        refine wpAnyH_ready (rs := [18]) (by kernel_rfl) (by simp) ?_
        refine AllReadyH.cons (o := { dst := some 47, op := Op.call { callee := Callee.builtin Builtin.append, args := #[Operand.tmp 30, Operand.tmp 46], argTypes := #[24, 24] }, type := 24, pos := "law.go:98", after := #[{ on := 1, ground := Ground.data }, { on := 17, ground := Ground.data }, { on := 15, ground := Ground.chain }], guard := none }) rfl (fun K' hK => ?_) AllReadyH.nil
        refine step_app_run rfl _ _ 24 rfl _ _ _ w9 rfl rfl R9.out ?_
        refine hK.out _ _ ?_ (fun hHeld => ?_)
        · (try dsimp only)
          exact SS.out.2.2.2.2.1
        clear hK K'
        (try simp only [Act.put, List.setIfInBounds_toArray, List.set_cons_zero, List.set_cons_succ])
        refine wpAnyH_take (i := 19) (oi := { dst := some 48, op := Op.fieldAddr 26 (Operand.tmp 3) 7, type := 0, pos := "law.go:98", after := #[{ on := 0, ground := Ground.phase }, { on := 1, ground := Ground.phase }, { on := 2, ground := Ground.phase }, { on := 3, ground := Ground.phase }, { on := 4, ground := Ground.phase }, { on := 5, ground := Ground.phase }, { on := 6, ground := Ground.phase }, { on := 7, ground := Ground.phase }, { on := 8, ground := Ground.phase }, { on := 9, ground := Ground.phase }, { on := 10, ground := Ground.phase }, { on := 11, ground := Ground.phase }, { on := 12, ground := Ground.phase }, { on := 13, ground := Ground.phase }, { on := 14, ground := Ground.phase }, { on := 15, ground := Ground.phase }, { on := 16, ground := Ground.phase }, { on := 17, ground := Ground.phase }, { on := 18, ground := Ground.phase }], guard := none }) (v := ?_) rfl (by kernel_rfl) (by kernel_rfl) (by kernel_rfl) (fun _ _ _ h => h) (Or.inl ⟨by rfl, ?_⟩) (by assumption) ?_
        rotate_left 1
        · intro w' hSw; (try dsimp only at hSw); go_simp; try with_reducible rfl
        (try simp only [Act.put, List.setIfInBounds_toArray, List.set_cons_zero, List.set_cons_succ])
        refine wpAnyH_ready (rs := [20]) (by kernel_rfl) (by simp) ?_
        refine AllReadyH.cons (o := { dst := none, op := Op.store 24 (Operand.tmp 48) (Operand.tmp 47), type := 0, pos := "law.go:98", after := #[{ on := 19, ground := Ground.data }, { on := 18, ground := Ground.data }, { on := 18, ground := Ground.chain }, { on := 0, ground := Ground.phase }, { on := 1, ground := Ground.phase }, { on := 2, ground := Ground.phase }, { on := 3, ground := Ground.phase }, { on := 4, ground := Ground.phase }, { on := 5, ground := Ground.phase }, { on := 6, ground := Ground.phase }, { on := 7, ground := Ground.phase }, { on := 8, ground := Ground.phase }, { on := 9, ground := Ground.phase }, { on := 10, ground := Ground.phase }, { on := 11, ground := Ground.phase }, { on := 12, ground := Ground.phase }, { on := 13, ground := Ground.phase }, { on := 14, ground := Ground.phase }, { on := 15, ground := Ground.phase }, { on := 16, ground := Ground.phase }, { on := 17, ground := Ground.phase }, { on := 18, ground := Ground.phase }], guard := none }) rfl (fun K' hK => ?_) AllReadyH.nil
        go_simp
        refine hK.out _ _ ?_ (fun hHeld => ?_)
        · (try dsimp only)
          exact SS.out.2.2.2.2.2
        clear hK K'
        (try simp only [Act.put, List.setIfInBounds_toArray, List.set_cons_zero, List.set_cons_succ])
        refine wpAnyH_done (by kernel_rfl) ?_ _
        go_wp2
        obtain ⟨segs2, hL2⟩ := HL.out
        refine ⟨⟨k + 1, da2, dc2, segs2, by omega, by simp, hL2⟩, ?_⟩
        simp [intOf]
        omega
      · go_simp
        refine hK.out _ _ ?_ (fun hHeld => ?_)
        · (try dsimp only)
          exact SS.out.2.1 _
        clear hK K'
        (try simp only [Act.put, List.setIfInBounds_toArray, List.set_cons_zero, List.set_cons_succ])
        refine wpAnyH_ready (rs := [1, 15]) (by kernel_rfl) (by simp) ?_
        refine AllReadyH.cons (o := { dst := some 30, op := Op.load 24 (Operand.tmp 29), type := 24, pos := "law.go:98", after := #[{ on := 0, ground := Ground.data }], guard := none }) rfl (fun K' hK => ?_) (AllReadyH.cons (o := { dst := some 44, op := Op.call { callee := Callee.builtin Builtin.append, args := #[Operand.tmp 37, Operand.tmp 43], argTypes := #[69, 69] }, type := 69, pos := "law.go:98", after := #[{ on := 8, ground := Ground.data }, { on := 14, ground := Ground.data }], guard := none }) rfl (fun K' hK => ?_) AllReadyH.nil)
        · go_simp
          refine hK.out _ _ ?_ (fun hHeld => ?_)
          · (try dsimp only)
            exact hHeld
          clear hK K'
          (try simp only [Act.put, List.setIfInBounds_toArray, List.set_cons_zero, List.set_cons_succ])
          refine wpAnyH_ready (rs := [15]) (by kernel_rfl) (by simp) ?_
          refine AllReadyH.cons (o := { dst := some 44, op := Op.call { callee := Callee.builtin Builtin.append, args := #[Operand.tmp 37, Operand.tmp 43], argTypes := #[69, 69] }, type := 69, pos := "law.go:98", after := #[{ on := 8, ground := Ground.data }, { on := 14, ground := Ground.data }], guard := none }) rfl (fun K' hK => ?_) AllReadyH.nil
          refine step_app_run rfl _ _ 69 rfl _ _ _ w7 rfl rfl R7.out ?_
          refine hK.out _ _ ?_ (fun hHeld => ?_)
          · (try dsimp only)
            exact SS.out.2.2.1
          clear hK K'
          (try simp only [Act.put, List.setIfInBounds_toArray, List.set_cons_zero, List.set_cons_succ])
          refine wpAnyH_take (i := 16) (oi := { dst := some 45, op := Op.build 71 #[(0, Operand.tmp 36), (1, Operand.tmp 44)], type := 71, pos := "law.go:98", after := #[{ on := 7, ground := Ground.data }, { on := 15, ground := Ground.data }], guard := none }) (v := ?_) rfl (by kernel_rfl) (by kernel_rfl) (by kernel_rfl) (fun _ _ _ h => h) (Or.inl ⟨by rfl, ?_⟩) (by assumption) ?_
          rotate_left 1
          · intro w' hSw; (try dsimp only at hSw); go_simp; try with_reducible rfl
          (try simp only [Act.put, List.setIfInBounds_toArray, List.set_cons_zero, List.set_cons_succ])
          refine wpAnyH_ready (rs := [17]) (by kernel_rfl) (by simp) ?_
          refine AllReadyH.cons (o := { dst := some 46, op := Op.buildSlice 24 1 #[(0, Operand.tmp 45)], type := 24, pos := "law.go:98", after := #[{ on := 16, ground := Ground.data }], guard := none }) rfl (fun K' hK => ?_) AllReadyH.nil
          go_simp
          refine hK.out _ _ ?_ (fun hHeld => ?_)
          · (try dsimp only)
            exact SS.out.2.2.2.1 _
          clear hK K'
          (try simp only [Act.put, List.setIfInBounds_toArray, List.set_cons_zero, List.set_cons_succ])
          refine wpAnyH_ready (rs := [18]) (by kernel_rfl) (by simp) ?_
          refine AllReadyH.cons (o := { dst := some 47, op := Op.call { callee := Callee.builtin Builtin.append, args := #[Operand.tmp 30, Operand.tmp 46], argTypes := #[24, 24] }, type := 24, pos := "law.go:98", after := #[{ on := 1, ground := Ground.data }, { on := 17, ground := Ground.data }, { on := 15, ground := Ground.chain }], guard := none }) rfl (fun K' hK => ?_) AllReadyH.nil
          refine step_app_run rfl _ _ 24 rfl _ _ _ w9 rfl rfl R9.out ?_
          refine hK.out _ _ ?_ (fun hHeld => ?_)
          · (try dsimp only)
            exact SS.out.2.2.2.2.1
          clear hK K'
          (try simp only [Act.put, List.setIfInBounds_toArray, List.set_cons_zero, List.set_cons_succ])
          refine wpAnyH_take (i := 19) (oi := { dst := some 48, op := Op.fieldAddr 26 (Operand.tmp 3) 7, type := 0, pos := "law.go:98", after := #[{ on := 0, ground := Ground.phase }, { on := 1, ground := Ground.phase }, { on := 2, ground := Ground.phase }, { on := 3, ground := Ground.phase }, { on := 4, ground := Ground.phase }, { on := 5, ground := Ground.phase }, { on := 6, ground := Ground.phase }, { on := 7, ground := Ground.phase }, { on := 8, ground := Ground.phase }, { on := 9, ground := Ground.phase }, { on := 10, ground := Ground.phase }, { on := 11, ground := Ground.phase }, { on := 12, ground := Ground.phase }, { on := 13, ground := Ground.phase }, { on := 14, ground := Ground.phase }, { on := 15, ground := Ground.phase }, { on := 16, ground := Ground.phase }, { on := 17, ground := Ground.phase }, { on := 18, ground := Ground.phase }], guard := none }) (v := ?_) rfl (by kernel_rfl) (by kernel_rfl) (by kernel_rfl) (fun _ _ _ h => h) (Or.inl ⟨by rfl, ?_⟩) (by assumption) ?_
          rotate_left 1
          · intro w' hSw; (try dsimp only at hSw); go_simp; try with_reducible rfl
          (try simp only [Act.put, List.setIfInBounds_toArray, List.set_cons_zero, List.set_cons_succ])
          refine wpAnyH_ready (rs := [20]) (by kernel_rfl) (by simp) ?_
          refine AllReadyH.cons (o := { dst := none, op := Op.store 24 (Operand.tmp 48) (Operand.tmp 47), type := 0, pos := "law.go:98", after := #[{ on := 19, ground := Ground.data }, { on := 18, ground := Ground.data }, { on := 18, ground := Ground.chain }, { on := 0, ground := Ground.phase }, { on := 1, ground := Ground.phase }, { on := 2, ground := Ground.phase }, { on := 3, ground := Ground.phase }, { on := 4, ground := Ground.phase }, { on := 5, ground := Ground.phase }, { on := 6, ground := Ground.phase }, { on := 7, ground := Ground.phase }, { on := 8, ground := Ground.phase }, { on := 9, ground := Ground.phase }, { on := 10, ground := Ground.phase }, { on := 11, ground := Ground.phase }, { on := 12, ground := Ground.phase }, { on := 13, ground := Ground.phase }, { on := 14, ground := Ground.phase }, { on := 15, ground := Ground.phase }, { on := 16, ground := Ground.phase }, { on := 17, ground := Ground.phase }, { on := 18, ground := Ground.phase }], guard := none }) rfl (fun K' hK => ?_) AllReadyH.nil
          go_simp
          refine hK.out _ _ ?_ (fun hHeld => ?_)
          · (try dsimp only)
            exact SS.out.2.2.2.2.2
          clear hK K'
          (try simp only [Act.put, List.setIfInBounds_toArray, List.set_cons_zero, List.set_cons_succ])
          refine wpAnyH_done (by kernel_rfl) ?_ _
          go_wp2
          obtain ⟨segs2, hL2⟩ := HL.out
          refine ⟨⟨k + 1, da2, dc2, segs2, by omega, by simp, hL2⟩, ?_⟩
          simp [intOf]
          omega
        · refine step_app_run rfl _ _ 69 rfl _ _ _ w7 rfl rfl R7.out ?_
          refine hK.out _ _ ?_ (fun hHeld => ?_)
          · (try dsimp only)
            exact SS.out.2.2.1
          clear hK K'
          (try simp only [Act.put, List.setIfInBounds_toArray, List.set_cons_zero, List.set_cons_succ])
          refine wpAnyH_take (i := 16) (oi := { dst := some 45, op := Op.build 71 #[(0, Operand.tmp 36), (1, Operand.tmp 44)], type := 71, pos := "law.go:98", after := #[{ on := 7, ground := Ground.data }, { on := 15, ground := Ground.data }], guard := none }) (v := ?_) rfl (by kernel_rfl) (by kernel_rfl) (by kernel_rfl) (fun _ _ _ h => h) (Or.inl ⟨by rfl, ?_⟩) (by assumption) ?_
          rotate_left 1
          · intro w' hSw; (try dsimp only at hSw); go_simp; try with_reducible rfl
          (try simp only [Act.put, List.setIfInBounds_toArray, List.set_cons_zero, List.set_cons_succ])
          refine wpAnyH_ready (rs := [1, 17]) (by kernel_rfl) (by simp) ?_
          refine AllReadyH.cons (o := { dst := some 30, op := Op.load 24 (Operand.tmp 29), type := 24, pos := "law.go:98", after := #[{ on := 0, ground := Ground.data }], guard := none }) rfl (fun K' hK => ?_) (AllReadyH.cons (o := { dst := some 46, op := Op.buildSlice 24 1 #[(0, Operand.tmp 45)], type := 24, pos := "law.go:98", after := #[{ on := 16, ground := Ground.data }], guard := none }) rfl (fun K' hK => ?_) AllReadyH.nil)
          · go_simp
            refine hK.out _ _ ?_ (fun hHeld => ?_)
            · (try dsimp only)
              exact hHeld
            clear hK K'
            (try simp only [Act.put, List.setIfInBounds_toArray, List.set_cons_zero, List.set_cons_succ])
            refine wpAnyH_ready (rs := [17]) (by kernel_rfl) (by simp) ?_
            refine AllReadyH.cons (o := { dst := some 46, op := Op.buildSlice 24 1 #[(0, Operand.tmp 45)], type := 24, pos := "law.go:98", after := #[{ on := 16, ground := Ground.data }], guard := none }) rfl (fun K' hK => ?_) AllReadyH.nil
            go_simp
            refine hK.out _ _ ?_ (fun hHeld => ?_)
            · (try dsimp only)
              exact SS.out.2.2.2.1 _
            clear hK K'
            (try simp only [Act.put, List.setIfInBounds_toArray, List.set_cons_zero, List.set_cons_succ])
            refine wpAnyH_ready (rs := [18]) (by kernel_rfl) (by simp) ?_
            refine AllReadyH.cons (o := { dst := some 47, op := Op.call { callee := Callee.builtin Builtin.append, args := #[Operand.tmp 30, Operand.tmp 46], argTypes := #[24, 24] }, type := 24, pos := "law.go:98", after := #[{ on := 1, ground := Ground.data }, { on := 17, ground := Ground.data }, { on := 15, ground := Ground.chain }], guard := none }) rfl (fun K' hK => ?_) AllReadyH.nil
            refine step_app_run rfl _ _ 24 rfl _ _ _ w9 rfl rfl R9.out ?_
            refine hK.out _ _ ?_ (fun hHeld => ?_)
            · (try dsimp only)
              exact SS.out.2.2.2.2.1
            clear hK K'
            (try simp only [Act.put, List.setIfInBounds_toArray, List.set_cons_zero, List.set_cons_succ])
            refine wpAnyH_take (i := 19) (oi := { dst := some 48, op := Op.fieldAddr 26 (Operand.tmp 3) 7, type := 0, pos := "law.go:98", after := #[{ on := 0, ground := Ground.phase }, { on := 1, ground := Ground.phase }, { on := 2, ground := Ground.phase }, { on := 3, ground := Ground.phase }, { on := 4, ground := Ground.phase }, { on := 5, ground := Ground.phase }, { on := 6, ground := Ground.phase }, { on := 7, ground := Ground.phase }, { on := 8, ground := Ground.phase }, { on := 9, ground := Ground.phase }, { on := 10, ground := Ground.phase }, { on := 11, ground := Ground.phase }, { on := 12, ground := Ground.phase }, { on := 13, ground := Ground.phase }, { on := 14, ground := Ground.phase }, { on := 15, ground := Ground.phase }, { on := 16, ground := Ground.phase }, { on := 17, ground := Ground.phase }, { on := 18, ground := Ground.phase }], guard := none }) (v := ?_) rfl (by kernel_rfl) (by kernel_rfl) (by kernel_rfl) (fun _ _ _ h => h) (Or.inl ⟨by rfl, ?_⟩) (by assumption) ?_
            rotate_left 1
            · intro w' hSw; (try dsimp only at hSw); go_simp; try with_reducible rfl
            (try simp only [Act.put, List.setIfInBounds_toArray, List.set_cons_zero, List.set_cons_succ])
            refine wpAnyH_ready (rs := [20]) (by kernel_rfl) (by simp) ?_
            refine AllReadyH.cons (o := { dst := none, op := Op.store 24 (Operand.tmp 48) (Operand.tmp 47), type := 0, pos := "law.go:98", after := #[{ on := 19, ground := Ground.data }, { on := 18, ground := Ground.data }, { on := 18, ground := Ground.chain }, { on := 0, ground := Ground.phase }, { on := 1, ground := Ground.phase }, { on := 2, ground := Ground.phase }, { on := 3, ground := Ground.phase }, { on := 4, ground := Ground.phase }, { on := 5, ground := Ground.phase }, { on := 6, ground := Ground.phase }, { on := 7, ground := Ground.phase }, { on := 8, ground := Ground.phase }, { on := 9, ground := Ground.phase }, { on := 10, ground := Ground.phase }, { on := 11, ground := Ground.phase }, { on := 12, ground := Ground.phase }, { on := 13, ground := Ground.phase }, { on := 14, ground := Ground.phase }, { on := 15, ground := Ground.phase }, { on := 16, ground := Ground.phase }, { on := 17, ground := Ground.phase }, { on := 18, ground := Ground.phase }], guard := none }) rfl (fun K' hK => ?_) AllReadyH.nil
            go_simp
            refine hK.out _ _ ?_ (fun hHeld => ?_)
            · (try dsimp only)
              exact SS.out.2.2.2.2.2
            clear hK K'
            (try simp only [Act.put, List.setIfInBounds_toArray, List.set_cons_zero, List.set_cons_succ])
            refine wpAnyH_done (by kernel_rfl) ?_ _
            go_wp2
            obtain ⟨segs2, hL2⟩ := HL.out
            refine ⟨⟨k + 1, da2, dc2, segs2, by omega, by simp, hL2⟩, ?_⟩
            simp [intOf]
            omega
          · go_simp
            refine hK.out _ _ ?_ (fun hHeld => ?_)
            · (try dsimp only)
              exact SS.out.2.2.2.1 _
            clear hK K'
            (try simp only [Act.put, List.setIfInBounds_toArray, List.set_cons_zero, List.set_cons_succ])
            refine wpAnyH_ready (rs := [1]) (by kernel_rfl) (by simp) ?_
            refine AllReadyH.cons (o := { dst := some 30, op := Op.load 24 (Operand.tmp 29), type := 24, pos := "law.go:98", after := #[{ on := 0, ground := Ground.data }], guard := none }) rfl (fun K' hK => ?_) AllReadyH.nil
            go_simp
            refine hK.out _ _ ?_ (fun hHeld => ?_)
            · (try dsimp only)
              exact hHeld
            clear hK K'
            (try simp only [Act.put, List.setIfInBounds_toArray, List.set_cons_zero, List.set_cons_succ])
            refine wpAnyH_ready (rs := [18]) (by kernel_rfl) (by simp) ?_
            refine AllReadyH.cons (o := { dst := some 47, op := Op.call { callee := Callee.builtin Builtin.append, args := #[Operand.tmp 30, Operand.tmp 46], argTypes := #[24, 24] }, type := 24, pos := "law.go:98", after := #[{ on := 1, ground := Ground.data }, { on := 17, ground := Ground.data }, { on := 15, ground := Ground.chain }], guard := none }) rfl (fun K' hK => ?_) AllReadyH.nil
            refine step_app_run rfl _ _ 24 rfl _ _ _ w9 rfl rfl R9.out ?_
            refine hK.out _ _ ?_ (fun hHeld => ?_)
            · (try dsimp only)
              exact SS.out.2.2.2.2.1
            clear hK K'
            (try simp only [Act.put, List.setIfInBounds_toArray, List.set_cons_zero, List.set_cons_succ])
            refine wpAnyH_take (i := 19) (oi := { dst := some 48, op := Op.fieldAddr 26 (Operand.tmp 3) 7, type := 0, pos := "law.go:98", after := #[{ on := 0, ground := Ground.phase }, { on := 1, ground := Ground.phase }, { on := 2, ground := Ground.phase }, { on := 3, ground := Ground.phase }, { on := 4, ground := Ground.phase }, { on := 5, ground := Ground.phase }, { on := 6, ground := Ground.phase }, { on := 7, ground := Ground.phase }, { on := 8, ground := Ground.phase }, { on := 9, ground := Ground.phase }, { on := 10, ground := Ground.phase }, { on := 11, ground := Ground.phase }, { on := 12, ground := Ground.phase }, { on := 13, ground := Ground.phase }, { on := 14, ground := Ground.phase }, { on := 15, ground := Ground.phase }, { on := 16, ground := Ground.phase }, { on := 17, ground := Ground.phase }, { on := 18, ground := Ground.phase }], guard := none }) (v := ?_) rfl (by kernel_rfl) (by kernel_rfl) (by kernel_rfl) (fun _ _ _ h => h) (Or.inl ⟨by rfl, ?_⟩) (by assumption) ?_
            rotate_left 1
            · intro w' hSw; (try dsimp only at hSw); go_simp; try with_reducible rfl
            (try simp only [Act.put, List.setIfInBounds_toArray, List.set_cons_zero, List.set_cons_succ])
            refine wpAnyH_ready (rs := [20]) (by kernel_rfl) (by simp) ?_
            refine AllReadyH.cons (o := { dst := none, op := Op.store 24 (Operand.tmp 48) (Operand.tmp 47), type := 0, pos := "law.go:98", after := #[{ on := 19, ground := Ground.data }, { on := 18, ground := Ground.data }, { on := 18, ground := Ground.chain }, { on := 0, ground := Ground.phase }, { on := 1, ground := Ground.phase }, { on := 2, ground := Ground.phase }, { on := 3, ground := Ground.phase }, { on := 4, ground := Ground.phase }, { on := 5, ground := Ground.phase }, { on := 6, ground := Ground.phase }, { on := 7, ground := Ground.phase }, { on := 8, ground := Ground.phase }, { on := 9, ground := Ground.phase }, { on := 10, ground := Ground.phase }, { on := 11, ground := Ground.phase }, { on := 12, ground := Ground.phase }, { on := 13, ground := Ground.phase }, { on := 14, ground := Ground.phase }, { on := 15, ground := Ground.phase }, { on := 16, ground := Ground.phase }, { on := 17, ground := Ground.phase }, { on := 18, ground := Ground.phase }], guard := none }) rfl (fun K' hK => ?_) AllReadyH.nil
            go_simp
            refine hK.out _ _ ?_ (fun hHeld => ?_)
            · (try dsimp only)
              exact SS.out.2.2.2.2.2
            clear hK K'
            (try simp only [Act.put, List.setIfInBounds_toArray, List.set_cons_zero, List.set_cons_succ])
            refine wpAnyH_done (by kernel_rfl) ?_ _
            go_wp2
            obtain ⟨segs2, hL2⟩ := HL.out
            refine ⟨⟨k + 1, da2, dc2, segs2, by omega, by simp, hL2⟩, ?_⟩
            simp [intOf]
            omega
    · have e : k = days.length := by omega
      subst e
      have kc : ¬ (days.length : Int) < (days.length : Int) := by omega
      obtain ⟨x0, x1, x2, x3, x4, x5, x6, x7⟩ := box_all8 hL.s.qb
      obtain ⟨z0, z1, z2, z3, z4, z5, z6, z7⟩ := box_all8 hL.s.zb
      have f0 := hL.s.zb.frozen 0
      have f1 := hL.s.zb.frozen 1
      have f2 := hL.s.zb.frozen 2
      have f3 := hL.s.zb.frozen 3
      have f4 := hL.s.zb.frozen 4
      have f5 := hL.s.zb.frozen 5
      have f6 := hL.s.zb.frozen 6
      have f7 := hL.s.zb.frozen 7
      simp only at x0 x1 x2 x3 x4 x5 x6 x7
      obtain ⟨s1, s2, s3⟩ := set8 hL.s.zb (.slice na' names.length nc') (.slice ua' curs.length uc') (.slice pa' pool.length pc') (.int .i64 hor) (.int .i64 cells) (.int .i64 slots) (.int .i64 stack) (.slice da1 days.length dc1)
      have S1 := Lib.hid s1
      have S2 := Lib.hid s2
      have S3 := Lib.hid s3
      have CC := Lib.hid hL
      clear hL s1 s2 s3
      go_wp2
      refine bodyPost_ret (v := .agg #[.slice na' names.length nc', .slice ua' curs.length uc', .slice pa' pool.length pc', .int .i64 hor, .int .i64 cells, .int .i64 slots, .int .i64 stack, .slice da1 days.length dc1]) ?r rfl ?s
      case r => exact results_cell_row rfl _ _ (w.heap.size + 1) 26 _ (0, 0) _ rfl S1.out Tryz.underlying26 rfl (by kernel_rfl)
      case s =>
        refine ⟨{ (⟨na, nc, names, ua, uc, curs, pa, pc, pool, hor, cells, slots, stack, da, dc, days⟩ : Pg) with na := na', nc := nc', ua := ua', uc := uc', pa := pa', pc := pc', da := da1, dc := dc1, days := segs }, ?_, od_key CC.out, ?_, ?_⟩
        · have l := CC.out.len
          have l : segs.length = days.length := l
          simp only [Pg.agg, l]
        · have b := CC.out.s.bel
          exact (((((((b.setCell (by exact Nat.le_succ _) _).setCell (by exact Nat.le_succ _) _).setCell (by exact Nat.le_succ _) _).setCell (by exact Nat.le_succ _) _).setCell (by exact Nat.le_succ _) _).setCell (by exact Nat.le_succ _) _).setCell (by exact Nat.le_succ _) _).setCell (by exact Nat.le_succ _) _
        · intro V hV
          refine od_pv CC.out HH.out (fun k h1 h2 h3 => ?_)
          rw [hV k h1 (by rw [S3.out]; exact h2), S2.out k h3]
end Go.Proofs.YtpfjnnkjoabgbaaGreatDoor
