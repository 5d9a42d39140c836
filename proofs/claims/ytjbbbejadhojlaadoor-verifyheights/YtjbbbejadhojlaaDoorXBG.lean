import Derived.Test.YtjbbbejadhojlaaDoorXBF
namespace Go.Proofs.YtjbbbejadhojlaaDoor
open Go.RowKit
set_option linter.unusedVariables false
set_option linter.unusedSimpArgs false
def updN (cg : Nat → Nat) (k g d : Nat) : Nat := if d = k then g else cg d
theorem updN_eq (cg : Nat → Nat) (k g : Nat) : updN cg k g k = g := if_pos rfl
theorem updN_ne {cg : Nat → Nat} {k g d : Nat} (h : d ≠ k) : updN cg k g d = cg d := if_neg h
def set2w (W : World) (g o : Nat) (d0 d1 : Value) : World := (W.setCell ⟨g, o, none⟩ d0).setCell ⟨g, o + 1, none⟩ d1
theorem set2w_far {W : World} {g o : Nat} {d0 d1 : Value} {u : Nat} (h : u ≠ g) : (set2w W g o d0 d1).heap[u]? = W.heap[u]? := by
  unfold set2w
  rw [bk_blockG h, bk_blockG h]
theorem mix2 {W : World} {g : Nat} {G Z : Nat → Value} {i N : Nat} {t : TypeId} {x d0 d1 : Value} {cs : Array Value} (h : BkP W g ((mixA G Z (i * 2) N).set! (i * 2) x) t) (hi : i * 2 + 1 < N) (e0 : G (i * 2) = d0) (e1 : G (i * 2 + 1) = d1) : BkP (set2w W g (i * 2) d0 d1) g (mixA G Z ((i + 1) * 2) N) t := by
  have q := (h.set2 (i * 2) d0 (by simp [mixA_size]; omega)).set2 (i * 2 + 1) d1 (by simp [mixA_size]; omega)
  rw [← e0, ← e1, mixA_set2, mixA_set] at q
  rw [show (i + 1) * 2 = i * 2 + 1 + 1 by omega]
  rw [← e0, ← e1]
  exact q
/-- What handProgram answers. -/
def HnE (w : World) (p : Pg) (e : Ending) (w' : World) : Prop := ∃ gn gc gp gd cg, e = .returned (hdP p gn gc gp gd cg (fun d => (p.days.getD d default).code)).agg ∧ HnP w' w.heap.size p gn gc gp gd cg (fun d => (p.days.getD d default).code) ∧ Below w.heap.size w w'
theorem hs_start (w : World) (p : Pg) : HsI w p p.arr [] (((w.alloc p.box).alloc (.cells #[.slice none 0 0, .slice none 0 0, .slice none 0 0, .int .i64 0, .int .i64 0, .int .i64 0, .int .i64 0, .slice none 0 0] 26)).alloc p.box) := by
  obtain ⟨W1, h1⟩ : ∃ W, w.alloc p.box = W := ⟨_, rfl⟩
  rw [h1]
  obtain ⟨W2, h2⟩ : ∃ W, W1.alloc (.cells #[.slice none 0 0, .slice none 0 0, .slice none 0 0, .int .i64 0, .int .i64 0, .int .i64 0, .int .i64 0, .slice none 0 0] 26) = W := ⟨_, rfl⟩
  rw [h2]
  have s1 : W1.heap.size = w.heap.size + 1 := by rw [← h1]; simp
  have s2 : W2.heap.size = w.heap.size + 2 := by rw [← h2]; simp [s1]
  have b1 : Below w.heap.size w W1 := by rw [← h1]; exact allocBP _ _
  have b2 : Below W1.heap.size W1 W2 := by rw [← h2]; exact allocBP _ _
  have b3 := allocBP W2 p.box
  have t1 : BkP W1 w.heap.size p.arr 26 := by rw [← h1]; exact heapN _ _
  have t2 : BkP W2 W1.heap.size #[.slice none 0 0, .slice none 0 0, .slice none 0 0, .int .i64 0, .int .i64 0, .int .i64 0, .int .i64 0, .slice none 0 0] 26 := by rw [← h2]; exact heapN _ _
  have t3 : BkP (W2.alloc p.box) W2.heap.size p.arr 26 := heapN _ _
  rw [s1] at t2
  rw [s2] at t3
  have b12 := b1.trans (b2.mono b1.size)
  exact ⟨b12.trans (b3.mono b12.size), (t1.lat b2).lat b3, t2.lat b3, t3, fun x hx => (by cases hx), List.nodup_nil⟩
theorem hs_end {w : World} {na : Option Addr} {nc : Nat} {names : List ByteArray} {ua : Option Addr} {uc : Nat} {curs : List ByteArray} {pa : Option Addr} {pc : Nat} {pool : List Int} {hor cells slots stack : Int} {da : Option Addr} {dc : Nat} {days : List Sg} {gn gc gp gd : Nat} {cg : Nat → Nat} {xs : Array Value} {Z2 : Nat → Value} {W : World} (h : HsI w ⟨na, nc, names, ua, uc, curs, pa, pc, pool, hor, cells, slots, stack, da, dc, days⟩ xs [⟨gd, mixA (sgG days cg) Z2 ((days.length + 3) * 2) ((days.length + 3) * 2), 43⟩, ⟨gp, fullA (poG pool) (pool.length + 3), 3⟩, ⟨gc, (fullA (txG curs) (curs.length + 3)), 9⟩, ⟨gn, (fullA (txG names) (names.length + 3)), 9⟩] W) (hc : (∀ d, d < (days.length + 3) → d < days.length → BkP W (cg d) (fullA (inG (days.getD d default).code) (((days.getD d default).code.length + 3) * 3)) 51 ∧ gd < cg d) ∧ (∀ d e, d < (days.length + 3) → e < (days.length + 3) → d < days.length → e < days.length → cg d = cg e → d = e)) {V : World} (far : ∀ u, w.heap.size + 2 < u → V.heap[u]? = W.heap[u]?) : HnP V w.heap.size ⟨na, nc, names, ua, uc, curs, pa, pc, pool, hor, cells, slots, stack, da, dc, days⟩ gn gc gp gd cg (fun d => (days.getD d default).code) := by
  have k1 := h.bl _ (List.mem_cons_self)
  have k2 := h.bl _ (List.mem_cons_of_mem _ (List.mem_cons_self))
  have k3 := h.bl _ (List.mem_cons_of_mem _ (List.mem_cons_of_mem _ (List.mem_cons_self)))
  have k4 := h.bl _ (List.mem_cons_of_mem _ (List.mem_cons_of_mem _ (List.mem_cons_of_mem _ (List.mem_cons_self))))
  simp only at k1 k2 k3 k4
  rw [mixA_end] at k1
  refine ⟨(far _ k4.2).trans k4.1, (far _ k3.2).trans k3.1, (far _ k2.2).trans k2.1, (far _ k1.2).trans k1.1, fun d hd => ?_, ⟨by omega, by omega, by omega, by omega⟩, fun d e hd he q => hc.2 d e (by simp only at hd; omega) (by simp only at he; omega) hd he q⟩
  have q := hc.1 d (by simp only at hd; omega) hd
  exact ⟨(far _ (by omega)).trans q.1, rfl, by omega⟩
set_option maxRecDepth 100000 in
set_option maxHeartbeats 6400000 in
theorem handProgram_any {w : World} {p : Pg} (h : PV w p) : Calls Tryd.prog 5 #[p.agg] w fun e w' => HnE w p e w' := by
  have S0 := hs_start w p
  have b1 := h.names.2.2.1
  have b2 := h.curs.2.2.1
  have b3 := h.pool.2.2.1
  have b4 := h.days.2.2.1
  have HP := Lib.hid (fun V (bb : Below w.heap.size w V) => h.later bb)
  clear h
  unfold Pg.agg at *
  unfold Pg.box at *
  obtain ⟨na, nc, names, ua, uc, curs, pa, pc, pool, hor, cells, slots, stack, da, dc, days⟩ := p
  simp only at b1 b2 b3 b4 S0 ⊢
  have AR : (Pg.arr ⟨na, nc, names, ua, uc, curs, pa, pc, pool, hor, cells, slots, stack, da, dc, days⟩) = #[.slice na names.length nc, .slice ua curs.length uc, .slice pa pool.length pc, .int .i64 hor, .int .i64 cells, .int .i64 slots, .int .i64 stack, .slice da days.length dc] := rfl
  rw [AR] at S0
  have KT := Lib.hid (p := ∀ V, Below w.heap.size w V → Calls Tryd.prog 13 #[.slice na names.length nc] V fun e w' => HtxE V names e w') (fun V bb => handTexts_any (HP.out V bb).names)
  have KU := Lib.hid (p := ∀ V, Below w.heap.size w V → Calls Tryd.prog 13 #[.slice ua curs.length uc] V fun e w' => HtxE V curs e w') (fun V bb => handTexts_any (HP.out V bb).curs)
  have BX := Lib.hid (p := ∀ xs L V, HsI w ⟨na, nc, names, ua, uc, curs, pa, pc, pool, hor, cells, slots, stack, da, dc, days⟩ xs L V → BkP V w.heap.size #[.slice na names.length nc, .slice ua curs.length uc, .slice pa pool.length pc, .int .i64 hor, .int .i64 cells, .int .i64 slots, .int .i64 stack, .slice da days.length dc] 26) (fun xs L V q => q.pb)
  have PC := Lib.hid (p := ∀ k, k < pool.length → ∃ y u, pa = some ⟨y, u, none⟩ ∧ ∀ V, Below w.heap.size w V → V.cell? ⟨y, u + k, none⟩ = some (.int .i64 (pool.getD k 0))) (fun k hk => by
    rcases (HP.out w (Below.refl _ _)).pool.2.2.2.2 with z | ⟨y, u, e, ly, hc⟩
    · simp only at z; omega
    · have := hc k hk 0 (by omega)
      rw [Nat.mul_one, Nat.add_zero] at this
      exact ⟨y, u, e, fun V bb => (bb.cell (p := ⟨y, u + k, none⟩) ly).trans this⟩)
  have DC := Lib.hid (p := ∀ k, k < days.length → ∃ y u, da = some ⟨y, u, none⟩ ∧ ∀ V, Below w.heap.size w V → (V.cell? ⟨y, u + k * 2, none⟩ = some (.int .i64 (days.getD k default).day) ∧ V.cell? ⟨y, u + k * 2 + 1, none⟩ = some (.slice (days.getD k default).ca (days.getD k default).code.length (days.getD k default).cc)) ∧ IR V (days.getD k default).ca (days.getD k default).code.length (days.getD k default).cc (days.getD k default).code) (fun k hk => by
    rcases (HP.out w (Below.refl _ _)).days.2.2.2.2 with z | ⟨y, u, e, ly, hc⟩
    · simp only at z; omega
    · have c0 := hc k hk 0 (by omega)
      have c1 := hc k hk 1 (by omega)
      simp only [Sg.cs, Nat.add_zero, List.getD_cons_zero, List.getD_cons_succ] at c0 c1
      exact ⟨y, u, e, fun V bb => ⟨⟨(bb.cell (p := ⟨y, u + k * 2, none⟩) ly).trans c0, (bb.cell (p := ⟨y, u + k * 2 + 1, none⟩) ly).trans c1⟩, ((HP.out w (Below.refl _ _)).days.2.2.2.1 _ (sg_mem hk)).2.later bb⟩⟩)
  go_enter Tryd.func5, Tryd.ntmps5
  obtain ⟨_, _, _, _, _, _, _, _⟩ := box_all8 S0.pb
  go_upto_region 2 with fail
  rw [show w.heap.size + 1 + 1 = w.heap.size + 2 from rfl]
  try rw [AR] at *
  generalize hW : World.alloc _ _ = W3 at *
  clear hW
  have SS := Lib.hid S0
  have KA := Lib.hid (KT.out _ S0.be)
  obtain ⟨y0, _, _, _, _, _, _, _⟩ := box_all8 (BX.out _ _ _ S0)
  clear S0
  go_cut [] (fun wx => ∃ gn, RowKit.Hid (HsI w ⟨na, nc, names, ua, uc, curs, pa, pc, pool, hor, cells, slots, stack, da, dc, days⟩ #[.slice (some ⟨gn, 0, none⟩) names.length (names.length + 3), .slice ua curs.length uc, .slice pa pool.length pc, .int .i64 hor, .int .i64 cells, .int .i64 slots, .int .i64 stack, .slice da days.length dc] [⟨gn, (fullA (txG names) (names.length + 3)), 9⟩] wx))
  case first =>
    go_wp2_with (go_at_call 13; refine KA.out.mono ?_; rintro e w1 ⟨gn, rfl, hg, hb, bb⟩; have H1 := SS.out.add bb ⟨gn, (fullA (txG names) (names.length + 3)), 9⟩ hb hg; obtain ⟨x0, _, _, _, _, _, _, _⟩ := box_all8 H1.xb; have f0 := H1.xb.frozen 0; have NX := Lib.hid (H1.setX 0 (.slice (some ⟨gn, 0, none⟩) names.length (names.length + 3)) (by simp)); clear H1 hb bb)
    go_meet
    case rel =>
      have N2 := NX.out
      simp at N2
      exact ⟨gn, N2⟩
  case rest =>
    obtain ⟨gn, hq⟩ := hcut
    have S1 := hq.out
    clear hq SS KA KT y0
    have SS := Lib.hid S1
    have KA := Lib.hid (KU.out _ S1.be)
    obtain ⟨_, y1, _, _, _, _, _, _⟩ := box_all8 (BX.out _ _ _ S1)
    clear S1
    go_upto_region 3 with fail
    go_cut [] (fun wx => ∃ gc, RowKit.Hid (HsI w ⟨na, nc, names, ua, uc, curs, pa, pc, pool, hor, cells, slots, stack, da, dc, days⟩ #[.slice (some ⟨gn, 0, none⟩) names.length (names.length + 3), .slice (some ⟨gc, 0, none⟩) curs.length (curs.length + 3), .slice pa pool.length pc, .int .i64 hor, .int .i64 cells, .int .i64 slots, .int .i64 stack, .slice da days.length dc] [⟨gc, (fullA (txG curs) (curs.length + 3)), 9⟩, ⟨gn, (fullA (txG names) (names.length + 3)), 9⟩] wx))
    case first =>
      go_wp2_with (go_at_call 13; refine KA.out.mono ?_; rintro e w1 ⟨gc, rfl, hg, hb, bb⟩; have H1 := SS.out.add bb ⟨gc, (fullA (txG curs) (curs.length + 3)), 9⟩ hb hg; obtain ⟨_, x1, _, _, _, _, _, _⟩ := box_all8 H1.xb; have f1 := H1.xb.frozen 1; have NX := Lib.hid (H1.setX 1 (.slice (some ⟨gc, 0, none⟩) curs.length (curs.length + 3)) (by simp)); clear H1 hb bb)
      go_meet
      case rel =>
        have N2 := NX.out
        simp at N2
        exact ⟨gc, N2⟩
    case rest =>
      obtain ⟨gc, hq⟩ := hcut
      have S2 := hq.out
      clear hq SS KA KU y1
      obtain ⟨_, _, y2, _, _, _, _, y7⟩ := box_all8 (BX.out _ _ _ S2)
      obtain ⟨N, hN⟩ : ∃ N, pool.length + 3 = N := ⟨_, rfl⟩
      obtain ⟨N2, hN2⟩ : ∃ N2, days.length + 3 = N2 := ⟨_, rfl⟩
      have MK := make_intH N (by omega)
      have MK2 := make_segH N2 (by omega)
      have kN : IntKind.i64.wrap ((pool.length : Int) + 3) = (N : Int) := by simp [IntKind.wrap, IntKind.bits, IntKind.signed]; omega
      have kN2 : IntKind.i64.wrap ((days.length : Int) + 3) = (N2 : Int) := by simp [IntKind.wrap, IntKind.bits, IntKind.signed]; omega
      have HN := Lib.hid hN
      have HN2 := Lib.hid hN2
      have hpN : pool.length ≤ N := by omega
      have hdN : days.length ≤ N2 := by omega
      have P0 := Lib.hid (S2.add (allocBP wc (.cells (madeCells #[.int .i64 0] N) 3)) ⟨wc.heap.size, mixA (poG pool) (fun j => (#[Value.int .i64 0])[j % (#[Value.int .i64 0]).size]!) 0 N, 3⟩ (by rw [← mixA_made]; exact heapN _ _) (Nat.le_refl _))
      have GP := Lib.hid (p := ∀ k, poG pool k = if k < pool.length then .int .i64 (pool.getD k 0) else .int .i64 (-77)) (fun k => rfl)
      generalize (fun j => (#[Value.int .i64 0])[j % (#[Value.int .i64 0]).size]!) = Z at *
      clear S2
      go_wp2
      generalize hgp : wc.heap.size = gp at *
      generalize hW : World.alloc _ _ = W5 at *
      clear hW y2 y7
      go_loopw [5] (fun t wr => ∃ k : Nat, k ≤ N ∧ t = .int .i64 (k : Int) ∧ RowKit.Hid (HsI w ⟨na, nc, names, ua, uc, curs, pa, pc, pool, hor, cells, slots, stack, da, dc, days⟩ #[.slice (some ⟨gn, 0, none⟩) names.length (names.length + 3), .slice (some ⟨gc, 0, none⟩) curs.length (curs.length + 3), .slice pa pool.length pc, .int .i64 hor, .int .i64 cells, .int .i64 slots, .int .i64 stack, .slice da days.length dc] [⟨gp, mixA (poG pool) Z k N, 3⟩, ⟨gc, (fullA (txG curs) (curs.length + 3)), 9⟩, ⟨gn, (fullA (txG names) (names.length + 3)), 9⟩] wr)) (fun t _ => N - (intOf t).toNat)
      case atStart => exact ⟨0, by omega, rfl, P0.out⟩
      case round =>
        clear P0
        rename World => wr
        obtain ⟨k, hk, rfl, hH⟩ := hrel
        have hS := hH.out
        obtain ⟨_, _, y2, _, _, _, _, y7⟩ := box_all8 (BX.out _ _ _ hS)
        by_cases hlt : k < N
        · have kc : (k : Int) < (N : Int) := by omega
          have k0 : ¬ (k : Int) < 0 := by omega
          have ks : IntKind.i64.wrap ((k : Int) + 1) = (k : Int) + 1 := by simp [IntKind.wrap, IntKind.bits, IntKind.signed]; omega
          obtain ⟨hb, hg⟩ := hS.bl _ List.mem_cons_self
          simp only at hb hg
          have cg0 : wr.cell? ⟨gp, k, none⟩ = some (Z k) := by rw [hb.cell, mixA_at _ _ _ _ _ hlt, if_neg (by omega)]
          have fg := hb.frozen k
          have be1 := hS.be.setCell (p := ⟨gp, k, none⟩) (by show w.heap.size ≤ gp; omega) (.int .i64 (-77))
          have far1 : ∀ u, u ≠ gp → (wr.setCell ⟨gp, k, none⟩ (.int .i64 (-77))).heap[u]? = wr.heap[u]? := fun u hu => bk_blockG hu
          by_cases hm : k < pool.length
          · obtain ⟨y, u, rfl, hc⟩ := PC.out k hm
            have km : (k : Int) < (pool.length : Int) := by omega
            have c2 := hc _ be1
            have y2b : (wr.setCell ⟨gp, k, none⟩ (.int .i64 (-77))).cell? ⟨w.heap.size, 2, none⟩ = some (.slice (some ⟨y, u, none⟩) pool.length pc) := (World.cell?_of_block (a := ⟨w.heap.size, 2, none⟩) (far1 w.heap.size (by omega))).trans y2
            have NX := Lib.hid (hS.setH (V := (wr.setCell ⟨gp, k, none⟩ (.int .i64 (-77))).setCell ⟨gp, k, none⟩ (.int .i64 (pool.getD k 0))) (cs := mixA (poG pool) Z (k + 1) N) (fun v hv => by rw [bk_blockG hv, bk_blockG hv]) (be1.setCell (by show w.heap.size ≤ gp; omega) _) (by
              have q := (hb.set2 k (.int .i64 (-77)) (by rw [mixA_size]; exact hlt)).set2 k (.int .i64 (pool.getD k 0)) (by simp [mixA_size]; exact hlt)
              have e := mixA_set2 (poG pool) Z k N (.int .i64 (-77))
              rw [GP.out k, if_pos hm] at e
              rw [e] at q
              exact q))
            clear hH hS hb be1 far1 hc
            generalize pool.getD k 0 = pv at *
            go_wp2
            refine ⟨⟨k + 1, by omega, by go_num, NX.out⟩, ?_⟩
            simp [intOf]
            omega
          · have km : ¬ (k : Int) < (pool.length : Int) := by omega
            have y2b : (wr.setCell ⟨gp, k, none⟩ (.int .i64 (-77))).cell? ⟨w.heap.size, 2, none⟩ = some (.slice pa pool.length pc) := (World.cell?_of_block (a := ⟨w.heap.size, 2, none⟩) (far1 w.heap.size (by omega))).trans y2
            have NX := Lib.hid (hS.setH (V := wr.setCell ⟨gp, k, none⟩ (.int .i64 (-77))) (cs := mixA (poG pool) Z (k + 1) N) far1 be1 (by
              have q := hb.set2 k (.int .i64 (-77)) (by rw [mixA_size]; exact hlt)
              have e := mixA_set (poG pool) Z k N
              rw [GP.out k, if_neg hm] at e
              rw [e] at q
              exact q))
            clear hH hS hb be1 far1
            go_wp2
            refine ⟨⟨k + 1, by omega, by go_num, NX.out⟩, ?_⟩
            simp [intOf]
            omega
        · obtain rfl : N = k := by omega
          rw [mixA_end] at hS
          have hS2 := hS.setX 2 (.slice (some ⟨gp, 0, none⟩) pool.length N) (by simp)
          obtain ⟨_, _, x2, _, _, _, _, _⟩ := box_all8 hS.xb
          have f2 := hS.xb.frozen 2
          obtain ⟨_, _, _, _, _, _, _, y7b⟩ := box_all8 (BX.out _ _ _ hS2)
          have P1 := Lib.hid (hS2.add (allocBP _ (.cells (madeCells #[.int .i64 0, .slice none 0 0] (N2 * 2)) 43)) ⟨(wr.setCell ⟨w.heap.size + 2, 2, none⟩ (.slice (some ⟨gp, 0, none⟩) pool.length N)).heap.size, mixA (sgG days (fun _ => 0)) (fun j => (#[Value.int .i64 0, .slice none 0 0])[j % (#[Value.int .i64 0, .slice none 0 0]).size]!) (0 * 2) (N2 * 2), 43⟩ (by rw [Nat.zero_mul, ← mixA_made]; exact heapN _ _) (Nat.le_refl _))
          have ez : ∀ j, (fun j => (#[Value.int .i64 0, .slice none 0 0])[j % (#[Value.int .i64 0, .slice none 0 0]).size]!) (j * 2 + 1) = .slice none 0 0 := fun j => by
            have : (j * 2 + 1) % 2 = 1 := by omega
            simp [this]
          have EZ := Lib.hid ez
          generalize (fun j => (#[Value.int .i64 0, .slice none 0 0])[j % (#[Value.int .i64 0, .slice none 0 0]).size]!) = Z2 at *
          obtain ⟨gd, hgd⟩ : ∃ gd, (wr.setCell ⟨w.heap.size + 2, 2, none⟩ (.slice (some ⟨gp, 0, none⟩) pool.length N)).heap.size = gd := ⟨_, rfl⟩
          have P2 := Lib.hid (p := (wr.setCell ⟨w.heap.size + 2, 2, none⟩ (.slice (some ⟨gp, 0, none⟩) pool.length N)).heap.size = wr.heap.size) (by simp)
          rw [hgd] at P1
          have sz : wr.heap.size = gd := by rw [← hgd]; simp
          clear hH hS hS2 ez hgd P2
          go_wp2
          generalize hW : World.alloc _ _ = W7 at *
          clear hW y2 y7 y7b x2 f2
          try rw [sz]
          have P3 := Lib.hid (p := HsI w ⟨na, nc, names, ua, uc, curs, pa, pc, pool, hor, cells, slots, stack, da, dc, days⟩ #[.slice (some ⟨gn, 0, none⟩) names.length (names.length + 3), .slice (some ⟨gc, 0, none⟩) curs.length (curs.length + 3), .slice (some ⟨gp, 0, none⟩) pool.length (pool.length + 3), .int .i64 hor, .int .i64 cells, .int .i64 slots, .int .i64 stack, .slice da days.length dc] [⟨gd, mixA (sgG days (fun _ => 0)) Z2 (0 * 2) (N2 * 2), 43⟩, ⟨gp, fullA (poG pool) (pool.length + 3), 3⟩, ⟨gc, (fullA (txG curs) (curs.length + 3)), 9⟩, ⟨gn, (fullA (txG names) (names.length + 3)), 9⟩] W7 ∧ (∀ d, d < 0 → d < days.length → BkP W7 ((fun _ => 0) d) (fullA (inG (days.getD d default).code) (((days.getD d default).code.length + 3) * 3)) 51 ∧ gd < (fun _ => 0) d) ∧ (∀ d e, d < 0 → e < 0 → d < days.length → e < days.length → (fun _ => 0) d = (fun _ => 0) e → d = e)) (by
            have q := P1.out
            simp at q
            rw [← HN.out] at q
            exact ⟨q, fun d hd => by omega, fun d e hd => by omega⟩)
          clear P1
          go_loopw [7] (fun t wr => ∃ (k : Nat) (cg : Nat → Nat), k ≤ N2 ∧ t = .int .i64 (k : Int) ∧ RowKit.Hid (HsI w ⟨na, nc, names, ua, uc, curs, pa, pc, pool, hor, cells, slots, stack, da, dc, days⟩ #[.slice (some ⟨gn, 0, none⟩) names.length (names.length + 3), .slice (some ⟨gc, 0, none⟩) curs.length (curs.length + 3), .slice (some ⟨gp, 0, none⟩) pool.length (pool.length + 3), .int .i64 hor, .int .i64 cells, .int .i64 slots, .int .i64 stack, .slice da days.length dc] [⟨gd, mixA (sgG days cg) Z2 (k * 2) (N2 * 2), 43⟩, ⟨gp, fullA (poG pool) (pool.length + 3), 3⟩, ⟨gc, (fullA (txG curs) (curs.length + 3)), 9⟩, ⟨gn, (fullA (txG names) (names.length + 3)), 9⟩] wr ∧ (∀ d, d < k → d < days.length → BkP wr (cg d) (fullA (inG (days.getD d default).code) (((days.getD d default).code.length + 3) * 3)) 51 ∧ gd < cg d) ∧ (∀ d e, d < k → e < k → d < days.length → e < days.length → cg d = cg e → d = e))) (fun t _ => N2 - (intOf t).toNat)
          case atStart => exact ⟨0, fun _ => 0, by omega, rfl, P3.out⟩
          case round =>
            clear P3
            rename World => wr
            obtain ⟨k, cg, hk, rfl, hH⟩ := hrel
            obtain ⟨hS, hcd, hij⟩ := hH.out
            obtain ⟨_, _, _, _, _, _, _, y7⟩ := box_all8 (BX.out _ _ _ hS)
            by_cases hlt : k < N2
            · have kc : (k : Int) < (N2 : Int) := by omega
              have k0 : ¬ (k : Int) < 0 := by omega
              have ks : IntKind.i64.wrap ((k : Int) + 1) = (k : Int) + 1 := by simp [IntKind.wrap, IntKind.bits, IntKind.signed]; omega
              obtain ⟨hb, hg⟩ := hS.bl _ List.mem_cons_self
              simp only at hb hg
              have cg0 : wr.cell? ⟨gd, k * 2, none⟩ = some (Z2 (k * 2)) := by rw [hb.cell, mixA_at _ _ _ _ _ (by omega), if_neg (by omega)]
              have fg := hb.frozen (k * 2)
              have be1 := hS.be.setCell (p := ⟨gd, k * 2, none⟩) (by show w.heap.size ≤ gd; omega) (.int .i64 (-77))
              have far1 : ∀ u, u ≠ gd → (wr.setCell ⟨gd, k * 2, none⟩ (.int .i64 (-77))).heap[u]? = wr.heap[u]? := fun u hu => bk_blockG hu
              have hb1 := hb.set2 (k * 2) (.int .i64 (-77)) (by rw [mixA_size]; omega)
              have y7b : (wr.setCell ⟨gd, k * 2, none⟩ (.int .i64 (-77))).cell? ⟨w.heap.size, 7, none⟩ = some (.slice da days.length dc) := (World.cell?_of_block (a := ⟨w.heap.size, 7, none⟩) (far1 w.heap.size (by omega))).trans y7
              have hS1 := hS.setH far1 be1 hb1
              have hcd1 : ∀ d, d < k → d < days.length → BkP (wr.setCell ⟨gd, k * 2, none⟩ (.int .i64 (-77))) (cg d) (fullA (inG (days.getD d default).code) (((days.getD d default).code.length + 3) * 3)) 51 ∧ gd < cg d := fun d h1 h2 => ⟨(far1 _ (by have := (hcd d h1 h2).2; omega)).trans (hcd d h1 h2).1, (hcd d h1 h2).2⟩
              by_cases hm : k < days.length
              · obtain ⟨y, u, rfl, hc⟩ := DC.out k hm
                have km : (k : Int) < (days.length : Int) := by omega
                obtain ⟨Wa, hWa⟩ : ∃ W, wr.setCell ⟨gd, k * 2, none⟩ (.int .i64 (-77)) = W := ⟨_, rfl⟩
                have y7c := y7b
                rw [hWa] at hS1 hcd1 hb1 y7b
                have HA := Lib.hid hWa
                have KH := Lib.hid (p := ∀ V, Below Wa.heap.size Wa V → Calls Tryd.prog 14 #[.slice (days.getD k default).ca (days.getD k default).code.length (days.getD k default).cc] V fun e w' => ∃ g, e = .returned (.slice (some ⟨g, 0, none⟩) (days.getD k default).code.length ((days.getD k default).code.length + 3)) ∧ RowKit.Hid (V.heap.size ≤ g ∧ BkP w' g (fullA (inG (days.getD k default).code) (((days.getD k default).code.length + 3) * 3)) 51 ∧ Below V.heap.size V w')) (fun V bb => (handCode_any (hc V (hS1.be.trans (bb.mono hS1.be.size))).2).mono (fun e w' z => by
                  obtain ⟨g, z1, z2, z3, z4⟩ := z
                  exact ⟨g, z1, z2, z3, z4⟩))
                have CS := Lib.hid (p := ∀ V, Below w.heap.size w V → (V.heap[w.heap.size]? = Wa.heap[w.heap.size]?) → V.cell? ⟨w.heap.size, 7, none⟩ = some (.slice (some ⟨y, u, none⟩) days.length dc) ∧ V.cell? ⟨y, u + k * 2, none⟩ = some (.int .i64 (days.getD k default).day) ∧ V.cell? ⟨y, u + k * 2 + 1, none⟩ = some (.slice (days.getD k default).ca (days.getD k default).code.length (days.getD k default).cc)) (fun V bb q => ⟨(World.cell?_of_block (a := ⟨w.heap.size, 7, none⟩) q).trans y7b, (hc V bb).1⟩)
                have FX := Lib.hid (p := ∀ w6 g, Below Wa.heap.size Wa w6 → Wa.heap.size ≤ g → BkP w6 g (fullA (inG (days.getD k default).code) (((days.getD k default).code.length + 3) * 3)) 51 → (w6.cell? ⟨gd, k * 2, none⟩ = some (.int .i64 (-77)) ∧ w6.cell? ⟨gd, k * 2 + 1, none⟩ = some (Z2 (k * 2 + 1)) ∧ w6.frozen? ⟨gd, k * 2, none⟩ = false ∧ w6.frozen? ⟨gd, k * 2 + 1, none⟩ = false) ∧ (Below w.heap.size w w6 ∧ w6.heap[w.heap.size]? = Wa.heap[w.heap.size]?) ∧ (Below w.heap.size w (set2w w6 gd (k * 2) (.int .i64 (days.getD k default).day) (.slice (some ⟨g, 0, none⟩) (days.getD k default).code.length ((days.getD k default).code.length + 3))) ∧ (set2w w6 gd (k * 2) (.int .i64 (days.getD k default).day) (.slice (some ⟨g, 0, none⟩) (days.getD k default).code.length ((days.getD k default).code.length + 3))).heap[w.heap.size]? = Wa.heap[w.heap.size]?) ∧ ∃ (cg : Nat → Nat), RowKit.Hid (HsI w ⟨na, nc, names, ua, uc, curs, pa, pc, pool, hor, cells, slots, stack, some ⟨y, u, none⟩, dc, days⟩ #[.slice (some ⟨gn, 0, none⟩) names.length (names.length + 3), .slice (some ⟨gc, 0, none⟩) curs.length (curs.length + 3), .slice (some ⟨gp, 0, none⟩) pool.length (pool.length + 3), .int .i64 hor, .int .i64 cells, .int .i64 slots, .int .i64 stack, .slice (some ⟨y, u, none⟩) days.length dc] [⟨gd, mixA (sgG days cg) Z2 ((k + 1) * 2) (N2 * 2), 43⟩, ⟨gp, fullA (poG pool) (pool.length + 3), 3⟩, ⟨gc, (fullA (txG curs) (curs.length + 3)), 9⟩, ⟨gn, (fullA (txG names) (names.length + 3)), 9⟩] (set2w w6 gd (k * 2) (.int .i64 (days.getD k default).day) (.slice (some ⟨g, 0, none⟩) (days.getD k default).code.length ((days.getD k default).code.length + 3))) ∧ (∀ d, d < (k + 1) → d < days.length → BkP (set2w w6 gd (k * 2) (.int .i64 (days.getD k default).day) (.slice (some ⟨g, 0, none⟩) (days.getD k default).code.length ((days.getD k default).code.length + 3))) (cg d) (fullA (inG (days.getD d default).code) (((days.getD d default).code.length + 3) * 3)) 51 ∧ gd < cg d) ∧ (∀ d e, d < (k + 1) → e < (k + 1) → d < days.length → e < days.length → cg d = cg e → d = e))) (fun w6 g b6 hgg hbk => by
                  have s6 := hS1.lat b6
                  have hb6 := hb1.lat b6
                  have gl := hb1.lt
                  have far : ∀ v, v ≠ gd → (set2w w6 gd (k * 2) (.int .i64 (days.getD k default).day) (.slice (some ⟨g, 0, none⟩) (days.getD k default).code.length ((days.getD k default).code.length + 3))).heap[v]? = w6.heap[v]? := fun v hv => set2w_far hv
                  have be2 : Below w.heap.size w (set2w w6 gd (k * 2) (.int .i64 (days.getD k default).day) (.slice (some ⟨g, 0, none⟩) (days.getD k default).code.length ((days.getD k default).code.length + 3))) := by
                    unfold set2w
                    exact (s6.be.setCell (by show w.heap.size ≤ gd; omega) _).setCell (by show w.heap.size ≤ gd; omega) _
                  have q6 : w6.heap[w.heap.size]? = Wa.heap[w.heap.size]? := b6.block _ (by have := hS1.pb.lt; omega)
                  refine ⟨⟨?_, ?_, hb6.frozen _, hb6.frozen _⟩, ⟨s6.be, q6⟩, ⟨be2, (far _ (by omega)).trans q6⟩, (updN cg k g), ?_, fun d h1 h2 => ?_, fun d e h1 h2 h3 h4 q => ?_⟩
                  · rw [hb6.cell]
                    simp [Array.getElem?_setIfInBounds, mixA_size]
                    omega
                  · rw [hb6.cell]
                    simp only [Array.set!_eq_setIfInBounds, Array.getElem?_setIfInBounds]
                    rw [if_neg (by omega), mixA_at _ _ _ _ _ (by omega), if_neg (by omega)]
                  · refine s6.setH (cs := mixA (sgG days (updN cg k g)) Z2 ((k + 1) * 2) (N2 * 2)) far be2 ?_
                    rw [mixA_congr (G := sgG days cg) (G' := sgG days (updN cg k g)) (fun j hj => by
                      unfold sgG
                      rw [updN_ne (by omega)])] at hb6
                    have e0 := sgG_at days (updN cg k g) k 0 (by omega)
                    have e1 := sgG_at days (updN cg k g) k 1 (by omega)
                    rw [if_pos hm, updN_eq] at e0 e1
                    exact mix2 (cs := #[]) hb6 (by omega) e0 e1
                  · by_cases z : d = k
                    · subst z
                      rw [updN_eq]
                      exact ⟨(far _ (by omega)).trans hbk, by omega⟩
                    · rw [updN_ne z]
                      have q := hcd1 d (by omega) h2
                      exact ⟨(far _ (by omega)).trans (q.1.lat b6), q.2⟩
                  · have lt : ∀ d, d < k → d < days.length → cg d < Wa.heap.size := fun d h1 h2 => (hcd1 d h1 h2).1.lt
                    by_cases z : d = k
                    · by_cases z2 : e = k
                      · omega
                      · rw [z, updN_eq, updN_ne z2] at q
                        have := lt e (by omega) h4
                        omega
                    · by_cases z2 : e = k
                      · rw [z2, updN_eq, updN_ne z] at q
                        have := lt d (by omega) h3
                        omega
                      · rw [updN_ne z, updN_ne z2] at q
                        exact hij d e (by omega) (by omega) h3 h4 q)
                have BA := Lib.hid hS1.be
                obtain ⟨s7, s0, s1⟩ := CS.out Wa hS1.be rfl
                clear hH hS hS1 hb hb1 be1 far1 hcd hcd1 hij hc y7 y7b hWa
                generalize days.getD k default = sg at *
                obtain ⟨sd, sa, sc, sl⟩ := sg
                simp only at KH CS FX s0 s1
                go_upto_region 18 with fail
                rw [HA.out]
                clear cg0 fg
                refine wp_region_held_drew (S := (fun w' => w'.cell? ⟨w.heap.size, 7, none⟩ = some (.slice (some ⟨y, u, none⟩) days.length dc) ∧ w'.cell? ⟨y, u + k * 2, none⟩ = some (.int .i64 sd) ∧ w'.cell? ⟨y, u + k * 2 + 1, none⟩ = some (.slice sa sl.length sc))) (by kernel_rfl) ?_ (fun hHeld => ?_)
                · (try dsimp only)
                  exact ⟨s7, s0, s1⟩
                refine wpAnyH_take (i := 0) (oi := { dst := some 70, op := Op.move (Operand.tmp 6), type := 24, pos := "hand.go:77", after := #[], guard := none }) (v := ?_) rfl (by kernel_rfl) (by kernel_rfl) (by kernel_rfl) (fun _ _ _ h => h) (Or.inl ⟨by rfl, ?_⟩) (by assumption) ?_
                rotate_left 1
                · intro w' hSw; (try dsimp only at hSw); go_simp; try with_reducible rfl
                (try simp only [Act.put, List.setIfInBounds_toArray, List.set_cons_zero, List.set_cons_succ])
                refine wpAnyH_take (i := 1) (oi := { dst := some 71, op := Op.move (Operand.tmp 7), type := 3, pos := "hand.go:77", after := #[], guard := none }) (v := ?_) rfl (by kernel_rfl) (by kernel_rfl) (by kernel_rfl) (fun _ _ _ h => h) (Or.inl ⟨by rfl, ?_⟩) (by assumption) ?_
                rotate_left 1
                · intro w' hSw; (try dsimp only at hSw); go_simp; try with_reducible rfl
                (try simp only [Act.put, List.setIfInBounds_toArray, List.set_cons_zero, List.set_cons_succ])
                refine wpAnyH_take (i := 2) (oi := { dst := some 72, op := Op.fieldAddr 26 (Operand.tmp 1) 7, type := 0, pos := "hand.go:77", after := #[], guard := none }) (v := ?_) rfl (by kernel_rfl) (by kernel_rfl) (by kernel_rfl) (fun _ _ _ h => h) (Or.inl ⟨by rfl, ?_⟩) (by assumption) ?_
                rotate_left 1
                · intro w' hSw; (try dsimp only at hSw); go_simp; try with_reducible rfl
                (try simp only [Act.put, List.setIfInBounds_toArray, List.set_cons_zero, List.set_cons_succ])
                refine wpAnyH_take (i := 3) (oi := { dst := some 73, op := Op.load 24 (Operand.tmp 72), type := 24, pos := "hand.go:77", after := #[{ on := 2, ground := Ground.data }], guard := none }) (v := ?_) rfl (by kernel_rfl) (by kernel_rfl) (by kernel_rfl) (fun _ _ _ h => h) (Or.inl ⟨by rfl, ?_⟩) (by assumption) ?_
                rotate_left 1
                · intro w' hSw; (try dsimp only at hSw); go_simp; try with_reducible rfl
                (try simp only [Act.put, List.setIfInBounds_toArray, List.set_cons_zero, List.set_cons_succ])
                refine wpAnyH_take (i := 4) (oi := { dst := some 74, op := Op.move (Operand.tmp 7), type := 3, pos := "hand.go:77", after := #[], guard := none }) (v := ?_) rfl (by kernel_rfl) (by kernel_rfl) (by kernel_rfl) (fun _ _ _ h => h) (Or.inl ⟨by rfl, ?_⟩) (by assumption) ?_
                rotate_left 1
                · intro w' hSw; (try dsimp only at hSw); go_simp; try with_reducible rfl
                (try simp only [Act.put, List.setIfInBounds_toArray, List.set_cons_zero, List.set_cons_succ])
                refine wpAnyH_take (i := 5) (oi := { dst := some 75, op := Op.indexAddr 24 (Operand.tmp 73) (Operand.tmp 74), type := 0, pos := "hand.go:77", after := #[{ on := 3, ground := Ground.data }, { on := 4, ground := Ground.data }], guard := none }) (v := ?_) rfl (by kernel_rfl) (by kernel_rfl) (by kernel_rfl) (fun _ _ _ h => h) (Or.inl ⟨by rfl, ?_⟩) (by assumption) ?_
                rotate_left 1
                · intro w' hSw; (try dsimp only at hSw); go_simp; try with_reducible rfl
                (try simp only [Act.put, List.setIfInBounds_toArray, List.set_cons_zero, List.set_cons_succ])
                refine wpAnyH_take (i := 6) (oi := { dst := some 76, op := Op.fieldAddr 43 (Operand.tmp 75) 0, type := 0, pos := "hand.go:77", after := #[{ on := 5, ground := Ground.data }], guard := none }) (v := ?_) rfl (by kernel_rfl) (by kernel_rfl) (by kernel_rfl) (fun _ _ _ h => h) (Or.inl ⟨by rfl, ?_⟩) (by assumption) ?_
                rotate_left 1
                · intro w' hSw; (try dsimp only at hSw); go_simp; try with_reducible rfl
                (try simp only [Act.put, List.setIfInBounds_toArray, List.set_cons_zero, List.set_cons_succ])
                refine wpAnyH_take (i := 7) (oi := { dst := some 77, op := Op.load 3 (Operand.tmp 76), type := 3, pos := "hand.go:77", after := #[{ on := 6, ground := Ground.data }], guard := none }) (v := ?_) rfl (by kernel_rfl) (by kernel_rfl) (by kernel_rfl) (fun _ _ _ h => h) (Or.inl ⟨by rfl, ?_⟩) (by assumption) ?_
                rotate_left 1
                · intro w' hSw; (try dsimp only at hSw); go_simp; try with_reducible rfl
                (try simp only [Act.put, List.setIfInBounds_toArray, List.set_cons_zero, List.set_cons_succ])
                refine wpAnyH_take (i := 8) (oi := { dst := some 78, op := Op.fieldAddr 26 (Operand.tmp 1) 7, type := 0, pos := "hand.go:77", after := #[], guard := none }) (v := ?_) rfl (by kernel_rfl) (by kernel_rfl) (by kernel_rfl) (fun _ _ _ h => h) (Or.inl ⟨by rfl, ?_⟩) (by assumption) ?_
                rotate_left 1
                · intro w' hSw; (try dsimp only at hSw); go_simp; try with_reducible rfl
                (try simp only [Act.put, List.setIfInBounds_toArray, List.set_cons_zero, List.set_cons_succ])
                refine wpAnyH_take (i := 9) (oi := { dst := some 79, op := Op.load 24 (Operand.tmp 78), type := 24, pos := "hand.go:77", after := #[{ on := 8, ground := Ground.data }], guard := none }) (v := ?_) rfl (by kernel_rfl) (by kernel_rfl) (by kernel_rfl) (fun _ _ _ h => h) (Or.inl ⟨by rfl, ?_⟩) (by assumption) ?_
                rotate_left 1
                · intro w' hSw; (try dsimp only at hSw); go_simp; try with_reducible rfl
                (try simp only [Act.put, List.setIfInBounds_toArray, List.set_cons_zero, List.set_cons_succ])
                refine wpAnyH_take (i := 10) (oi := { dst := some 80, op := Op.move (Operand.tmp 7), type := 3, pos := "hand.go:77", after := #[], guard := none }) (v := ?_) rfl (by kernel_rfl) (by kernel_rfl) (by kernel_rfl) (fun _ _ _ h => h) (Or.inl ⟨by rfl, ?_⟩) (by assumption) ?_
                rotate_left 1
                · intro w' hSw; (try dsimp only at hSw); go_simp; try with_reducible rfl
                (try simp only [Act.put, List.setIfInBounds_toArray, List.set_cons_zero, List.set_cons_succ])
                refine wpAnyH_take (i := 11) (oi := { dst := some 81, op := Op.indexAddr 24 (Operand.tmp 79) (Operand.tmp 80), type := 0, pos := "hand.go:77", after := #[{ on := 9, ground := Ground.data }, { on := 10, ground := Ground.data }], guard := none }) (v := ?_) rfl (by kernel_rfl) (by kernel_rfl) (by kernel_rfl) (fun _ _ _ h => h) (Or.inl ⟨by rfl, ?_⟩) (by assumption) ?_
                rotate_left 1
                · intro w' hSw; (try dsimp only at hSw); go_simp; try with_reducible rfl
                (try simp only [Act.put, List.setIfInBounds_toArray, List.set_cons_zero, List.set_cons_succ])
                refine wpAnyH_take (i := 12) (oi := { dst := some 82, op := Op.fieldAddr 43 (Operand.tmp 81) 1, type := 0, pos := "hand.go:77", after := #[{ on := 11, ground := Ground.data }], guard := none }) (v := ?_) rfl (by kernel_rfl) (by kernel_rfl) (by kernel_rfl) (fun _ _ _ h => h) (Or.inl ⟨by rfl, ?_⟩) (by assumption) ?_
                rotate_left 1
                · intro w' hSw; (try dsimp only at hSw); go_simp; try with_reducible rfl
                (try simp only [Act.put, List.setIfInBounds_toArray, List.set_cons_zero, List.set_cons_succ])
                refine wpAnyH_take (i := 13) (oi := { dst := some 83, op := Op.load 41 (Operand.tmp 82), type := 41, pos := "hand.go:77", after := #[{ on := 12, ground := Ground.data }], guard := none }) (v := ?_) rfl (by kernel_rfl) (by kernel_rfl) (by kernel_rfl) (fun _ _ _ h => h) (Or.inl ⟨by rfl, ?_⟩) (by assumption) ?_
                rotate_left 1
                · intro w' hSw; (try dsimp only at hSw); go_simp; try with_reducible rfl
                (try simp only [Act.put, List.setIfInBounds_toArray, List.set_cons_zero, List.set_cons_succ])
                refine wpAnyH_ready (rs := [14]) (by kernel_rfl) (by simp) ?_
                refine AllReadyH.cons (o := { dst := some 84, op := Op.call { callee := Callee.value (Operand.func 14), args := #[Operand.tmp 83], argTypes := #[41] }, type := 41, pos := "hand.go:77", after := #[{ on := 13, ground := Ground.data }], guard := none }) rfl (fun K' hK => ?_) AllReadyH.nil
                go_simp
                go_at_call 14; refine (KH.out _ (drew1R Wa)).mono ?_; rintro e w6 ⟨g, rfl, o6⟩; have b6 : Below Wa.heap.size Wa w6 := (drew1R Wa).trans o6.out.2.2; obtain ⟨⟨m0, m1, fz0, fz1⟩, ⟨be6, q6⟩, ⟨be7, q7⟩, cgg, RX⟩ := FX.out w6 g b6 o6.out.1 o6.out.2.1
                (try go_wp2_with fail)
                refine hK.out _ _ ?_ (fun hHeld => ?_)
                · (try dsimp only)
                  exact CS.out w6 be6 q6
                clear hK K'
                (try simp only [Act.put, List.setIfInBounds_toArray, List.set_cons_zero, List.set_cons_succ])
                refine wpAnyH_take (i := 15) (oi := { dst := some 85, op := Op.build 43 #[(0, Operand.tmp 77), (1, Operand.tmp 84)], type := 43, pos := "hand.go:77", after := #[{ on := 7, ground := Ground.data }, { on := 14, ground := Ground.data }], guard := none }) (v := ?_) rfl (by kernel_rfl) (by kernel_rfl) (by kernel_rfl) (fun _ _ _ h => h) (Or.inl ⟨by rfl, ?_⟩) (by assumption) ?_
                rotate_left 1
                · intro w' hSw; (try dsimp only at hSw); go_simp; try with_reducible rfl
                (try simp only [Act.put, List.setIfInBounds_toArray, List.set_cons_zero, List.set_cons_succ])
                refine wpAnyH_take (i := 16) (oi := { dst := some 86, op := Op.indexAddr 24 (Operand.tmp 70) (Operand.tmp 71), type := 0, pos := "hand.go:77", after := #[{ on := 0, ground := Ground.data }, { on := 1, ground := Ground.data }, { on := 0, ground := Ground.phase }, { on := 1, ground := Ground.phase }, { on := 2, ground := Ground.phase }, { on := 3, ground := Ground.phase }, { on := 4, ground := Ground.phase }, { on := 5, ground := Ground.phase }, { on := 6, ground := Ground.phase }, { on := 7, ground := Ground.phase }, { on := 8, ground := Ground.phase }, { on := 9, ground := Ground.phase }, { on := 10, ground := Ground.phase }, { on := 11, ground := Ground.phase }, { on := 12, ground := Ground.phase }, { on := 13, ground := Ground.phase }, { on := 14, ground := Ground.phase }, { on := 15, ground := Ground.phase }], guard := none }) (v := ?_) rfl (by kernel_rfl) (by kernel_rfl) (by kernel_rfl) (fun _ _ _ h => h) (Or.inl ⟨by rfl, ?_⟩) (by assumption) ?_
                rotate_left 1
                · intro w' hSw; (try dsimp only at hSw); go_simp; try with_reducible rfl
                (try simp only [Act.put, List.setIfInBounds_toArray, List.set_cons_zero, List.set_cons_succ])
                refine wpAnyH_ready (rs := [17]) (by kernel_rfl) (by simp) ?_
                refine AllReadyH.cons (o := { dst := none, op := Op.store 43 (Operand.tmp 86) (Operand.tmp 85), type := 0, pos := "hand.go:77", after := #[{ on := 16, ground := Ground.data }, { on := 15, ground := Ground.data }, { on := 14, ground := Ground.chain }, { on := 0, ground := Ground.phase }, { on := 1, ground := Ground.phase }, { on := 2, ground := Ground.phase }, { on := 3, ground := Ground.phase }, { on := 4, ground := Ground.phase }, { on := 5, ground := Ground.phase }, { on := 6, ground := Ground.phase }, { on := 7, ground := Ground.phase }, { on := 8, ground := Ground.phase }, { on := 9, ground := Ground.phase }, { on := 10, ground := Ground.phase }, { on := 11, ground := Ground.phase }, { on := 12, ground := Ground.phase }, { on := 13, ground := Ground.phase }, { on := 14, ground := Ground.phase }, { on := 15, ground := Ground.phase }], guard := none }) rfl (fun K' hK => ?_) AllReadyH.nil
                go_simp
                refine hK.out _ _ ?_ (fun hHeld => ?_)
                · (try dsimp only)
                  exact CS.out _ be7 q7
                clear hK K'
                (try simp only [Act.put, List.setIfInBounds_toArray, List.set_cons_zero, List.set_cons_succ])
                refine wpAnyH_done (by kernel_rfl) ?_ _
                go_wp2
                refine ⟨⟨k + 1, cgg, by omega, by go_num, RX⟩, ?_⟩
                simp [intOf]
                omega
              · have km : ¬ (k : Int) < (days.length : Int) := by omega
                have NX := Lib.hid (p := HsI w ⟨na, nc, names, ua, uc, curs, pa, pc, pool, hor, cells, slots, stack, da, dc, days⟩ #[.slice (some ⟨gn, 0, none⟩) names.length (names.length + 3), .slice (some ⟨gc, 0, none⟩) curs.length (curs.length + 3), .slice (some ⟨gp, 0, none⟩) pool.length (pool.length + 3), .int .i64 hor, .int .i64 cells, .int .i64 slots, .int .i64 stack, .slice da days.length dc] [⟨gd, mixA (sgG days cg) Z2 ((k + 1) * 2) (N2 * 2), 43⟩, ⟨gp, fullA (poG pool) (pool.length + 3), 3⟩, ⟨gc, (fullA (txG curs) (curs.length + 3)), 9⟩, ⟨gn, (fullA (txG names) (names.length + 3)), 9⟩] (wr.setCell ⟨gd, k * 2, none⟩ (.int .i64 (-77))) ∧ (∀ d, d < (k + 1) → d < days.length → BkP (wr.setCell ⟨gd, k * 2, none⟩ (.int .i64 (-77))) (cg d) (fullA (inG (days.getD d default).code) (((days.getD d default).code.length + 3) * 3)) 51 ∧ gd < cg d) ∧ (∀ d e, d < (k + 1) → e < (k + 1) → d < days.length → e < days.length → cg d = cg e → d = e)) (by
                  refine ⟨?_, fun d h1 h2 => hcd1 d (by omega) h2, fun d e h1 h2 h3 h4 q => hij d e (by omega) (by omega) h3 h4 q⟩
                  have e0 := sgG_at days cg k 0 (by omega)
                  have e1 := sgG_at days cg k 1 (by omega)
                  rw [if_neg hm] at e0 e1
                  have q := mixA_set (sgG days cg) Z2 (k * 2) (N2 * 2)
                  rw [Nat.add_zero] at e0
                  rw [e0] at q
                  have q2 := mixA_skip (sgG days cg) Z2 (k * 2 + 1) (N2 * 2) (by rw [e1, EZ.out k]; rfl)
                  have := hS1
                  simp only at this
                  rw [show (mixA (sgG days cg) Z2 (k * 2) (N2 * 2)).set! (k * 2) (.int .i64 (-77)) = mixA (sgG days cg) Z2 ((k + 1) * 2) (N2 * 2) by rw [show (k + 1) * 2 = k * 2 + 1 + 1 by omega, q2]; exact q] at this
                  exact this)
                clear hH hS hS1 hb hb1 be1 far1 hcd hcd1 hij y7
                go_wp2
                refine ⟨⟨k + 1, cg, by omega, by go_num, NX.out⟩, ?_⟩
                simp [intOf]
                omega
            · obtain rfl : N2 = k := by omega
              have hS3 := hS.setX 7 (.slice (some ⟨gd, 0, none⟩) days.length N2) (by simp)
              obtain ⟨_, _, _, _, _, _, _, x7⟩ := box_all8 hS.xb
              have f7 := hS.xb.frozen 7
              simp at hS3
              obtain ⟨z0, z1, z2, z3, z4, z5, z6, z7⟩ := box_all8 hS3.xb
              obtain ⟨r0, r1, r2, r3, r4, r5, r6, r7⟩ := box_all8 hS3.rb
              have g0 := hS3.rb.frozen 0
              have g1 := hS3.rb.frozen 1
              have g2 := hS3.rb.frozen 2
              have g3 := hS3.rb.frozen 3
              have g4 := hS3.rb.frozen 4
              have g5 := hS3.rb.frozen 5
              have g6 := hS3.rb.frozen 6
              have g7 := hS3.rb.frozen 7
              have FE := Lib.hid (p := ∀ V, (∀ v, w.heap.size + 2 < v → V.heap[v]? = wr.heap[v]?) → Below w.heap.size w V → HnE w ⟨na, nc, names, ua, uc, curs, pa, pc, pool, hor, cells, slots, stack, da, dc, days⟩ (.returned (hdP ⟨na, nc, names, ua, uc, curs, pa, pc, pool, hor, cells, slots, stack, da, dc, days⟩ gn gc gp gd cg (fun d => (days.getD d default).code)).agg) V) (fun V q bb => ⟨gn, gc, gp, gd, cg, rfl, hs_end (by rw [HN2.out]; exact hS) (by rw [HN2.out]; exact ⟨hcd, hij⟩) q, bb⟩)
              have BE := Lib.hid hS3.be
              have AG : (hdP ⟨na, nc, names, ua, uc, curs, pa, pc, pool, hor, cells, slots, stack, da, dc, days⟩ gn gc gp gd cg (fun d => (days.getD d default).code)).agg = .agg #[.slice (some ⟨gn, 0, none⟩) names.length (names.length + 3), .slice (some ⟨gc, 0, none⟩) curs.length (curs.length + 3), .slice (some ⟨gp, 0, none⟩) pool.length (pool.length + 3), .int .i64 hor, .int .i64 cells, .int .i64 slots, .int .i64 stack, .slice (some ⟨gd, 0, none⟩) days.length (days.length + 3)] := by
                have : (hdP ⟨na, nc, names, ua, uc, curs, pa, pc, pool, hor, cells, slots, stack, da, dc, days⟩ gn gc gp gd cg (fun d => (days.getD d default).code)).days.length = days.length := by show ((List.range days.length).map _).length = _; simp
                unfold Pg.agg
                rw [this]
                rfl
              rw [AG, HN.out, HN2.out] at FE
              clear hH hS hS3 hcd hij AG
              go_wp2
              refine bodyPost_ret (v := .agg #[.slice (some ⟨gn, 0, none⟩) names.length (names.length + 3), .slice (some ⟨gc, 0, none⟩) curs.length (curs.length + 3), .slice (some ⟨gp, 0, none⟩) pool.length N, .int .i64 hor, .int .i64 cells, .int .i64 slots, .int .i64 stack, .slice (some ⟨gd, 0, none⟩) days.length N2]) ?r rfl ?s
              case r => simp [results, Tryd.results5, go_sem, r0, r1, r2, r3, r4, r5, r6, r7, g0, g1, g2, g3, g4, g5, g6, g7]
              case s =>
                refine FE.out _ (fun v hv => ?_) ?_
                · have n1 : v ≠ w.heap.size + 1 := by omega
                  have n2 : v ≠ w.heap.size + 2 := by omega
                  simp only [bk_blockG n1, bk_blockG n2]
                · exact (((((((BE.out.setCell (Nat.le_succ w.heap.size) _).setCell (Nat.le_succ w.heap.size) _).setCell (Nat.le_succ w.heap.size) _).setCell (Nat.le_succ w.heap.size) _).setCell (Nat.le_succ w.heap.size) _).setCell (Nat.le_succ w.heap.size) _).setCell (Nat.le_succ w.heap.size) _).setCell (Nat.le_succ w.heap.size) _
end Go.Proofs.YtjbbbejadhojlaaDoor
