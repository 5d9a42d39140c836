import Derived.Test.YtjbbbejadhojlaaDoorXBG
namespace Go.Proofs.YtjbbbejadhojlaaDoor
open Go.RowKit
set_option linter.unusedVariables false
set_option linter.unusedSimpArgs false
set_option maxRecDepth 100000 in
set_option maxHeartbeats 1600000 in
theorem keptTexts_yes {w : World} {a : Option Addr} {c g : Nat} {l : List ByteArray} (hg : BkP w g (fullA (txG l) (l.length + 3)) 9) (h : SR w a l.length c l) : Calls Tryd.prog 23 #[.slice (some ⟨g, 0, none⟩) l.length (l.length + 3), .slice a l.length c] w fun e w' => e = .returned (.bool true) ∧ Below w.heap.size w w' := by
  obtain ⟨n, hn⟩ : ∃ n, l.length = n := ⟨_, rfl⟩
  obtain ⟨N, hN⟩ : ∃ N, n + 3 = N := ⟨_, rfl⟩
  have nb : n ≤ 8796093021952 := by rw [← hn]; exact h.2.2.1
  have CC := Lib.hid (p := ∀ k, k < n → ∃ y u, a = some ⟨y, u, none⟩ ∧ ∀ V, Below w.heap.size w V → V.cell? ⟨y, u + k, none⟩ = some (.string (l.getD k default))) (fun k hk => by
    rcases h.2.2.2.2 with z | ⟨y, u, e, ly, hc⟩
    · omega
    · have := hc k (by omega) 0 (by omega)
      rw [Nat.mul_one, Nat.add_zero] at this
      exact ⟨y, u, e, fun V bb => (bb.cell (p := ⟨y, u + k, none⟩) ly).trans this⟩)
  have GC := Lib.hid (p := ∀ k, k < N → ∀ V, Below w.heap.size w V → V.cell? ⟨g, k, none⟩ = some (if k < n then .string (l.getD k default) else .string ⟨#[63]⟩)) (fun k hk V bb => by
    rw [(hg.lat bb).cell, hn, hN, fullA_at _ _ _ hk]
    unfold txG
    rw [hn])
  have kN : IntKind.i64.wrap ((n : Int) + 3) = (N : Int) := by simp [IntKind.wrap, IntKind.bits, IntKind.signed]; omega
  have hnN : n ≤ N := by omega
  have hN0 : ¬ (N : Int) < 0 := by omega
  simp only [hn, hN]
  clear h hg
  go_enter Tryd.func23, Tryd.ntmps23
  go_wp2
  go_loopw [6] (fun t wr => ∃ k : Nat, k ≤ N ∧ t = .int .i64 (k : Int) ∧ RowKit.Hid (Below w.heap.size w wr)) (fun t _ => N - (intOf t).toNat)
  case atStart => exact ⟨0, by omega, rfl, Below.refl _ _⟩
  case round =>
    rename World => wr
    obtain ⟨k, hk, rfl, hH⟩ := hrel
    by_cases hlt : k < N
    · have kc : (k : Int) < (N : Int) := by omega
      have k0 : ¬ (k : Int) < 0 := by omega
      have ks : IntKind.i64.wrap ((k : Int) + 1) = (k : Int) + 1 := by simp [IntKind.wrap, IntKind.bits, IntKind.signed]; omega
      have gc := GC.out k hlt wr hH.out
      have NX := Lib.hid (p := ∀ q, Below w.heap.size w (wr.drewN q)) (fun q => hH.out.trans (drewN_below' wr q _))
      by_cases hm : k < n
      · obtain ⟨y, u, rfl, hc⟩ := CC.out k hm
        have c2 := hc wr hH.out
        have km : (k : Int) < (n : Int) := by omega
        have km2 : decide ((k : Int) < (n : Int)) = true := decide_eq_true km
        have km3 : decide (k < n) = true := decide_eq_true hm
        have kg : ¬ (n : Int) ≤ (k : Int) := by omega
        have kg2 : ¬ n ≤ k := by omega
        have kg3 : decide (n ≤ k) = false := decide_eq_false kg2
        rw [if_pos hm] at gc
        clear hc hH
        generalize l.getD k default = tx at *
        go_wp2
        go_quiet (fail)
        go_wp2
        refine ⟨⟨k + 1, by omega, by go_num, NX.out _⟩, ?_⟩
        simp [intOf]
        omega
      · have km : ¬ (k : Int) < (n : Int) := by omega
        have km2 : decide ((k : Int) < (n : Int)) = false := decide_eq_false km
        have km3 : decide (k < n) = false := decide_eq_false hm
        have kg : (n : Int) ≤ (k : Int) := by omega
        have kg2 : n ≤ k := by omega
        have kg3 : decide (n ≤ k) = true := decide_eq_true kg2
        rw [if_neg hm] at gc
        clear hH
        go_wp2
        go_quiet (fail)
        go_wp2
        refine ⟨⟨k + 1, by omega, by go_num, NX.out _⟩, ?_⟩
        simp [intOf]
        omega
    · obtain rfl : k = N := by omega
      have E := Lib.hid hH.out
      clear hH
      go_wp2
      go_ret
      exact ⟨rfl, E.out⟩
set_option maxRecDepth 100000 in
set_option maxHeartbeats 1600000 in
theorem keptCode_yes {w : World} {a : Option Addr} {c g : Nat} {l : List In} (hg : BkP w g (fullA (inG l) ((l.length + 3) * 3)) 51) (h : IR w a l.length c l) : Calls Tryd.prog 24 #[.slice (some ⟨g, 0, none⟩) l.length (l.length + 3), .slice a l.length c] w fun e w' => e = .returned (.bool true) ∧ Below w.heap.size w w' := by
  obtain ⟨n, hn⟩ : ∃ n, l.length = n := ⟨_, rfl⟩
  obtain ⟨N, hN⟩ : ∃ N, n + 3 = N := ⟨_, rfl⟩
  have nb : n ≤ 5864062014634 := by rw [← hn]; exact h.2.2.1
  have CC := Lib.hid (p := ∀ k, k < n → ∃ y u, a = some ⟨y, u, none⟩ ∧ ∀ V, Below w.heap.size w V → V.cell? ⟨y, u + k * 3, none⟩ = some (.int .i64 (l.getD k default).o) ∧ V.cell? ⟨y, u + k * 3 + 1, none⟩ = some (.int .i64 (l.getD k default).a) ∧ V.cell? ⟨y, u + k * 3 + 2, none⟩ = some (.int .i64 (l.getD k default).b)) (fun k hk => by
    rcases h.2.2.2.2 with z | ⟨y, u, e, ly, hc⟩
    · omega
    · exact ⟨y, u, e, fun V bb => ⟨(bb.cell (p := ⟨y, u + k * 3, none⟩) ly).trans (hc k (by omega) 0 (by omega)), (bb.cell (p := ⟨y, u + k * 3 + 1, none⟩) ly).trans (hc k (by omega) 1 (by omega)), (bb.cell (p := ⟨y, u + k * 3 + 2, none⟩) ly).trans (hc k (by omega) 2 (by omega))⟩⟩)
  have GC := Lib.hid (p := ∀ k, k < N → ∀ V, Below w.heap.size w V → ∀ j, j < 3 → V.cell? ⟨g, k * 3 + j, none⟩ = some (if k < n then (icell (l.getD k default)).getD j default else ([.int .i64 (-77), .int .i64 0, .int .i64 0] : List Value).getD j default)) (fun k hk V bb j hj => by
    rw [(hg.lat bb).cell, hn, hN, fullA_at _ _ _ (by omega), inG_at _ _ _ hj, hn])
  have kN : IntKind.i64.wrap ((n : Int) + 3) = (N : Int) := by simp [IntKind.wrap, IntKind.bits, IntKind.signed]; omega
  have hnN : n ≤ N := by omega
  have hN0 : ¬ (N : Int) < 0 := by omega
  simp only [hn, hN]
  clear h hg
  go_enter Tryd.func24, Tryd.ntmps24
  go_wp2
  go_loopw [6] (fun t wr => ∃ k : Nat, k ≤ N ∧ t = .int .i64 (k : Int) ∧ RowKit.Hid (Below w.heap.size w wr)) (fun t _ => N - (intOf t).toNat)
  case atStart => exact ⟨0, by omega, rfl, Below.refl _ _⟩
  case round =>
    rename World => wr
    obtain ⟨k, hk, rfl, hH⟩ := hrel
    by_cases hlt : k < N
    · have kc : (k : Int) < (N : Int) := by omega
      have k0 : ¬ (k : Int) < 0 := by omega
      have ks : IntKind.i64.wrap ((k : Int) + 1) = (k : Int) + 1 := by simp [IntKind.wrap, IntKind.bits, IntKind.signed]; omega
      have gc0 := GC.out k hlt wr hH.out 0 (by omega)
      have gc1 := GC.out k hlt wr hH.out 1 (by omega)
      have gc2 := GC.out k hlt wr hH.out 2 (by omega)
      rw [Nat.add_zero] at gc0
      have NX := Lib.hid (p := ∀ q, Below w.heap.size w (wr.drewN q)) (fun q => hH.out.trans (drewN_below' wr q _))
      by_cases hm : k < n
      · obtain ⟨y, u, rfl, hc⟩ := CC.out k hm
        obtain ⟨c0, c1, c2⟩ := hc wr hH.out
        have km : (k : Int) < (n : Int) := by omega
        have km3 : decide (k < n) = true := decide_eq_true hm
        have kg : ¬ (n : Int) ≤ (k : Int) := by omega
        have kg2 : ¬ n ≤ k := by omega
        have kg3 : decide (n ≤ k) = false := decide_eq_false kg2
        rw [if_pos hm] at gc0 gc1 gc2
        clear hc hH
        generalize l.getD k default = i at *
        obtain ⟨io, ia, ib⟩ := i
        simp only [icell, List.getD_cons_zero, List.getD_cons_succ] at gc0 gc1 gc2 c0 c1 c2
        go_wp2
        go_quiet (fail)
        go_wp2
        refine ⟨⟨k + 1, by omega, by go_num, NX.out _⟩, ?_⟩
        simp [intOf]
        omega
      · have km : ¬ (k : Int) < (n : Int) := by omega
        have km3 : decide (k < n) = false := decide_eq_false hm
        have kg : (n : Int) ≤ (k : Int) := by omega
        have kg2 : n ≤ k := by omega
        have kg3 : decide (n ≤ k) = true := decide_eq_true kg2
        rw [if_neg hm] at gc0 gc1 gc2
        simp only [List.getD_cons_zero, List.getD_cons_succ] at gc0 gc1 gc2
        clear hH
        go_wp2
        go_quiet (fail)
        go_wp2
        refine ⟨⟨k + 1, by omega, by go_num, NX.out _⟩, ?_⟩
        simp [intOf]
        omega
    · obtain rfl : k = N := by omega
      have E := Lib.hid hH.out
      clear hH
      go_wp2
      go_ret
      exact ⟨rfl, E.out⟩
end Go.Proofs.YtjbbbejadhojlaaDoor

namespace Go.Proofs.YtjbbbejadhojlaaDoor
open Go.RowKit
set_option linter.unusedVariables false
set_option linter.unusedSimpArgs false
theorem hdP_agg (p : Pg) (gn gc gp gd : Nat) (cg : Nat → Nat) (cd : Nat → List In) : (hdP p gn gc gp gd cg cd).agg = .agg #[.slice (some ⟨gn, 0, none⟩) p.names.length (p.names.length + 3), .slice (some ⟨gc, 0, none⟩) p.curs.length (p.curs.length + 3), .slice (some ⟨gp, 0, none⟩) p.pool.length (p.pool.length + 3), .int .i64 p.hor, .int .i64 p.cells, .int .i64 p.slots, .int .i64 p.stack, .slice (some ⟨gd, 0, none⟩) p.days.length (p.days.length + 3)] := by
  have : (hdP p gn gc gp gd cg cd).days.length = p.days.length := by show ((List.range p.days.length).map _).length = _; simp
  unfold Pg.agg
  rw [this]
  rfl
set_option maxRecDepth 100000 in
set_option maxHeartbeats 3200000 in
theorem keptProgram_yes {w : World} {p : Pg} (hp : PV w p) {B gn gc gp gd : Nat} {cg : Nat → Nat} (hn : HnP w B p gn gc gp gd cg (fun d => (p.days.getD d default).code)) : Calls Tryd.prog 8 #[(hdP p gn gc gp gd cg (fun d => (p.days.getD d default).code)).agg, p.agg] w fun e w' => e = .returned (.bool true) ∧ Below w.heap.size w w' := by
  have b1 := hp.names.2.2.1
  have b2 := hp.curs.2.2.1
  have b3 := hp.pool.2.2.1
  have b4 := hp.days.2.2.1
  have HP := Lib.hid (fun V (bb : Below w.heap.size w V) => hp.later bb)
  have HN := Lib.hid (fun V (bb : Below w.heap.size w V) => hn.lat bb)
  rw [hdP_agg]
  clear hp hn
  unfold Pg.agg at *
  obtain ⟨na, nc, names, ua, uc, curs, pa, pc, pool, hor, cells, slots, stack, da, dc, days⟩ := p
  simp only at b1 b2 b3 b4 ⊢
  obtain ⟨W0, hW0⟩ : ∃ W, (w.alloc (.cells #[.slice (some ⟨gn, 0, none⟩) names.length (names.length + 3), .slice (some ⟨gc, 0, none⟩) curs.length (curs.length + 3), .slice (some ⟨gp, 0, none⟩) pool.length (pool.length + 3), .int .i64 hor, .int .i64 cells, .int .i64 slots, .int .i64 stack, .slice (some ⟨gd, 0, none⟩) days.length (days.length + 3)] 26)).alloc (.cells #[.slice na names.length nc, .slice ua curs.length uc, .slice pa pool.length pc, .int .i64 hor, .int .i64 cells, .int .i64 slots, .int .i64 stack, .slice da days.length dc] 26) = W := ⟨_, rfl⟩
  have B0 : Below w.heap.size w W0 := by rw [← hW0]; exact (allocBP w _).trans ((allocBP (w.alloc _) _).mono (by simp))
  have Q0 : BkP W0 w.heap.size #[.slice (some ⟨gn, 0, none⟩) names.length (names.length + 3), .slice (some ⟨gc, 0, none⟩) curs.length (curs.length + 3), .slice (some ⟨gp, 0, none⟩) pool.length (pool.length + 3), .int .i64 hor, .int .i64 cells, .int .i64 slots, .int .i64 stack, .slice (some ⟨gd, 0, none⟩) days.length (days.length + 3)] 26 := by rw [← hW0]; exact BkP.lat (heapN w _) (allocBP _ _)
  have R0 : BkP W0 (w.heap.size + 1) #[.slice na names.length nc, .slice ua curs.length uc, .slice pa pool.length pc, .int .i64 hor, .int .i64 cells, .int .i64 slots, .int .i64 stack, .slice da days.length dc] 26 := by
    rw [← hW0]
    have := heapN (w.alloc (.cells #[.slice (some ⟨gn, 0, none⟩) names.length (names.length + 3), .slice (some ⟨gc, 0, none⟩) curs.length (curs.length + 3), .slice (some ⟨gp, 0, none⟩) pool.length (pool.length + 3), .int .i64 hor, .int .i64 cells, .int .i64 slots, .int .i64 stack, .slice (some ⟨gd, 0, none⟩) days.length (days.length + 3)] 26)) (.cells #[.slice na names.length nc, .slice ua curs.length uc, .slice pa pool.length pc, .int .i64 hor, .int .i64 cells, .int .i64 slots, .int .i64 stack, .slice da days.length dc] 26)
    rw [show (w.alloc (.cells #[.slice (some ⟨gn, 0, none⟩) names.length (names.length + 3), .slice (some ⟨gc, 0, none⟩) curs.length (curs.length + 3), .slice (some ⟨gp, 0, none⟩) pool.length (pool.length + 3), .int .i64 hor, .int .i64 cells, .int .i64 slots, .int .i64 stack, .slice (some ⟨gd, 0, none⟩) days.length (days.length + 3)] 26)).heap.size = w.heap.size + 1 by simp] at this
    exact this
  have BB := Lib.hid (p := ∀ V, Below W0.heap.size W0 V → Below w.heap.size w V) (fun V bb => B0.trans (bb.mono B0.size))
  have CI := Lib.hid (p := ∀ V, Below W0.heap.size W0 V → BkP V w.heap.size #[.slice (some ⟨gn, 0, none⟩) names.length (names.length + 3), .slice (some ⟨gc, 0, none⟩) curs.length (curs.length + 3), .slice (some ⟨gp, 0, none⟩) pool.length (pool.length + 3), .int .i64 hor, .int .i64 cells, .int .i64 slots, .int .i64 stack, .slice (some ⟨gd, 0, none⟩) days.length (days.length + 3)] 26 ∧ BkP V (w.heap.size + 1) #[.slice na names.length nc, .slice ua curs.length uc, .slice pa pool.length pc, .int .i64 hor, .int .i64 cells, .int .i64 slots, .int .i64 stack, .slice da days.length dc] 26) (fun V bb => ⟨Q0.lat bb, R0.lat bb⟩)
  have KN := Lib.hid (p := ∀ V, Below W0.heap.size W0 V → Calls Tryd.prog 23 #[.slice (some ⟨gn, 0, none⟩) names.length (names.length + 3), .slice na names.length nc] V fun e w' => e = .returned (.bool true) ∧ Below V.heap.size V w') (fun V bb => keptTexts_yes (HN.out V (BB.out V bb)).bn (HP.out V (BB.out V bb)).names)
  have KC := Lib.hid (p := ∀ V, Below W0.heap.size W0 V → Calls Tryd.prog 23 #[.slice (some ⟨gc, 0, none⟩) curs.length (curs.length + 3), .slice ua curs.length uc] V fun e w' => e = .returned (.bool true) ∧ Below V.heap.size V w') (fun V bb => keptTexts_yes (HN.out V (BB.out V bb)).bc (HP.out V (BB.out V bb)).curs)
  have PC := Lib.hid (p := ∀ k, k < pool.length → ∃ y u, pa = some ⟨y, u, none⟩ ∧ ∀ V, Below W0.heap.size W0 V → V.cell? ⟨y, u + k, none⟩ = some (.int .i64 (pool.getD k 0))) (fun k hk => by
    rcases (HP.out w (Below.refl _ _)).pool.2.2.2.2 with z | ⟨y, u, e, ly, hc⟩
    · simp only at z; omega
    · have := hc k hk 0 (by omega)
      rw [Nat.mul_one, Nat.add_zero] at this
      exact ⟨y, u, e, fun V bb => ((BB.out V bb).cell (p := ⟨y, u + k, none⟩) ly).trans this⟩)
  have PG := Lib.hid (p := ∀ k, k < pool.length + 3 → ∀ V, Below W0.heap.size W0 V → V.cell? ⟨gp, k, none⟩ = some (if k < pool.length then .int .i64 (pool.getD k 0) else .int .i64 (-77))) (fun k hk V bb => by
    rw [(HN.out V (BB.out V bb)).bp.cell, fullA_at _ _ _ hk]
    rfl)
  have DC := Lib.hid (p := ∀ k, k < days.length → ∃ y u, da = some ⟨y, u, none⟩ ∧ ∀ V, Below W0.heap.size W0 V → (V.cell? ⟨y, u + k * 2, none⟩ = some (.int .i64 (days.getD k default).day) ∧ V.cell? ⟨y, u + k * 2 + 1, none⟩ = some (.slice (days.getD k default).ca (days.getD k default).code.length (days.getD k default).cc)) ∧ (V.cell? ⟨gd, k * 2, none⟩ = some (.int .i64 (days.getD k default).day) ∧ V.cell? ⟨gd, k * 2 + 1, none⟩ = some (.slice (some ⟨cg k, 0, none⟩) (days.getD k default).code.length ((days.getD k default).code.length + 3))) ∧ Calls Tryd.prog 24 #[.slice (some ⟨cg k, 0, none⟩) (days.getD k default).code.length ((days.getD k default).code.length + 3), .slice (days.getD k default).ca (days.getD k default).code.length (days.getD k default).cc] V fun e w' => e = .returned (.bool true) ∧ Below V.heap.size V w') (fun k hk => by
    rcases (HP.out w (Below.refl _ _)).days.2.2.2.2 with z | ⟨y, u, e, ly, hc⟩
    · simp only at z; omega
    · have c0 := hc k hk 0 (by omega)
      have c1 := hc k hk 1 (by omega)
      simp only [Sg.cs, Nat.add_zero, List.getD_cons_zero, List.getD_cons_succ] at c0 c1
      refine ⟨y, u, e, fun V bb => ⟨⟨((BB.out V bb).cell (p := ⟨y, u + k * 2, none⟩) ly).trans c0, ((BB.out V bb).cell (p := ⟨y, u + k * 2 + 1, none⟩) ly).trans c1⟩, ⟨?_, ?_⟩, ?_⟩⟩
      · have e0 := sgG_at days cg k 0 (by omega)
        rw [if_pos hk, Nat.add_zero] at e0
        rw [(HN.out V (BB.out V bb)).bd.cell, fullA_at _ _ _ (by simp only; omega), e0]
        rfl
      · have e1 := sgG_at days cg k 1 (by omega)
        rw [if_pos hk] at e1
        rw [(HN.out V (BB.out V bb)).bd.cell, fullA_at _ _ _ (by simp only; omega), e1]
        rfl
      · exact keptCode_yes ((HN.out V (BB.out V bb)).bi k hk).1 (((HP.out V (BB.out V bb)).days.2.2.2.1 _ (sg_mem hk)).2))
  have DM := Lib.hid (p := ∀ k, ¬ k < days.length → k < days.length + 3 → ∀ V, Below W0.heap.size W0 V → V.cell? ⟨gd, k * 2, none⟩ = some (.int .i64 (-77)) ∧ V.cell? ⟨gd, k * 2 + 1, none⟩ = some (.slice none 0 0)) (fun k hk hk2 V bb => by
    have e0 := sgG_at days cg k 0 (by omega)
    have e1 := sgG_at days cg k 1 (by omega)
    rw [if_neg hk] at e0 e1
    rw [Nat.add_zero] at e0
    rw [(HN.out V (BB.out V bb)).bd.cell, (HN.out V (BB.out V bb)).bd.cell, fullA_at _ _ _ (by simp only; omega), fullA_at _ _ _ (by simp only; omega), e0, e1]
    exact ⟨rfl, rfl⟩)
  have HW := Lib.hid hW0
  obtain ⟨N, hN⟩ : ∃ N, pool.length + 3 = N := ⟨_, rfl⟩
  obtain ⟨N2, hN2⟩ : ∃ N2, days.length + 3 = N2 := ⟨_, rfl⟩
  have kN : IntKind.i64.wrap ((pool.length : Int) + 3) = (N : Int) := by simp [IntKind.wrap, IntKind.bits, IntKind.signed]; omega
  have kN2 : IntKind.i64.wrap ((days.length : Int) + 3) = (N2 : Int) := by simp [IntKind.wrap, IntKind.bits, IntKind.signed]; omega
  have hnN : pool.length ≤ N := by omega
  have hnN2 : days.length ≤ N2 := by omega
  have hN0 : ¬ (N : Int) < 0 := by omega
  have hNb : N ≤ 20000000000000 := by omega
  have hNb2 : N2 ≤ 20000000000000 := by omega
  have hN20 : ¬ (N2 : Int) < 0 := by omega
  simp only [hN, hN2] at HW CI PG DM ⊢
  obtain ⟨q1, r1⟩ := CI.out W0 (Below.refl _ _)
  obtain ⟨x0, x1, x2, x3, x4, x5, x6, x7⟩ := box_all8 q1
  obtain ⟨y0, y1, y2, y3, y4, y5, y6, y7⟩ := box_all8 r1
  have K1 := Lib.hid (KN.out W0 (Below.refl _ _))
  clear q1 r1 Q0 R0 B0 hW0 hN hN2
  go_enter Tryd.func8, Tryd.ntmps8
  go_upto_region 1 with fail
  rw [HW.out]
  go_cut [5] (fun bv wx => bv = .bool true ∧ RowKit.Hid (Below W0.heap.size W0 wx))
  case first =>
    go_wp2_with (go_at_call 23; refine K1.out.mono ?_; rintro e w1 ⟨rfl, h1⟩; have B1 := Lib.hid h1; clear h1)
    go_meet
    case rel => exact ⟨rfl, B1.out⟩
  case rest =>
    obtain ⟨rfl, hcut⟩ := hcut
    clear x0 x1 x2 x3 x4 x5 x6 x7 y0 y1 y2 y3 y4 y5 y6 y7 K1
    obtain ⟨q1, r1⟩ := CI.out wc hcut.out
    obtain ⟨x0, x1, x2, x3, x4, x5, x6, x7⟩ := box_all8 q1
    obtain ⟨y0, y1, y2, y3, y4, y5, y6, y7⟩ := box_all8 r1
    have K1 := Lib.hid (KC.out wc hcut.out)
    have BC := Lib.hid hcut.out
    clear q1 r1 hcut
    go_upto_region 2 with fail
    go_cut [6] (fun bv wx => bv = .bool true ∧ RowKit.Hid (Below W0.heap.size W0 wx))
    case first =>
      go_wp2_with (go_at_call 23; refine K1.out.mono ?_; rintro e w1 ⟨rfl, h1⟩; have B1 := Lib.hid (BC.out.trans (h1.mono BC.out.size)); clear h1)
      go_meet
      case rel => exact ⟨rfl, B1.out⟩
    case rest =>
      obtain ⟨rfl, hcut⟩ := hcut
      clear x0 x1 x2 x3 x4 x5 x6 x7 y0 y1 y2 y3 y4 y5 y6 y7 K1 BC
      obtain ⟨q1, r1⟩ := CI.out wc hcut.out
      obtain ⟨x0, x1, x2, x3, x4, x5, x6, x7⟩ := box_all8 q1
      obtain ⟨y0, y1, y2, y3, y4, y5, y6, y7⟩ := box_all8 r1
      have BC := Lib.hid hcut.out
      clear q1 r1 hcut
      go_wp2
      clear x0 x1 x2 x3 x4 x5 x6 x7 y0 y1 y2 y3 y4 y5 y6 y7
      go_loopw [8] (fun t wr => ∃ k : Nat, k ≤ N ∧ t = .int .i64 (k : Int) ∧ RowKit.Hid (Below W0.heap.size W0 wr)) (fun t _ => N - (intOf t).toNat)
      case atStart => exact ⟨0, by omega, rfl, BC.out⟩
      case round =>
        clear BC
        rename World => wr
        obtain ⟨k, hk, rfl, hH⟩ := hrel
        obtain ⟨q1, r1⟩ := CI.out wr hH.out
        obtain ⟨x0, x1, x2, x3, x4, x5, x6, x7⟩ := box_all8 q1
        obtain ⟨y0, y1, y2, y3, y4, y5, y6, y7⟩ := box_all8 r1
        by_cases hlt : k < N
        · have kc : (k : Int) < (N : Int) := by omega
          have k0 : ¬ (k : Int) < 0 := by omega
          have ks : IntKind.i64.wrap ((k : Int) + 1) = (k : Int) + 1 := by simp [IntKind.wrap, IntKind.bits, IntKind.signed]; omega
          have gc' := PG.out k hlt wr hH.out
          have NX := Lib.hid (p := ∀ q, Below W0.heap.size W0 (wr.drewN q)) (fun q => hH.out.trans (drewN_below' wr q _))
          by_cases hm : k < pool.length
          · obtain ⟨y, u, rfl, hc⟩ := PC.out k hm
            have c2 := hc wr hH.out
            have km : (k : Int) < (pool.length : Int) := by omega
            have km3 : decide (k < pool.length) = true := decide_eq_true hm
            have kg : ¬ (pool.length : Int) ≤ (k : Int) := by omega
            have kg2 : ¬ pool.length ≤ k := by omega
            have kg3 : decide (pool.length ≤ k) = false := decide_eq_false kg2
            rw [if_pos hm] at gc'
            clear hc hH q1 r1
            generalize pool.getD k 0 = pv at *
            go_wp2
            go_quiet (fail)
            go_wp2
            refine ⟨⟨k + 1, by omega, by go_num, NX.out _⟩, ?_⟩
            simp [intOf]
            omega
          · have km : ¬ (k : Int) < (pool.length : Int) := by omega
            have km3 : decide (k < pool.length) = false := decide_eq_false hm
            have kg : (pool.length : Int) ≤ (k : Int) := by omega
            have kg2 : pool.length ≤ k := by omega
            have kg3 : decide (pool.length ≤ k) = true := decide_eq_true kg2
            rw [if_neg hm] at gc'
            clear hH q1 r1
            go_wp2
            go_quiet (fail)
            go_wp2
            refine ⟨⟨k + 1, by omega, by go_num, NX.out _⟩, ?_⟩
            simp [intOf]
            omega
        · obtain rfl : N = k := by omega
          have BC := Lib.hid hH.out
          clear hH q1 r1
          go_wp2
          clear x0 x1 x2 x3 x4 x5 x6 x7 y0 y1 y2 y3 y4 y5 y6 y7
          go_loopw [10] (fun t wr => ∃ k : Nat, k ≤ N2 ∧ t = .int .i64 (k : Int) ∧ RowKit.Hid (Below W0.heap.size W0 wr)) (fun t _ => N2 - (intOf t).toNat)
          case atStart => exact ⟨0, by omega, rfl, BC.out⟩
          case round =>
            clear BC
            rename World => wr
            obtain ⟨k, hk, rfl, hH⟩ := hrel
            obtain ⟨q1, r1⟩ := CI.out wr hH.out
            obtain ⟨x0, x1, x2, x3, x4, x5, x6, x7⟩ := box_all8 q1
            obtain ⟨y0, y1, y2, y3, y4, y5, y6, y7⟩ := box_all8 r1
            by_cases hlt : k < N2
            · have kc : (k : Int) < (N2 : Int) := by omega
              have k0 : ¬ (k : Int) < 0 := by omega
              have ks : IntKind.i64.wrap ((k : Int) + 1) = (k : Int) + 1 := by simp [IntKind.wrap, IntKind.bits, IntKind.signed]; omega
              by_cases hm : k < days.length
              · obtain ⟨y, u, rfl, hc⟩ := DC.out k hm
                have DCk := Lib.hid hc
                obtain ⟨⟨c0, c1⟩, ⟨d0, d1⟩, _⟩ := hc wr hH.out
                have kg : ¬ (days.length : Int) ≤ (k : Int) := by omega
                have kg2 : ¬ days.length ≤ k := by omega
                have kg3 : decide (days.length ≤ k) = false := decide_eq_false kg2
                have BR := Lib.hid hH.out
                clear hc hH q1 r1
                generalize days.getD k default = sg at *
                obtain ⟨sd, sa, sc, sl⟩ := sg
                simp only at c0 c1 d0 d1 DCk
                go_upto_region 18 with fail
                go_cut [11] (fun bv wx => bv = .bool true ∧ RowKit.Hid (Below W0.heap.size W0 wx))
                case first =>
                  go_region_held3 (fun w' => w'.cell? ⟨w.heap.size + 1, 7, none⟩ = some (.slice (some ⟨y, u, none⟩) days.length dc) ∧ w'.cell? ⟨y, u + k * 2 + 1, none⟩ = some (.slice sa sl.length sc) ∧ w'.cell? ⟨gd, k * 2 + 1, none⟩ = some (.slice (some ⟨cg k, 0, none⟩) sl.length (sl.length + 3)))
                    (go_keep)
                    (first | (go_at_call 24; refine ((DCk.out _ (by first | exact BR.out | exact BR.out.trans (drewN_below' wr 1 _))).2.2).mono ?_; rintro e w6 ⟨rfl, h6⟩; have B6 := Lib.hid (p := Below W0.heap.size W0 w6) (by first | exact (BR.out.trans (drewN_below' wr 1 _)).trans (h6.mono (BR.out.trans (drewN_below' wr 1 _)).size) | exact BR.out.trans (h6.mono BR.out.size)); obtain ⟨⟨z0, z1⟩, ⟨z2, z3⟩, _⟩ := DCk.out w6 B6.out; obtain ⟨_, _, _, _, _, _, _, z7⟩ := box_all8 (CI.out w6 B6.out).2; clear h6))
                  all_goals
                    go_wp2
                    go_meet
                    case rel => exact ⟨rfl, by first | exact B6.out | exact B6.out.trans ⟨rfl, rfl, rfl, Nat.le_refl _, fun _ _ => rfl⟩⟩
                case rest =>
                  obtain ⟨rfl, hcut⟩ := hcut
                  clear x0 x1 x2 x3 x4 x5 x6 x7 y0 y1 y2 y3 y4 y5 y6 y7 c0 c1 d0 d1
                  obtain ⟨q1, r1⟩ := CI.out wc hcut.out
                  obtain ⟨x0, x1, x2, x3, x4, x5, x6, x7⟩ := box_all8 q1
                  obtain ⟨y0, y1, y2, y3, y4, y5, y6, y7⟩ := box_all8 r1
                  obtain ⟨⟨c0, c1⟩, ⟨d0, d1⟩, _⟩ := DCk.out wc hcut.out
                  have NX := Lib.hid (p := ∀ q, Below W0.heap.size W0 (wc.drewN q)) (fun q => hcut.out.trans (drewN_below' wc q _))
                  clear hcut q1 r1
                  go_wp2
                  go_quiet (fail)
                  go_wp2
                  refine ⟨⟨k + 1, by omega, by go_num, NX.out _⟩, ?_⟩
                  simp [intOf]
                  omega
              · have kg : (days.length : Int) ≤ (k : Int) := by omega
                have kg2 : days.length ≤ k := by omega
                have kg3 : decide (days.length ≤ k) = true := decide_eq_true kg2
                obtain ⟨d0, d1⟩ := DM.out k hm hlt wr hH.out
                have NX := Lib.hid hH.out
                clear hH q1 r1
                go_wp2
                refine ⟨⟨k + 1, by omega, by go_num, NX.out⟩, ?_⟩
                simp [intOf]
                omega
            · obtain rfl : N2 = k := by omega
              have E := Lib.hid (BB.out wr hH.out)
              clear hH q1 r1
              go_wp2
              go_ret
              exact ⟨rfl, E.out⟩
end Go.Proofs.YtjbbbejadhojlaaDoor

namespace Go.Proofs.YtjbbbejadhojlaaDoor
open Go.RowKit
set_option linter.unusedVariables false
set_option linter.unusedSimpArgs false
/-- Instructions, segments in a row of one's own. -/
def OwIn (w : World) (B : Nat) (v : Value) (l : List In) : Prop := w.ownsRow B 51 3 v l.length (flatV l.length (fun i => icell (l.getD i default)))
def OwSg (w : World) (B : Nat) (v : Value) (l : List Sg) : Prop := w.ownsRow B 43 2 v l.length (flatV l.length (fun i => (l.getD i default).cs))
/-- One thing more, out of a literal. -/
theorem own_nextR {T E k bz : Nat} {i0 : TypeInfo} {z : Value} (hT : Tryd.prog.underlying T = some (.slice E)) (hi : Tryd.prog.info? E = some i0) (hz0 : i0.zero = some z) (hz1 : i0.size = k) (hz2 : i0.bytes = bz) (hzs : z.cells.size = k) (hk : 0 < k) {w : World} {B : Nat} {a : Option Addr} {n c : Nat} {xs : List Value} (hv : w.ownsRow B E k (.slice a n c) n xs) {g : Nat} {cs : Array Value} (bk : BkP w g cs E) (hcs : cs.size = k) (h1 : ∀ u ∈ cs.toList, u.oneCell' = true) (hm : n + 1 ≤ maxLen) (hb : (n + 1) * bz ≤ 140737488355328) (hB : B ≤ w.heap.size) : ∃ a' c' w', RowKit.Hid (∀ ty, (Builtin.append_ #[T, T] ty #[.slice a n c, .slice (some ⟨g, 0, none⟩) 1 1]).run Tryd.prog w = .ok (.slice a' (n + 1) c') w') ∧ RowKit.Hid (w'.ownsRow B E k (.slice a' (n + 1) c') (n + 1) (xs ++ cs.toList) ∧ w.grownBy w' (Value.ownBlock (.slice a n c))) := by
  obtain ⟨a', c', w', r, o, gr, _⟩ := run_rowappR (V := fun _ => cs.toList) hT hi hz0 hz1 hz2 hzs hk hv (a := some ⟨g, 0, none⟩) (n := 1) (c := 1) ⟨fun z => (by cases z), Nat.le_refl _, by unfold maxLen; omega⟩ (.inr ⟨g, 0, rfl, bk.lt, fun i hi j hj => by
    have i0 : i = 0 := by omega
    subst i0
    rw [bk.cell]
    have : j < cs.size := by omega
    simp [List.getD, this]⟩) (fun _ => by simpa using hcs) (fun i u hu => h1 u hu) hm hb hB
  refine ⟨a', c', w', r, ?_, gr⟩
  have e : flatV 1 (fun _ => cs.toList) = cs.toList := by unfold flatV; simp
  rw [e] at o
  exact o
theorem own_len {w : World} {B n m k : Nat} {t : TypeId} {a : Option Addr} {c : Nat} {xs : List Value} (h : w.ownsRow B t k (.slice a n c) m xs) : n = m := by
  obtain ⟨a2, c2, q⟩ := own_formR h
  injection q
theorem OwIn.next {w : World} {B : Nat} {a : Option Addr} {n c : Nat} {l : List In} (h : OwIn w B (.slice a n c) l) (hn : n ≤ 5864062014700) (hB : B ≤ w.heap.size) (i : In) {g : Nat} (bk : BkP w g #[.int .i64 i.o, .int .i64 i.a, .int .i64 i.b] 51) : ∃ a' c' w', RowKit.Hid (∀ ty, (Builtin.append_ #[41, 41] ty #[.slice a n c, .slice (some ⟨g, 0, none⟩) 1 1]).run Tryd.prog w = .ok (.slice a' (n + 1) c') w') ∧ RowKit.Hid (OwIn w' B (.slice a' (n + 1) c') (l ++ [i]) ∧ w.grownBy w' (Value.ownBlock (.slice a n c))) := by
  obtain ⟨i0, hi, hz0, hz1, hz2⟩ := info_parts infoHI
  have nl : n = l.length := own_len h
  have h' : w.ownsRow B 51 3 (.slice a n c) n (flatV n (fun i => icell (l.getD i default))) := by rw [nl]; rw [nl] at h; exact h
  obtain ⟨a', c', w', r, q⟩ := own_nextR Tryd.underlying41 hi hz0 hz1 hz2 rfl (by omega) h' bk rfl (fun u hu => by
    simp at hu
    rcases hu with rfl | rfl | rfl <;> rfl) (by unfold maxLen; omega) (by omega) hB
  obtain ⟨o, gr⟩ := q.out
  refine ⟨a', c', w', r, ?_, gr⟩
  unfold OwIn
  have ll : (l ++ [i]).length = l.length + 1 := by simp
  have e1 := flatV_snocR (fun j => icell (l.getD j default)) (fun j => icell ((l ++ [i]).getD j default)) l.length (fun j hj => by rw [getD_snoc_ltR hj])
  rw [getD_snoc_eqR] at e1
  rw [ll, ← e1, nl]
  rw [nl] at o
  exact o
theorem OwSg.next {w : World} {B : Nat} {a : Option Addr} {n c : Nat} {l : List Sg} (h : OwSg w B (.slice a n c) l) (hn : n ≤ 4398046510990) (hB : B ≤ w.heap.size) (s : Sg) {g : Nat} (bk : BkP w g #[.int .i64 s.day, .slice s.ca s.code.length s.cc] 43) : ∃ a' c' w', RowKit.Hid (∀ ty, (Builtin.append_ #[24, 24] ty #[.slice a n c, .slice (some ⟨g, 0, none⟩) 1 1]).run Tryd.prog w = .ok (.slice a' (n + 1) c') w') ∧ RowKit.Hid (OwSg w' B (.slice a' (n + 1) c') (l ++ [s]) ∧ w.grownBy w' (Value.ownBlock (.slice a n c))) := by
  obtain ⟨i0, hi, hz0, hz1, hz2⟩ := info_parts infoHG
  have nl : n = l.length := own_len h
  have h' : w.ownsRow B 43 2 (.slice a n c) n (flatV n (fun i => (l.getD i default).cs)) := by rw [nl]; rw [nl] at h; exact h
  obtain ⟨a', c', w', r, q⟩ := own_nextR Tryd.underlying24 hi hz0 hz1 hz2 rfl (by omega) h' bk rfl (fun u hu => by
    simp at hu
    rcases hu with rfl | rfl <;> rfl) (by unfold maxLen; omega) (by omega) hB
  obtain ⟨o, gr⟩ := q.out
  refine ⟨a', c', w', r, ?_, gr⟩
  unfold OwSg
  have ll : (l ++ [s]).length = l.length + 1 := by simp
  have e1 := flatV_snocR (fun j => (l.getD j default).cs) (fun j => ((l ++ [s]).getD j default).cs) l.length (fun j hj => by rw [getD_snoc_ltR hj])
  rw [getD_snoc_eqR] at e1
  rw [ll, ← e1, nl]
  rw [nl] at o
  exact o
theorem own_rowR {w : World} {B k : Nat} {t : TypeId} {a : Option Addr} {n c : Nat} {V : Nat → List Value} (hk : 0 < k) (h : w.ownsRow B t k (.slice a n c) n (flatV n V)) (hV : ∀ i, (V i).length = k) : Row w a n k V ∧ Hd a n c ∧ ∀ y u m, a = some ⟨y, u, m⟩ → B ≤ y ∧ ∃ cur, BkP w y cur t := by
  rcases h.2 with ⟨e, h0⟩ | ⟨g, cap, cur, e, e2, e3, e4, e5, _⟩
  · injection e with e1 e2 e3
    subst e1 e2 e3
    exact ⟨.inl rfl, ⟨fun _ => ⟨rfl, rfl⟩, Nat.le_refl _, by unfold maxLen; omega⟩, fun y u m z => by cases z⟩
  · injection e with e1 _ e3'
    subst e1 e3'
    have lt := (Array.getElem?_eq_some_iff.1 e3).1
    refine ⟨.inr ⟨g, 0, rfl, lt, fun i hi j hj => ?_⟩, ⟨fun z => (by cases z), e4, e5⟩, fun y u m z => ?_⟩
    · have q : i * k + j < n * k := by
        have : (i + 1) * k ≤ n * k := Nat.mul_le_mul_right _ (by omega)
        have : (i + 1) * k = i * k + k := Nat.succ_mul i k
        omega
      rw [Nat.zero_add, World.ownsRow.cellAt h (i * k + j) q, flatV_at hk V n (fun _ _ => hV _) i hi j hj]
      have : j < (V i).length := by rw [hV]; exact hj
      simp [List.getD, this]
    · injection z with z
      injection z with z _ _
      subst z
      exact ⟨e2, cur, e3⟩
/-- A list of instructions whose block stays. -/
theorem IR.far {w w' : World} {a : Option Addr} {n c : Nat} {l : List In} (h : IR w a n c l) (hs : w.heap.size ≤ w'.heap.size) (q : ∀ y u m, a = some ⟨y, u, m⟩ → w'.heap[y]? = w.heap[y]?) : IR w' a n c l := by
  refine ⟨h.1, h.2.1, h.2.2.1, h.2.2.2.1, ?_⟩
  rcases h.2.2.2.2 with z | ⟨y, u, e, ly, hc⟩
  · exact .inl z
  · have e2 := q y u none e
    exact .inr ⟨y, u, e, by omega, fun i hi j hj => (World.cell?_of_block (a := ⟨y, u + i * 3 + j, none⟩) e2).trans (hc i hi j hj)⟩
/-- Code that is being turned about. -/
def revT (l : List In) (i : Nat) : List In := l.reverse.take i ++ l.drop i
theorem revT_len {l : List In} {i : Nat} (h : i ≤ l.length) : (revT l i).length = l.length := by
  unfold revT
  simp
  omega
theorem revT_zero (l : List In) : revT l 0 = l := by simp [revT]
theorem revT_all (l : List In) : revT l l.length = l.reverse := by
  unfold revT
  rw [List.take_of_length_le (by simp), List.drop_length, List.append_nil]
theorem rev_at' {l : List In} {i : Nat} (h : i < l.length) : l.reverse.getD i default = l.getD (l.length - 1 - i) default := by
  simp only [List.getD]
  rw [List.getElem?_reverse h]
theorem revT_getD {l : List In} {i j : Nat} (hi : i ≤ l.length) : (revT l i).getD j default = if j < i then l.reverse.getD j default else l.getD j default := by
  unfold revT
  have tl : (l.reverse.take i).length = i := by simp; omega
  simp only [List.getD]
  by_cases z : j < i
  · rw [if_pos z, List.getElem?_append_left (by rw [tl]; exact z), List.getElem?_take_of_lt z]
  · rw [if_neg z, List.getElem?_append_right (by rw [tl]; omega), tl, List.getElem?_drop]
    congr 2
    omega
theorem take_rev_next {l : List In} {i : Nat} (h : i < l.length) : l.reverse.take (i + 1) = l.reverse.take i ++ [l.getD (l.length - 1 - i) default] := by
  rw [List.take_succ_eq_append_getElem (by simpa using h), ← rev_at' h]
  simp [List.getD, h]
/-- One instruction is put in its place. -/
theorem turn_set {W : World} {g i N : Nat} {l : List In} {x : In} (h : BkP W g (fullA (inG (revT l i)) N) 51) (hi : i < l.length) (hN : (l.length + 3) * 3 = N) (hx : x = l.getD (l.length - 1 - i) default) : BkP (set3 W g (i * 3) (.int .i64 x.o) (.int .i64 x.a) (.int .i64 x.b)) g (fullA (inG (revT l (i + 1))) N) 51 := by
  have q := set3_blk (o := i * 3) (d0 := .int .i64 x.o) (d1 := .int .i64 x.a) (d2 := .int .i64 x.b) h (by rw [fullA_size]; omega)
  have e : (((fullA (inG (revT l i)) N).set! (i * 3) (.int .i64 x.o)).set! (i * 3 + 1) (.int .i64 x.a)).set! (i * 3 + 2) (.int .i64 x.b) = fullA (inG (revT l (i + 1))) N := by
    apply Array.ext_getElem?
    intro j
    simp only [Array.set!_eq_setIfInBounds, Array.getElem?_setIfInBounds, Array.size_setIfInBounds, fullA_size]
    by_cases hj : j < N
    · rw [fullA_at _ _ _ hj, fullA_at _ _ _ hj]
      obtain ⟨m, r, hr, rfl⟩ : ∃ m r, r < 3 ∧ j = m * 3 + r := ⟨j / 3, j % 3, Nat.mod_lt _ (by omega), by omega⟩
      rw [inG_at _ _ _ hr, inG_at _ _ _ hr, revT_len (by omega), revT_len (by omega), revT_getD (by omega), revT_getD (by omega)]
      by_cases z : m = i
      · subst z
        rw [if_pos hi, if_neg (show ¬ m < m by omega), if_pos (show m < m + 1 by omega), rev_at' hi, ← hx]
        have hN2 : m * 3 + 2 < N := by omega
        rcases (show r = 0 ∨ r = 1 ∨ r = 2 by omega) with rfl | rfl | rfl
        · rw [if_neg (show ¬ m * 3 + 2 = m * 3 + 0 by omega), if_neg (show ¬ m * 3 + 1 = m * 3 + 0 by omega), if_pos (show m * 3 = m * 3 + 0 by omega)]
          simp [icell]
          omega
        · rw [if_neg (show ¬ m * 3 + 2 = m * 3 + 1 by omega), if_pos (show m * 3 + 1 = m * 3 + 1 by omega)]
          simp [icell]
          omega
        · rw [if_pos (show m * 3 + 2 = m * 3 + 2 by omega)]
          simp [icell]
          omega
      · rw [if_neg (by omega), if_neg (by omega), if_neg (by omega)]
        have : (m < i) ↔ (m < i + 1) := by omega
        simp only [this]
    · have e : ∀ G : Nat → Value, (fullA G N)[j]? = none := fun G => Array.getElem?_eq_none (by rw [fullA_size]; omega)
      rw [e, e, if_neg (by omega), if_neg (by omega), if_neg (by omega)]
  rw [e] at q
  exact q
end Go.Proofs.YtjbbbejadhojlaaDoor
