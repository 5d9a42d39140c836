import Derived.Test.YtpfjnnkjoabgbaaGreatDoorXBK
namespace Go.Proofs.YtpfjnnkjoabgbaaGreatDoor
open Go.RowKit
set_option linter.unusedVariables false
set_option linter.unusedSimpArgs false
/-- What New answers (B: the heap's size ahead of it). -/
structure NwE (w : World) (p : Pg) (e : Ending) (w' : World) : Prop where
  bel : Below w.heap.size w w'
  bad : (vfyA p).1 ≠ 0 → e = .returned (.tuple #[.pointer none, .int .i64 (vfyA p).1])
  ok : (vfyA p).1 = 0 → ∃ mb p' cev D, e = .returned (.tuple #[.pointer (some ⟨mb, 0, none⟩), .int .i64 0]) ∧ p'.key = p.key ∧ McV D w' mb p' (vfyA p').2.2.2 cev (.slice none 0 0) p'.born ∧ w.heap.size ≤ mb ∧ (∀ g, cev.ownBlock = some g → w.heap.size ≤ g) ∧ (∀ k, D k → w.heap.size ≤ k)
theorem born_cells {p : Pg} (h : 0 ≤ p.cells) (w : World) (B : Nat) (hB : B ≤ w.heap.size) (h2 : p.cells ≤ 32768) : OwZ (w.alloc (.cells (madeCells #[.int .i64 0] p.cells.toNat) 3)) B (.slice (some ⟨w.heap.size, 0, none⟩) p.cells.toNat p.cells.toNat) (List.replicate p.cells.toNat 0) := by
  refine ⟨by simp [zcs], .inr ⟨w.heap.size, p.cells.toNat, _, by simp, hB, heapN _ _, by simp, by unfold maxLen; omega, by simp [madeCells], ?_⟩⟩
  simp only [List.length_replicate, Nat.mul_one]
  apply List.ext_getElem?
  intro i
  by_cases hi : i < p.cells.toNat
  · rw [List.getElem?_take_of_lt hi]
    simp [madeCells, zcs, hi, Nat.mod_one]
  · rw [List.getElem?_eq_none (by simp [madeCells]; omega), List.getElem?_eq_none (by simp [zcs]; omega)]
/-- A machine that was made. -/
theorem born_mc {w w2 : World} {p p' : Pg} (hv : (vfyA p).1 = 0) (hk : p'.key = p.key) (h : PV w p) (bel : Below w.heap.size w w2) (pv : ∀ V, (∀ k, w.heap.size ≤ k → k < w2.heap.size → V.heap[k]? = w2.heap[k]?) → PV V p') (w3 : World) (b : Below w2.heap.size w2 w3) (cb : Nat) (hc : OwZ w3 0 (.slice (some ⟨cb, 0, none⟩) p.cells.toNat p.cells.toNat) (List.replicate p.cells.toNat 0)) (hcb : cb < w.heap.size ∨ w2.heap.size ≤ cb) (mb : Nat) (hm : BkP w3 mb (mArr p' (vfyA p).2.2.2 0 0 (.slice (some ⟨cb, 0, none⟩) p.cells.toNat p.cells.toNat) (.slice none 0 0) 0 0) 75) (gm : w2.heap.size ≤ mb) : McV (fun k => w.heap.size ≤ k ∧ k < w2.heap.size) w3 mb p' (vfyA p').2.2.2 (.slice (some ⟨cb, 0, none⟩) p.cells.toNat p.cells.toNat) (.slice none 0 0) p'.born := by
  obtain ⟨n1, n2, n3, n4, n5, n6, n7, n8, hcan⟩ := nds_of hv
  have ev := vfyA_keyM hk
  have ec : p'.cells = p.cells := congrArg (fun k => k.2.2.2.2.1) hk
  have eh : p'.hor = p.hor := congrArg (fun k => k.2.2.2.1) hk
  have sz := b.size
  refine ⟨?_, fun k hkk => Nat.lt_of_lt_of_le hkk.2 sz, fun V a => pv V (fun k h1 h2 => (a k ⟨h1, h2⟩).trans (b.block k h2)), ?_, ⟨[], ⟨rfl, by simp [Pg.born], by simp, .inl ⟨rfl, rfl⟩⟩⟩, fun z => by have := z.2; omega, ?_, fun g hg => by simp [Value.ownBlock] at hg, ?_⟩
  · rw [ev]; exact hm
  · refine .inr ?_
    show OwZ w3 0 _ (List.replicate p'.cells.toNat 0)
    rw [ec]
    exact hc
  · intro g hg z
    simp only [Value.ownBlock, Option.some.injEq] at hg
    subst hg
    have := z.1
    have := z.2
    omega
  · rw [ev]
    exact born_ok (by rw [eh]; exact n4) (by rw [ec]; exact n6) n1
theorem make_intN (n : Nat) (hn : n ≤ 262144) (W : World) : (Instr.makeSlice 23 (.int .i64 (n : Int)) (.int .i64 (n : Int))).run Tryz.prog W = .ok (.slice (some ⟨W.heap.size, 0, none⟩) n n) (W.alloc (.cells (madeCells #[.int .i64 0] n) 3)) := make_intsV n hn W
set_option maxRecDepth 100000 in
set_option maxHeartbeats 3200000 in
theorem new_any {w : World} {p : Pg} (h : PV w p) (hR : Rws w) (hU : Rul w) : Calls Tryz.prog 12 #[p.agg] w fun e w' => NwE w p e w' := by
  have B0 := allocBP w p.box
  have KV := Lib.hid (verify_any (h.later B0) (hR.below B0) (hU.lat B0))
  have P0 : BkP (w.alloc p.box) w.heap.size #[.slice p.na p.names.length p.nc, .slice p.ua p.curs.length p.uc, .slice p.pa p.pool.length p.pc, .int .i64 p.hor, .int .i64 p.cells, .int .i64 p.slots, .int .i64 p.stack, .slice p.da p.days.length p.dc] 26 := heapN w p.box
  have PH := Lib.hid P0
  have HB0 := Lib.hid B0
  have HH := Lib.hid h
  have pe : p.agg = p.agg := rfl
  by_cases hv : (vfyA p).1 = 0
  · obtain ⟨n1, n2, n3, n4, n5, n6, n7, n8, hcan⟩ := nds_of hv
    obtain ⟨cn, hcn⟩ : ∃ cn : Nat, p.cells = (cn : Int) := ⟨p.cells.toNat, by omega⟩
    have cnn : p.cells.toNat = cn := by omega
    have mk := make_intN cn (by omega)
    unfold vfV at KV
    rw [hv] at KV
    have FE := Lib.hid (p := ∀ mb p' cb D w', Below w.heap.size w w' → p'.key = p.key → McV D w' mb p' (vfyA p').2.2.2 (.slice (some ⟨cb, 0, none⟩) p.cells.toNat p.cells.toNat) (.slice none 0 0) p'.born → w.heap.size ≤ mb → w.heap.size ≤ cb → (∀ k, D k → w.heap.size ≤ k) → NwE w p (.returned (.tuple #[.pointer (some ⟨mb, 0, none⟩), .int .i64 0])) w') (fun mb p' cb D w' b k m g1 g2 g3 => ⟨b, fun z => absurd hv z, fun _ => ⟨mb, p', _, D, rfl, k, m, g1, fun g hg => by simp only [Value.ownBlock, Option.some.injEq] at hg; omega, g3⟩⟩)
    rw [cnn] at FE
    have CC := Lib.hid (p := ∀ V, Below w.heap.size w V → Calls Tryz.prog 27 #[p.agg] V fun e w' => ∃ p' : Pg, e = .returned (.agg #[.slice p'.na p'.names.length p'.nc, .slice p'.ua p'.curs.length p'.uc, .slice p'.pa p'.pool.length p'.pc, .int .i64 p'.hor, .int .i64 p'.cells, .int .i64 p'.slots, .int .i64 p'.stack, .slice p'.da p'.days.length p'.dc]) ∧ RowKit.Hid (p'.key = p.key ∧ Below V.heap.size V w' ∧ ∀ U, (∀ k, V.heap.size ≤ k → k < w'.heap.size → U.heap[k]? = w'.heap[k]?) → PV U p')) (fun V b => (copyProgram_any (h.later b)).mono (fun e w' ⟨p', h1, h2, h3, h4⟩ => ⟨p', h1, h2, h3, h4⟩))
    have OC := Lib.hid (p := ∀ V, OwZ (V.alloc (.cells (madeCells #[.int .i64 0] p.cells.toNat) 3)) 0 (.slice (some ⟨V.heap.size, 0, none⟩) p.cells.toNat p.cells.toNat) (List.replicate p.cells.toNat 0)) (fun V => born_cells n6 V 0 (Nat.zero_le _) n7)
    have MC := Lib.hid (p := ∀ W p' w2, Below w.heap.size w W → p'.key = p.key → Below W.heap.size W w2 → (∀ V, (∀ k, W.heap.size ≤ k → k < w2.heap.size → V.heap[k]? = w2.heap[k]?) → PV V p') → ∀ w3 cb mb, Below w2.heap.size w2 w3 → OwZ w3 0 (.slice (some ⟨cb, 0, none⟩) p.cells.toNat p.cells.toNat) (List.replicate p.cells.toNat 0) → (cb < W.heap.size ∨ w2.heap.size ≤ cb) → w.heap.size ≤ cb → BkP w3 mb (mArr p' (vfyA p).2.2.2 0 0 (.slice (some ⟨cb, 0, none⟩) p.cells.toNat p.cells.toNat) (.slice none 0 0) 0 0) 75 → w2.heap.size ≤ mb → NwE w p (.returned (.tuple #[.pointer (some ⟨mb, 0, none⟩), .int .i64 0])) w3) (fun W p' w2 bW k b2 pv w3 cb mb b3 oc oc2 oc3 bm g => by
      have b02 := bW.trans (b2.mono bW.size)
      have b03 := b02.trans (b3.mono b02.size)
      have m := born_mc hv k (h.later bW) b2 pv w3 b3 cb oc oc2 mb bm g
      have s1 := bW.size
      have s2 := b2.size
      have := FE.out mb p' cb (fun k => W.heap.size ≤ k ∧ k < w2.heap.size) w3 b03 k (by rw [cnn] at m; exact m) (by omega) oc3 (fun k hk => by have := hk.1; omega)
      exact this)
    rw [cnn] at MC OC
    obtain ⟨nn, hnn⟩ : ∃ nn, (vfyA p).2.2.2 = nn := ⟨_, rfl⟩
    rw [hnn] at MC KV
    generalize (vfyA p).2.1 = n21 at *
    generalize (vfyA p).2.2.1 = n22 at *
    clear FE P0 B0 h hR hU n1 n2 n3 n4 n5 n6 n7 n8 hcan hnn hv pe cnn
    unfold Pg.agg Pg.box at *
    obtain ⟨na, nc, names, ua, uc, curs, pa, pc, pool, hor, cells, slots, stack, da, dc, days⟩ := p
    simp only at *
    subst hcn
    obtain ⟨ns, nf, nb, nsl, nce⟩ := nn
    simp only at *
    go_enter Tryz.func12, Tryz.ntmps12
    go_wp2_with (go_at_call 26; refine KV.out.mono ?_; rintro e w1 ⟨rfl, h1⟩; have B1 := Lib.hid h1; clear h1)
    obtain ⟨W1, hW1⟩ : ∃ W, w1.alloc (.cells #[.int .i64 ns, .int .i64 nf, .int .i64 nb] 41) = W := ⟨_, rfl⟩
    have BW : Below w.heap.size w W1 := by rw [← hW1]; exact ((HB0.out.trans (B1.out.mono HB0.out.size)).trans ((allocBP w1 _).mono (HB0.out.trans (B1.out.mono HB0.out.size)).size))
    have P1 : BkP W1 w.heap.size #[.slice na names.length nc, .slice ua curs.length uc, .slice pa pool.length pc, .int .i64 hor, .int .i64 (cn : Int), .int .i64 slots, .int .i64 stack, .slice da days.length dc] 26 := by rw [← hW1]; exact (PH.out.lat B1.out).lat (allocBP _ _)
    have Q1 : BkP W1 w1.heap.size #[.int .i64 ns, .int .i64 nf, .int .i64 nb] 41 := by rw [← hW1]; exact heapN _ _
    rw [hW1]
    generalize w1.heap.size = qb at *
    have CL := Lib.hid (p := ∀ V, Below W1.heap.size W1 V → V.cell? ⟨w.heap.size, 0, none⟩ = some (.slice na names.length nc) ∧ V.cell? ⟨w.heap.size, 1, none⟩ = some (.slice ua curs.length uc) ∧ V.cell? ⟨w.heap.size, 2, none⟩ = some (.slice pa pool.length pc) ∧ V.cell? ⟨w.heap.size, 3, none⟩ = some (.int .i64 hor) ∧ V.cell? ⟨w.heap.size, 4, none⟩ = some (.int .i64 (cn : Int)) ∧ V.cell? ⟨w.heap.size, 5, none⟩ = some (.int .i64 slots) ∧ V.cell? ⟨w.heap.size, 6, none⟩ = some (.int .i64 stack) ∧ V.cell? ⟨w.heap.size, 7, none⟩ = some (.slice da days.length dc) ∧ V.cell? ⟨qb, 0, none⟩ = some (.int .i64 ns) ∧ V.cell? ⟨qb, 1, none⟩ = some (.int .i64 nf) ∧ V.cell? ⟨qb, 2, none⟩ = some (.int .i64 nb)) (fun V b => by
      obtain ⟨a0, a1, a2, a3, a4, a5, a6, a7⟩ := box_all8 (P1.lat b)
      obtain ⟨q0, q1, q2⟩ := box_all3P (Q1.lat b)
      exact ⟨a0, a1, a2, a3, a4, a5, a6, a7, q0, q1, q2⟩)
    obtain ⟨a0, a1, a2, a3, a4, a5, a6, a7, q0, q1, q2⟩ := CL.out W1 (Below.refl _ _)
    have nw1 := World.new_ne W1 ⟨w.heap.size, 0, none⟩ a0
    have nw2 := World.new_ne W1 ⟨qb, 0, none⟩ q0
    simp only at nw1 nw2
    have BWH := Lib.hid BW
    have EA := Lib.hid (p := ∀ (p' : Pg) (w2 : World), (p'.key = Pg.key (⟨na, nc, names, ua, uc, curs, pa, pc, pool, hor, (cn : Int), slots, stack, da, dc, days⟩ : Pg) ∧ Below W1.drew.heap.size W1.drew w2 ∧ ∀ U, (∀ k, W1.drew.heap.size ≤ k → k < w2.heap.size → U.heap[k]? = w2.heap[k]?) → PV U p') → NwE w (⟨na, nc, names, ua, uc, curs, pa, pc, pool, hor, (cn : Int), slots, stack, da, dc, days⟩ : Pg) (.returned (.tuple #[.pointer (some ⟨w2.heap.size + 1, 0, none⟩), .int .i64 0])) ((w2.alloc (Obj.cells (madeCells #[Value.int IntKind.i64 0] cn) 3)).alloc (Obj.cells #[.slice p'.na p'.names.length p'.nc, .slice p'.ua p'.curs.length p'.uc, .slice p'.pa p'.pool.length p'.pc, .int .i64 p'.hor, .int .i64 p'.cells, .int .i64 p'.slots, .int .i64 p'.stack, .slice p'.da p'.days.length p'.dc, .int .i64 ns, .int .i64 nf, .int .i64 nb, .int .i64 0, .int .i64 0, .slice (some ⟨w2.heap.size, 0, none⟩) cn cn, .slice none 0 0, .int .i64 0, .int .i64 0] 75))) (fun p' w2 hp => by
      have bw := BWH.out.trans ((drew1 W1).mono BWH.out.size)
      have a1 := allocBP w2 (Obj.cells (madeCells #[Value.int IntKind.i64 0] cn) 3)
      have a2 := allocBP (w2.alloc (Obj.cells (madeCells #[Value.int IntKind.i64 0] cn) 3)) (Obj.cells #[.slice p'.na p'.names.length p'.nc, .slice p'.ua p'.curs.length p'.uc, .slice p'.pa p'.pool.length p'.pc, .int .i64 p'.hor, .int .i64 p'.cells, .int .i64 p'.slots, .int .i64 p'.stack, .slice p'.da p'.days.length p'.dc, .int .i64 ns, .int .i64 nf, .int .i64 nb, .int .i64 0, .int .i64 0, .slice (some ⟨w2.heap.size, 0, none⟩) cn cn, .slice none 0 0, .int .i64 0, .int .i64 0] 75)
      have sz : (w2.alloc (Obj.cells (madeCells #[Value.int IntKind.i64 0] cn) 3)).heap.size = w2.heap.size + 1 := by simp
      have bm := heapN (w2.alloc (Obj.cells (madeCells #[Value.int IntKind.i64 0] cn) 3)) (Obj.cells #[.slice p'.na p'.names.length p'.nc, .slice p'.ua p'.curs.length p'.uc, .slice p'.pa p'.pool.length p'.pc, .int .i64 p'.hor, .int .i64 p'.cells, .int .i64 p'.slots, .int .i64 p'.stack, .slice p'.da p'.days.length p'.dc, .int .i64 ns, .int .i64 nf, .int .i64 nb, .int .i64 0, .int .i64 0, .slice (some ⟨w2.heap.size, 0, none⟩) cn cn, .slice none 0 0, .int .i64 0, .int .i64 0] 75)
      rw [sz] at bm
      exact MC.out W1.drew p' w2 bw hp.1 hp.2.1 hp.2.2 _ w2.heap.size (w2.heap.size + 1) (a1.trans (a2.mono a1.size)) ((OC.out w2).lat a2) (.inr (Nat.le_refl _)) (Nat.le_trans bw.size hp.2.1.size) bm (Nat.le_succ _))
    have EB := Lib.hid (p := ∀ (W : World), (W = (W1.alloc (Obj.cells (madeCells #[Value.int IntKind.i64 0] cn) 3)).drew ∨ W = W1.alloc (Obj.cells (madeCells #[Value.int IntKind.i64 0] cn) 3)) → ∀ (p' : Pg) (w2 : World), (p'.key = Pg.key (⟨na, nc, names, ua, uc, curs, pa, pc, pool, hor, (cn : Int), slots, stack, da, dc, days⟩ : Pg) ∧ Below W.heap.size W w2 ∧ ∀ U, (∀ k, W.heap.size ≤ k → k < w2.heap.size → U.heap[k]? = w2.heap[k]?) → PV U p') → NwE w (⟨na, nc, names, ua, uc, curs, pa, pc, pool, hor, (cn : Int), slots, stack, da, dc, days⟩ : Pg) (.returned (.tuple #[.pointer (some ⟨w2.heap.size, 0, none⟩), .int .i64 0])) (w2.alloc (Obj.cells #[.slice p'.na p'.names.length p'.nc, .slice p'.ua p'.curs.length p'.uc, .slice p'.pa p'.pool.length p'.pc, .int .i64 p'.hor, .int .i64 p'.cells, .int .i64 p'.slots, .int .i64 p'.stack, .slice p'.da p'.days.length p'.dc, .int .i64 ns, .int .i64 nf, .int .i64 nb, .int .i64 0, .int .i64 0, .slice (some ⟨W1.heap.size, 0, none⟩) cn cn, .slice none 0 0, .int .i64 0, .int .i64 0] 75))) (fun W hW p' w2 hp => by
      have bW : Below W1.heap.size W1 W := by
        rcases hW with rfl | rfl
        · exact adr _ _
        · exact allocBP _ _
      have ow : OwZ W 0 (.slice (some ⟨W1.heap.size, 0, none⟩) cn cn) (List.replicate cn 0) := by
        rcases hW with rfl | rfl
        · exact (OC.out W1).lat (drew1 _)
        · exact OC.out W1
      have sW : W1.heap.size < W.heap.size := by rcases hW with rfl | rfl <;> simp
      have bw := BWH.out.trans (bW.mono BWH.out.size)
      have a2 := allocBP w2 (Obj.cells #[.slice p'.na p'.names.length p'.nc, .slice p'.ua p'.curs.length p'.uc, .slice p'.pa p'.pool.length p'.pc, .int .i64 p'.hor, .int .i64 p'.cells, .int .i64 p'.slots, .int .i64 p'.stack, .slice p'.da p'.days.length p'.dc, .int .i64 ns, .int .i64 nf, .int .i64 nb, .int .i64 0, .int .i64 0, .slice (some ⟨W1.heap.size, 0, none⟩) cn cn, .slice none 0 0, .int .i64 0, .int .i64 0] 75)
      exact MC.out W p' w2 bw hp.1 hp.2.1 hp.2.2 _ W1.heap.size w2.heap.size a2 ((ow.lat hp.2.1).lat a2) (.inl sW) BWH.out.size (heapN _ _) (Nat.le_refl _))
    clear P1 Q1 BW hW1 KV PH HB0 HH MC OC
    go_region_held3 (fun w' => w'.cell? ⟨w.heap.size, 0, none⟩ = some (.slice na names.length nc) ∧ w'.cell? ⟨w.heap.size, 1, none⟩ = some (.slice ua curs.length uc) ∧ w'.cell? ⟨w.heap.size, 2, none⟩ = some (.slice pa pool.length pc) ∧ w'.cell? ⟨w.heap.size, 3, none⟩ = some (.int .i64 hor) ∧ w'.cell? ⟨w.heap.size, 4, none⟩ = some (.int .i64 (cn : Int)) ∧ w'.cell? ⟨w.heap.size, 5, none⟩ = some (.int .i64 slots) ∧ w'.cell? ⟨w.heap.size, 6, none⟩ = some (.int .i64 stack) ∧ w'.cell? ⟨w.heap.size, 7, none⟩ = some (.slice da days.length dc) ∧ w'.cell? ⟨qb, 0, none⟩ = some (.int .i64 ns) ∧ w'.cell? ⟨qb, 1, none⟩ = some (.int .i64 nf) ∧ w'.cell? ⟨qb, 2, none⟩ = some (.int .i64 nb))
      (go_keep)
      (first | (go_at_call 27; refine (CC.out _ (by first | exact BWH.out.trans ((drew1 W1).mono BWH.out.size) | exact BWH.out.trans ((adr W1 _).mono BWH.out.size) | exact BWH.out.trans ((allocBP W1 _).mono BWH.out.size))).mono ?_; rintro e w2 ⟨p', rfl, hp⟩; obtain ⟨b0, b1, b2, b3, b4, b5, b6, b7, r0, r1, r2⟩ := CL.out w2 (by first | exact hp.out.2.1 | exact (drew1 W1).trans hp.out.2.1 | exact (adr W1 _).trans (hp.out.2.1.mono (adr W1 _).size) | exact (allocBP W1 _).trans (hp.out.2.1.mono (allocBP W1 _).size)); have nw3 := World.new_ne w2 ⟨w.heap.size, 0, none⟩ b0; have nw4 := World.new_ne w2 ⟨qb, 0, none⟩ r0; simp only at nw3 nw4))
    all_goals go_wp2
    all_goals go_ret2
    all_goals first
      | exact EA.out p' w2 hp.out
      | exact EB.out _ (.inl rfl) p' w2 hp.out
      | exact EB.out _ (.inr rfl) p' w2 hp.out
  · have z : ((vfyA p).1 != 0) = true := by simpa using hv
    have FE := Lib.hid (p := ∀ w', Below w.heap.size w w' → NwE w p (.returned (.tuple #[.pointer none, .int .i64 (vfyA p).1])) w') (fun w' b => ⟨b, fun _ => rfl, fun z => absurd z hv⟩)
    unfold vfV at KV
    generalize (vfyA p).2.2.2 = nn at *
    generalize (vfyA p).2.1 = n21 at *
    generalize (vfyA p).2.2.1 = n22 at *
    generalize (vfyA p).1 = n23 at *
    unfold Pg.agg Pg.box at *
    obtain ⟨na, nc, names, ua, uc, curs, pa, pc, pool, hor, cells, slots, stack, da, dc, days⟩ := p
    simp only at *
    clear P0 B0 h hR hU hv pe
    go_enter Tryz.func12, Tryz.ntmps12
    go_wp2_with (go_at_call 26; refine KV.out.mono ?_; rintro e w1 ⟨rfl, h1⟩; have B1 := Lib.hid h1; clear h1)
    go_ret2
    exact FE.out _ ((HB0.out.trans (B1.out.mono HB0.out.size)).trans ((allocBP w1 _).mono (HB0.out.trans (B1.out.mono HB0.out.size)).size))
end Go.Proofs.YtpfjnnkjoabgbaaGreatDoor

namespace Go.Proofs.YtpfjnnkjoabgbaaGreatDoor
open Go.RowKit
set_option linter.unusedVariables false
set_option linter.unusedSimpArgs false
theorem mDo_fll (E : EvM) (i : In) (r : Rn) : (mDo E i r).2.fl.length ≤ r.fl.length + 1 := by
  unfold mDo
  split <;> try (simp [Rn.put, Rn.cut]; done)
  · split <;> simp [Rn.put]
  · split <;> simp [Rn.cut]
  · split <;> simp [Rn.cut, Rn.put]
theorem mGo_fll (E : EvM) (code : List In) : ∀ (n : Nat) (r : Rn), (mGo E code n r).2.2.fl.length ≤ r.fl.length + n
  | 0, r => by simp [mGo]
  | n + 1, r => by
    simp only [mGo]
    have q := mDo_fll E (code.getD r.nx default) { r with nx := r.nx + 1 }
    have q : (mAt E code r).2.fl.length ≤ r.fl.length + 1 := q
    split
    · simp only; omega
    · have := mGo_fll E code n (mAt E code r).2
      simp only
      omega
theorem dayCode_len {p : Pg} (h : (vfyA p).1 = 0) (t : Int) : (dayCode p.days t).length ≤ 262144 := by
  by_cases q : dayCode p.days t = []
  · rw [q]; simp
  · exact (dayOk_of h q).len
theorem dayFl_len {p : Pg} (h : (vfyA p).1 = 0) (s : Ms) (row : List Cl) : (dayFl p s row).length ≤ 262144 := by
  have := mGo_fll (p.env s row) (dayCode p.days s.today) (dayCode p.days s.today).length s.begun
  have l := dayCode_len h s.today
  have : (dayFl p s row).length ≤ (dayCode p.days s.today).length := by simpa [Ms.begun, dayFl, dayGo] using this
  omega
theorem runMs_fllM {p : Pg} {M : Nat} (h : ∀ s row, (dayFl p s row).length ≤ M) (back : Int) (a : Nat → List Cl) (s : Ms) : ∀ n, (runMs p back a n s).2.length ≤ n * M
  | 0 => by simp [runMs]
  | n + 1 => by
    have ih := runMs_fllM h back a s n
    have e : (n + 1) * M = n * M + M := Nat.succ_mul n M
    rw [e]
    have q := h (runMs p back a n s).1 (a n)
    simp only [runMs]
    split
    · exact Nat.le_trans ih (Nat.le_add_right _ _)
    · simp only [List.length_append]
      exact Nat.add_le_add ih q
theorem runMs_fll {p : Pg} (h : (vfyA p).1 = 0) (back : Int) (a : Nat → List Cl) (s : Ms) {n : Nat} (hn : n ≤ 4000) : (runMs p back a n s).2.length ≤ 1048576000 := by
  have q := runMs_fllM (M := 262144) (fun s row => dayFl_len h s row) back a s n
  exact Nat.le_trans q (Nat.le_trans (Nat.mul_le_mul_right _ hn) (by decide))
/-- 'l = append(l, more...)' of flows. -/
theorem wp_flws {ops : Array Oper} {rest : List Oper} {o : Oper} {a : Act} {Q : Exit → Act → World → Prop} (w : World) (hgd : o.guard = none) (s y : Operand)
    (ho : o.op = .call { callee := .builtin .append, args := #[s, y], argTypes := #[29, 29] }) (B C : Nat) (v u : Value) (l k : List Fl) (hs : a.eval s = v) (hy : a.eval y = u)
    (hv : OwF w B v l) (hu : OwF w C u k) (hl : l.length + k.length ≤ 4000000000000) (hb : B ≤ w.heap.size)
    (h : ∀ a' n' c' w', OwF w' B (.slice a' n' c') (l ++ k) → w.grownBy w' v.ownBlock → wpList Tryz.prog ops Q rest (a.put o.dst (.slice a' n' c')) w') : wpList Tryz.prog ops Q (o :: rest) a w := by
  obtain ⟨i0, hi, hz0, hz1, hz2⟩ := info_parts infoFo
  have one : ∀ x ∈ focs k, x.oneCell' = true := by
    intro x hx
    unfold focs at hx
    obtain ⟨f, _, hx⟩ := List.mem_flatMap.1 hx
    simp [fo3] at hx
    rcases hx with rfl | rfl | rfl <;> rfl
  rcases hu.2 with ⟨rfl, h0⟩ | ⟨g, cap, cur, rfl, e2, e3, e4, e5, e6, e7⟩
  · have : k = [] := List.length_eq_zero_iff.1 h0
    subst this
    obtain ⟨a', c', rfl⟩ := own_form hv
    refine wpList_append_own_none hgd s y 29 ho B 54 i0 3 Tryz.underlying29 hi (.slice a' l.length c') l.length (focs l) hs hv hy ?_
    exact h a' l.length c' w (by rw [List.append_nil]; exact hv) ⟨rfl, rfl, rfl, Nat.le_refl _, fun _ _ _ => rfl⟩
  · refine wpList_append_own _ hgd s y 29 ho B 54 i0 (.agg #[.int .i64 0, .string ⟨#[]⟩, .int .i64 0]) 3 32 Tryz.underlying29 hi hz0 hz1 hz2 rfl (by decide) v _ _ hs hv ⟨g, 0, none⟩ k.length cap (focs k) hy (focs_len k) ?_ one (by unfold maxLen; omega) (by omega) hb ?_
    · intro j x hj
      have hj' : j < k.length * 3 := by rw [← focs_len]; exact (List.getElem?_eq_some_iff.1 hj).1
      rw [Addr.add_lit, Nat.zero_add]
      simp only [World.cell?, e3]
      rw [← e7, List.getElem?_take_of_lt hj'] at hj
      simpa using hj
    · intro v' w' h1 h2 _
      obtain ⟨a', c', rfl⟩ := own_form h1
      have e : l.length + k.length = (l ++ k).length := by simp
      have q : OwF w' B (.slice a' (l ++ k).length c') (l ++ k) := by
        unfold OwF
        rw [focs_append, ← e]
        exact h1
      rw [e]
      exact h a' _ c' w' q h2
/-- The row of a day, as Run takes it. -/
def rowsF (rs : List Rw) (d : Nat) : List Cl := (rs.getD d default).cs
/-- What Run answers. -/
structure RnE (w : World) (p : Pg) (rows : Nat → List Cl) (e : Ending) (w' : World) : Prop where
  bel : Below w.heap.size w w'
  bad : (vfyA p).1 ≠ 0 → e = .returned (.tuple #[.agg #[.slice none 0 0, .int .i64 0, .int .i64 0], .int .i64 (vfyA p).1])
  ok : (vfyA p).1 = 0 → ∃ fa fn fc, e = .returned (.tuple #[.agg #[.slice fa fn fc, .int .i64 (runMs p (vfyA p).2.2.2.back rows (p.hor + 1).toNat p.born).1.fault, .int .i64 (runMs p (vfyA p).2.2.2.back rows (p.hor + 1).toNat p.born).1.day], .int .i64 0]) ∧ OwF w' w.heap.size (.slice fa fn fc) (runMs p (vfyA p).2.2.2.back rows (p.hor + 1).toNat p.born).2
/-- A run that is going on: behind d days. -/
structure RnI (w : World) (N mb ob : Nat) (p' : Pg) (cev : Value) (D : Nat → Prop) (rows : Nat → List Cl) (d : Nat) (fa : Option Addr) (fn fc : Nat) (W : World) : Prop where
  bel : Below w.heap.size w W
  mc : ∃ pav, McV D W mb p' (vfyA p').2.2.2 cev pav (runMs p' (vfyA p').2.2.2.back rows d p'.born).1 ∧ ∀ g, pav.ownBlock = some g → w.heap.size ≤ g
  zb : BkP W (w.heap.size + 1) #[.slice none 0 0, .int .i64 0, .int .i64 0] 32
  obx : BkP W ob #[.slice fa fn fc, .int .i64 0, .int .i64 0] 32
  fl : OwF W N (.slice fa fn fc) (runMs p' (vfyA p').2.2.2.back rows d p'.born).2
  gm : w.heap.size ≤ mb
  gc : ∀ g, cev.ownBlock = some g → w.heap.size ≤ g
  gd : ∀ k, D k → k < N
  go : N ≤ ob ∧ w.heap.size + 1 < ob ∧ w.heap.size ≤ N ∧ N ≤ W.heap.size
section
variable {w : World} {N mb ob : Nat} {p' : Pg} {cev : Value} {D : Nat → Prop} {rows : Nat → List Cl} {d : Nat} {fa : Option Addr} {fn fc : Nat} {W : World}
theorem RnI.lat {W' : World} (h : RnI w N mb ob p' cev D rows d fa fn fc W) (b : Below W.heap.size W W') : RnI w N mb ob p' cev D rows d fa fn fc W' := by
  obtain ⟨pav, m, q⟩ := h.mc
  exact ⟨h.bel.trans (b.mono h.bel.size), ⟨pav, m.lat b, q⟩, h.zb.lat b, h.obx.lat b, own_blkG h.fl (fun g hg => b.block g (World.ownsRow.lt h.fl g hg).2), h.gm, h.gc, h.gd, ⟨h.go.1, h.go.2.1, h.go.2.2.1, Nat.le_trans h.go.2.2.2 b.size⟩⟩
end
end Go.Proofs.YtpfjnnkjoabgbaaGreatDoor

namespace Go.Proofs.YtpfjnnkjoabgbaaGreatDoor
open Go.RowKit
set_option linter.unusedVariables false
set_option linter.unusedSimpArgs false
section
variable {w : World} {N mb ob : Nat} {p' : Pg} {cev : Value} {D : Nat → Prop} {rows : Nat → List Cl} {d : Nat} {fa : Option Addr} {fn fc : Nat} {W : World}
/-- Behind a day, ahead of the append. -/
structure RnD (w : World) (N mb ob : Nat) (p' : Pg) (cev : Value) (D : Nat → Prop) (rows : Nat → List Cl) (d : Nat) (fa : Option Addr) (fn fc : Nat) (flv : Value) (W : World) : Prop where
  bel : Below w.heap.size w W
  mc : ∃ pav, McV D W mb p' (vfyA p').2.2.2 cev pav (runMs p' (vfyA p').2.2.2.back rows (d + 1) p'.born).1 ∧ ∀ g, pav.ownBlock = some g → w.heap.size ≤ g
  zb : BkP W (w.heap.size + 1) #[.slice none 0 0, .int .i64 0, .int .i64 0] 32
  obx : BkP W ob #[.slice fa fn fc, .int .i64 0, .int .i64 0] 32
  fl : OwF W N (.slice fa fn fc) (runMs p' (vfyA p').2.2.2.back rows d p'.born).2
  nf : OwF W 0 flv (dayFl p' (runMs p' (vfyA p').2.2.2.back rows d p'.born).1 (rows d))
  ne : Value.ownBlock (.slice fa fn fc) = none ∨ Value.ownBlock (.slice fa fn fc) ≠ flv.ownBlock
  gm : w.heap.size ≤ mb
  gc : ∀ g, cev.ownBlock = some g → w.heap.size ≤ g
  gd : ∀ k, D k → k < N
  go : N ≤ ob ∧ w.heap.size + 1 < ob ∧ w.heap.size ≤ N ∧ N ≤ W.heap.size
theorem keep_ty {S : Nat → Prop} {A V : World} (k : Kp A V S) {x : Nat} {cur : Array Value} {t : TypeId} {fr : Nat × Nat} (e : A.heap[x]? = some (.cells cur t fr)) (hS : ∀ y, S y → ∃ c u f, A.heap[y]? = some (.cells c u f) ∧ u ≠ t) : V.heap[x]? = A.heap[x]? := by
  refine k.blk x (Array.getElem?_eq_some_iff.1 e).1 (fun z => ?_)
  obtain ⟨c, u, f, e2, ne⟩ := hS x z
  have := e.symm.trans e2
  injection this with this
  injection this with _ q
  exact ne q.symm
theorem RnI.day (h : RnI w N mb ob p' cev D rows d fa fn fc W) {pav : Value} (m : McV D W mb p' (vfyA p').2.2.2 cev pav (runMs p' (vfyA p').2.2.2.back rows d p'.born).1) (gp : ∀ g, pav.ownBlock = some g → w.heap.size ≤ g) (no : ¬ (runMs p' (vfyA p').2.2.2.back rows d p'.born).1.over p'.hor) {e : Ending} {W' : World} (dy : DyE D W mb p' (vfyA p').2.2.2 cev pav (runMs p' (vfyA p').2.2.2.back rows d p'.born).1 (rows d) e W') : ∃ flv f, e = .returned (.tuple #[flv, .int .i64 f, .int .i64 0]) ∧ RnD w N mb ob p' cev D rows d fa fn fc flv W' := by
  obtain ⟨kp, flv, pav', rfl, m', fl', g'⟩ := dy
  have ty : ∀ y, turnS mb cev pav y → ∃ c u f, W.heap[y]? = some (.cells c u f) ∧ (u = 75 ∨ u = 3 ∨ u = 47) := fun y hy => m.turn hy
  have ne : ∀ t, t ≠ 75 → t ≠ 3 → t ≠ 47 → ∀ y, turnS mb cev pav y → ∃ c u f, W.heap[y]? = some (.cells c u f) ∧ u ≠ t := by
    intro t t1 t2 t3 y hy
    obtain ⟨c, u, f, e, q⟩ := ty y hy
    refine ⟨c, u, f, e, ?_⟩
    rcases q with rfl | rfl | rfl
    · exact Ne.symm t1
    · exact Ne.symm t2
    · exact Ne.symm t3
  have bW : Below w.heap.size W W' := kp.bel (fun k hk => by
    rcases hk with rfl | hk | hk
    · exact h.gm
    · exact h.gc k hk
    · exact gp k hk) h.bel.size
  have st : (runMs p' (vfyA p').2.2.2.back rows (d + 1) p'.born).1 = dayMs p' (vfyA p').2.2.2.back (runMs p' (vfyA p').2.2.2.back rows d p'.born).1 (rows d) := by
    simp only [runMs]
    rw [if_neg no]
  refine ⟨flv, _, rfl, ⟨h.bel.trans bW, ⟨pav', by rw [st]; exact m', fun g hg => ?_⟩, (keep_ty kp h.zb (ne _ (by decide) (by decide) (by decide))).trans h.zb, (keep_ty kp h.obx (ne _ (by decide) (by decide) (by decide))).trans h.obx, own_blkG h.fl (fun g hg => ?_), ownsRow_base fl' (Nat.zero_le _), ?_, h.gm, h.gc, h.gd, ⟨h.go.1, h.go.2.1, h.go.2.2.1, Nat.le_trans h.go.2.2.2 kp.size⟩⟩⟩
  · rcases g' g hg with q | q
    · exact gp g q
    · have := h.bel.size; omega
  · rcases h.fl.2 with ⟨z, _⟩ | ⟨g2, cap, cur, z, _, e3, _⟩
    · rw [z] at hg; cases hg
    · rw [z] at hg
      simp only [Value.ownBlock, Option.some.injEq] at hg
      subst hg
      exact keep_ty kp e3 (ne _ (by decide) (by decide) (by decide))
  · cases e1 : Value.ownBlock (.slice fa fn fc) with
    | none => exact .inl rfl
    | some x =>
      right
      intro z
      have a := (World.ownsRow.lt h.fl x e1).2
      have b := (World.ownsRow.lt fl' x z.symm).1
      omega
theorem RnD.next {flv : Value} (h : RnD w N mb ob p' cev D rows d fa fn fc flv W) (no : ¬ (runMs p' (vfyA p').2.2.2.back rows d p'.born).1.over p'.hor) {W' : World} {fa' : Option Addr} {fn' fc' : Nat} (g : W.grownBy W' (Value.ownBlock (.slice fa fn fc))) (o : OwF W' N (.slice fa' fn' fc') ((runMs p' (vfyA p').2.2.2.back rows d p'.born).2 ++ dayFl p' (runMs p' (vfyA p').2.2.2.back rows d p'.born).1 (rows d))) : W'.cell? ⟨ob, 0, none⟩ = some (.slice fa fn fc) ∧ W'.frozen? ⟨ob, 0, none⟩ = false ∧ RnI w N mb ob p' cev D rows (d + 1) fa' fn' fc' (W'.setCell ⟨ob, 0, none⟩ (.slice fa' fn' fc')) := by
  obtain ⟨pav, m, gp⟩ := h.mc
  have lt : ∀ {x : Nat} {oo : Obj}, W.heap[x]? = some oo → x < W.heap.size := fun e => (Array.getElem?_eq_some_iff.1 e).1
  have fb : ∀ x, Value.ownBlock (.slice fa fn fc) = some x → N ≤ x ∧ ∃ cur fr, W.heap[x]? = some (.cells cur 54 fr) := by
    intro x hx
    refine ⟨(World.ownsRow.lt h.fl x hx).1, ?_⟩
    rcases h.fl.2 with ⟨z, _⟩ | ⟨g2, cap, cur, z, _, e3, _⟩
    · rw [z] at hx; cases hx
    · rw [z] at hx
      simp only [Value.ownBlock, Option.some.injEq] at hx
      subst hx
      exact ⟨cur, _, e3⟩
  have kp : Kp W W' (fun k => Value.ownBlock (.slice fa fn fc) = some k) := ⟨g.os, g.tape, g.output, g.size, fun k hk hn => g.block k hk (fun z => hn z.symm)⟩
  have nt : ∀ t, t ≠ 54 → ∀ y, Value.ownBlock (.slice fa fn fc) = some y → ∃ c u f, W.heap[y]? = some (.cells c u f) ∧ u ≠ t := by
    intro t ht y hy
    obtain ⟨_, cur, fr, e⟩ := fb y hy
    exact ⟨cur, _, fr, e, Ne.symm ht⟩
  have ob' : BkP W' ob #[.slice fa fn fc, .int .i64 0, .int .i64 0] 32 := (keep_ty kp h.obx (nt _ (by decide))).trans h.obx
  have zb' : BkP W' (w.heap.size + 1) #[.slice none 0 0, .int .i64 0, .int .i64 0] 32 := (keep_ty kp h.zb (nt _ (by decide))).trans h.zb
  have st : (runMs p' (vfyA p').2.2.2.back rows (d + 1) p'.born).2 = (runMs p' (vfyA p').2.2.2.back rows d p'.born).2 ++ dayFl p' (runMs p' (vfyA p').2.2.2.back rows d p'.born).1 (rows d) := by
    simp only [runMs]
    rw [if_neg no]
  have bW : Below w.heap.size W W' := kp.bel (fun k hk => Nat.le_trans h.go.2.2.1 (fb k hk).1) h.bel.size
  have m1 : McV D W' mb p' (vfyA p').2.2.2 cev pav (runMs p' (vfyA p').2.2.2.back rows (d + 1) p'.born).1 := by
    refine m.keep kp (fun x hx => ?_)
    obtain ⟨gx, cur, fr, e⟩ := fb x hx
    refine ⟨fun z => ?_, fun z => ?_, fun c f z => ?_⟩
    · have := h.gd x z; omega
    · obtain ⟨c, u, f, e2, q⟩ := m.turn z
      have := e.symm.trans e2
      injection this with this
      injection this with _ q2
      rcases q with q | q | q <;> (rw [q] at q2; exact absurd q2 (by decide))
    · have := e.symm.trans z
      injection this with this
      injection this with _ q2
      exact absurd q2 (by decide)
  have kb : Kp W' (W'.setCell ⟨ob, 0, none⟩ (.slice fa' fn' fc')) (fun k => k = ob) := ⟨rfl, rfl, rfl, by rw [set_size]; exact Nat.le_refl _, fun k hk hn => bk_block hn⟩
  have m2 : McV D (W'.setCell ⟨ob, 0, none⟩ (.slice fa' fn' fc')) mb p' (vfyA p').2.2.2 cev pav (runMs p' (vfyA p').2.2.2.back rows (d + 1) p'.born).1 := by
    refine m1.keep kb ?_
    rintro x rfl
    refine ⟨fun z => ?_, fun z => ?_, fun c f z => ?_⟩
    · have := h.gd x z; have := h.go.1; omega
    · obtain ⟨c, u, f, e2, q⟩ := m1.turn z
      have := ob'.symm.trans e2
      injection this with this
      injection this with _ q2
      rcases q with q | q | q <;> (rw [q] at q2; exact absurd q2 (by decide))
    · have := ob'.symm.trans z
      injection this with this
      injection this with _ q2
      exact absurd q2 (by decide)
  have o1 := ob'.set2 0 (.slice fa' fn' fc') (by simp)
  refine ⟨by rw [ob'.cell]; rfl, ob'.frozen 0, ⟨(h.bel.trans bW).setCell (by exact (by have := h.go.2.1; omega : w.heap.size ≤ ob)) _, ⟨pav, m2, gp⟩, zb'.other _ _ _ (by have := h.go.2.1; omega), by simpa using o1, ?_, h.gm, h.gc, h.gd, ⟨h.go.1, h.go.2.1, h.go.2.2.1, by rw [set_size]; exact Nat.le_trans h.go.2.2.2 kp.size⟩⟩⟩
  rw [st]
  exact own_blkG o (fun g hg => bk_block (fun z => own_neB o ob' (by decide) (by rw [hg, z])))
end
end Go.Proofs.YtpfjnnkjoabgbaaGreatDoor
