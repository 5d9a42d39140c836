import Derived.Test.YtpfjnnkjoabgbaaGreatDoorXBS
namespace Go.Proofs.YtpfjnnkjoabgbaaGreatDoor
open Go.RowKit
set_option linter.unusedVariables false
set_option linter.unusedSimpArgs false
/-- What the law hands to Run, and what comes. -/
structure RoE2 (w : World) (p : Pg) (rows : Nat → List Cl) (fa : Option Addr) (fn fc : Nat) (W : World) : Prop where
  fl : FLm W fa fn (runMs p (vfyA p).2.2.2.back rows (p.hor + 1).toNat p.born).2
  bel : Below w.heap.size w W
theorem run_owned {w V : World} {p : Pg} (hv : (vfyA p).1 = 0) (h : PV w p) (hR : Rws w) (hU : Rul w) (b : Below w.heap.size w V) : Calls Tryz.prog 11 #[p.agg] V fun e w' => ∃ p' : Pg, e = .returned (.agg #[.slice p'.na p'.names.length p'.nc, .slice p'.ua p'.curs.length p'.uc, .slice p'.pa p'.pool.length p'.pc, .int .i64 p'.hor, .int .i64 p'.cells, .int .i64 p'.slots, .int .i64 p'.stack, .slice p'.da p'.days.length p'.dc]) ∧ RowKit.Hid (Below V.heap.size V w' ∧ ∀ U, Below w'.heap.size w' U → ∀ ra rn rc rs, RL U ra rn rs → Calls Tryz.prog 10 #[.agg #[.slice p'.na p'.names.length p'.nc, .slice p'.ua p'.curs.length p'.uc, .slice p'.pa p'.pool.length p'.pc, .int .i64 p'.hor, .int .i64 p'.cells, .int .i64 p'.slots, .int .i64 p'.stack, .slice p'.da p'.days.length p'.dc], .slice ra rn rc] U fun e w2 => ∃ fa fn fc, e = .returned (.tuple #[.agg #[.slice fa fn fc, .int .i64 (runMs p (vfyA p).2.2.2.back (rowsF rs) (p.hor + 1).toNat p.born).1.fault, .int .i64 (runMs p (vfyA p).2.2.2.back (rowsF rs) (p.hor + 1).toNat p.born).1.day], .int .i64 0]) ∧ RowKit.Hid (FLm w2 fa fn (runMs p (vfyA p).2.2.2.back (rowsF rs) (p.hor + 1).toNat p.born).2 ∧ Below U.heap.size U w2)) := by
  refine (owned_any (h.later b)).mono ?_
  rintro e w' ⟨p', rfl, hk, hb, hp⟩
  refine ⟨p', rfl, hb, fun U bU ra rn rc rs hr => ?_⟩
  have b' := b.trans (hb.mono b.size)
  have b2 := b'.trans (bU.mono b'.size)
  have hpU : PV U p' := hp U (fun k _ hk2 => bU.block k hk2)
  refine (run_any (rc := rc) hpU (hR.below b2) (hU.lat b2) hr).mono ?_
  intro e w2 q
  have ev := vfyA_keyM hk
  have eb := born_keyM hk
  have eh : p'.hor = p.hor := congrArg (fun k => k.2.2.2.1) hk
  obtain ⟨fa, fn, fc, rfl, o⟩ := q.ok (by rw [ev]; exact hv)
  have er : runMs p' (vfyA p').2.2.2.back (rowsF rs) (p'.hor + 1).toNat p'.born = runMs p (vfyA p).2.2.2.back (rowsF rs) (p.hor + 1).toNat p.born := by
    rw [ev, eb, eh]
    exact runMs_keyM hk _ _ _ _
  rw [er] at o ⊢
  exact ⟨fa, fn, fc, rfl, owf_fl o, q.bel⟩
theorem she_two (day : Int) (s : Ms) : (if s.fault ≠ 0 ∧ s.day ≤ day then s.fault else 0) = (shE day s).1 ∧ (if s.fault ≠ 0 ∧ s.day ≤ day then s.day else 0) = (shE day s).2 := by
  unfold shE
  split <;> exact ⟨rfl, rfl⟩
set_option maxRecDepth 100000 in
set_option maxHeartbeats 6400000 in
theorem machineBlind_any {w : World} {p : Pg} (h : PV w p) (hR : Rws w) (hU : Rul w) {ra : Option Addr} {rn rc : Nat} {rs : List Rw} (hr : RL w ra rn rs) {oa : Option Addr} {on oc : Nat} {os : List Rw} (ho : RL w oa on os) (day : Int) : Calls Tryz.prog 4 #[p.agg, .slice ra rn rc, .slice oa on oc, .int .i64 day] w fun e w' => e = .returned (.bool true) ∧ Below w.heap.size w w' := by
  obtain ⟨W0, hW0⟩ : ∃ W, w.alloc p.box = W := ⟨_, rfl⟩
  have B0 : Below w.heap.size w W0 := by rw [← hW0]; exact allocBP w p.box
  have P0 : BkP W0 w.heap.size #[.slice p.na p.names.length p.nc, .slice p.ua p.curs.length p.uc, .slice p.pa p.pool.length p.pc, .int .i64 p.hor, .int .i64 p.cells, .int .i64 p.slots, .int .i64 p.stack, .slice p.da p.days.length p.dc] 26 := by rw [← hW0]; exact heapN w p.box
  have KP := Lib.hid (plain15_any (hR.below B0) (hU.lat B0))
  have CL := Lib.hid (p := ∀ V, Below W0.heap.size W0 V → (V.cell? ⟨w.heap.size, 0, none⟩ = some (.slice p.na p.names.length p.nc) ∧ V.cell? ⟨w.heap.size, 1, none⟩ = some (.slice p.ua p.curs.length p.uc) ∧ V.cell? ⟨w.heap.size, 2, none⟩ = some (.slice p.pa p.pool.length p.pc) ∧ V.cell? ⟨w.heap.size, 3, none⟩ = some (.int .i64 p.hor) ∧ V.cell? ⟨w.heap.size, 4, none⟩ = some (.int .i64 p.cells) ∧ V.cell? ⟨w.heap.size, 5, none⟩ = some (.int .i64 p.slots) ∧ V.cell? ⟨w.heap.size, 6, none⟩ = some (.int .i64 p.stack) ∧ V.cell? ⟨w.heap.size, 7, none⟩ = some (.slice p.da p.days.length p.dc)) ∧ Below w.heap.size w V) (fun V b => ⟨box_all8 (P0.lat b), B0.trans (b.mono B0.size)⟩)
  have KT := Lib.hid (fun V (b : Below W0.heap.size W0 V) => taken_any (h.later (B0.trans (b.mono B0.size))) (hR.below (B0.trans (b.mono B0.size))) (hU.lat (B0.trans (b.mono B0.size))))
  have HW := Lib.hid hW0
  have nr := hr.2.1
  have no := ho.2.1
  by_cases hv : (vfyA p).1 = 0
  · have KO := Lib.hid (fun V (b : Below W0.heap.size W0 V) => run_owned hv h hR hU (B0.trans (b.mono B0.size)))
    have KA := Lib.hid (fun V (b : Below W0.heap.size W0 V) (d : Int) => at_any (rc := rc) (hr.later (B0.trans (b.mono B0.size))) (by omega) d)
    have KB := Lib.hid (fun V (b : Below W0.heap.size W0 V) (d : Int) => at_any (rc := oc) (ho.later (B0.trans (b.mono B0.size))) (by omega) d)
    have RR := Lib.hid (p := ∀ V, Below W0.heap.size W0 V → RL V ra rn rs) (fun V b => hr.later (B0.trans (b.mono B0.size)))
    have rl1 := hr.1
    have ol1 := ho.1
    have hor5 := (nds_of hv).2.2.2.2.1
    have FL := Lib.hid (fun (a : Nat → List Cl) => runMs_fll hv (vfyA p).2.2.2.back a p.born (n := (p.hor + 1).toNat) (by omega))
    have SA := Lib.hid (p := ∀ a b : Nat → List Cl, (∀ d : Nat, (d : Int) ≤ day → a d = b d) → shF day (runMs p (vfyA p).2.2.2.back a (p.hor + 1).toNat p.born).2 = shF day (runMs p (vfyA p).2.2.2.back b (p.hor + 1).toNat p.born).2 ∧ shE day (runMs p (vfyA p).2.2.2.back a (p.hor + 1).toNat p.born).1 = shE day (runMs p (vfyA p).2.2.2.back b (p.hor + 1).toNat p.born).1) (fun a b q => shown_same q _)
    have KT1 := Lib.hid (p := ∀ V, Below W0.heap.size W0 V → Calls Tryz.prog 13 #[p.agg] V fun e w' => ∃ x y z, e = .returned (.tuple #[.agg #[.int .i64 x, .int .i64 y, .int .i64 z], .bool true]) ∧ Below V.heap.size V w') (fun V b => (KT.out V b).mono (fun e w' q => by obtain ⟨rfl, q2⟩ := q; rw [decide_eq_true hv]; exact ⟨_, _, _, rfl, q2⟩))
    clear KT hr ho h hR hU B0 P0 hW0
    generalize hM : (fun (a : Nat → List Cl) => runMs p (vfyA p).2.2.2.back a (p.hor + 1).toNat p.born) = M at *
    have KO2 := Lib.hid (p := ∀ V, Below W0.heap.size W0 V → Calls Tryz.prog 11 #[p.agg] V fun e w' => ∃ p' : Pg, e = .returned (.agg #[.slice p'.na p'.names.length p'.nc, .slice p'.ua p'.curs.length p'.uc, .slice p'.pa p'.pool.length p'.pc, .int .i64 p'.hor, .int .i64 p'.cells, .int .i64 p'.slots, .int .i64 p'.stack, .slice p'.da p'.days.length p'.dc]) ∧ RowKit.Hid (Below V.heap.size V w' ∧ ∀ U, Below w'.heap.size w' U → ∀ ra rn rc rs, RL U ra rn rs → Calls Tryz.prog 10 #[.agg #[.slice p'.na p'.names.length p'.nc, .slice p'.ua p'.curs.length p'.uc, .slice p'.pa p'.pool.length p'.pc, .int .i64 p'.hor, .int .i64 p'.cells, .int .i64 p'.slots, .int .i64 p'.stack, .slice p'.da p'.days.length p'.dc], .slice ra rn rc] U fun e w2 => ∃ fa fn fc, e = .returned (.tuple #[.agg #[.slice fa fn fc, .int .i64 (M (rowsF rs)).1.fault, .int .i64 (M (rowsF rs)).1.day], .int .i64 0]) ∧ RowKit.Hid (FLm w2 fa fn (M (rowsF rs)).2 ∧ Below U.heap.size U w2))) (by rw [← hM]; exact KO.out)
    have FL2 := Lib.hid (p := ∀ a, (M a).2.length ≤ 1048576000) (by rw [← hM]; exact FL.out)
    have SA2 := Lib.hid (p := ∀ a b : Nat → List Cl, (∀ d : Nat, (d : Int) ≤ day → a d = b d) → shF day (M a).2 = shF day (M b).2 ∧ shE day (M a).1 = shE day (M b).1) (by rw [← hM]; exact SA.out)
    clear KO FL SA hM hv hor5
    unfold Pg.agg Pg.box at *
    obtain ⟨na, nc, names, ua, uc, curs, pa, pc, pool, hor, cells, slots, stack, da, dc, days⟩ := p
    simp only at *
    go_enter Tryz.func4, Tryz.ntmps4
    go_wp2_with fail
    go_at_call 9
    rw [HW.out]
    refine KP.out.mono ?_
    rintro e w1 ⟨rfl, b1⟩
    obtain ⟨⟨a0, a1, a2, a3, a4, a5, a6, a7⟩, _⟩ := CL.out w1 b1
    go_wp2_with fail
    go_at_call 13
    refine (KT1.out w1 b1).mono ?_
    rintro e w2 ⟨tx, ty, tz, rfl, b2⟩
    have b12 := b1.trans (b2.mono b1.size)
    obtain ⟨W3, hW3⟩ : ∃ W, w2.alloc (.cells #[.int .i64 tx, .int .i64 ty, .int .i64 tz] 41) = W := ⟨_, rfl⟩
    have B3 := Lib.hid (p := Below W0.heap.size W0 W3) (by rw [← hW3]; exact b12.trans ((allocBP w2 _).mono b12.size))
    have H3 := Lib.hid hW3
    clear a0 a1 a2 a3 a4 a5 a6 a7 b1 b2 b12 hW3 KP KT1
    go_upto_region 3 with fail
    rw [H3.out]
    go_wp2
    have M0 := Lib.hid (p := MxS W3 [] none 0 0 W3) ⟨Below.refl _ _, World.ownsRow_nil _ _ _ _, rfl, by simp⟩
    go_loopw [12, 13] (fun mm t wr => ∃ (k : Nat) (ma : Option Addr) (mc : Nat) (ms : List Rw), mm = .slice ma k mc ∧ t = .int .i64 (k : Int) ∧ k ≤ max rn on ∧ RowKit.Hid (MxS W3 ms ma k mc wr ∧ ∀ i, i < k → (ms.getD i default).cs = if (i : Int) ≤ day then rowsF rs i else rowsF os i)) (fun _ t _ => max rn on - (intOf t).toNat)
    case atStart => exact ⟨0, none, 0, [], rfl, rfl, by omega, ⟨M0.out, fun i hi => by omega⟩⟩
    case round =>
      clear M0
      rename World => wr
      obtain ⟨k, ma, mc, ms, rfl, rfl, hk, hH⟩ := hrel
      obtain ⟨m, hc⟩ := hH.out
      have BW := Lib.hid (p := Below W0.heap.size W0 wr) (B3.out.trans (m.bel.mono B3.out.size))
      by_cases hlt : k < max rn on
      · have ks : IntKind.i64.wrap ((k : Int) + 1) = (k : Int) + 1 := by simp [IntKind.wrap, IntKind.bits, IntKind.signed]; omega
        have k9 : (0 : Int) ≤ (k : Int) := by omega
        have NX := Lib.hid (p := ∀ w5 a5 n5 c5 row, Below wr.heap.size wr w5 → RwOk w5 ⟨a5, n5, c5, row⟩ → row = (if (k : Int) ≤ day then rowsF rs k else rowsF os k) → ∃ ma2 mc2 w6, (∀ ty, (Builtin.append_ #[27, 27] ty #[.slice ma k mc, .slice (some ⟨w5.heap.size, 0, none⟩) 1 1]).run Tryz.prog (w5.alloc (.cells #[.slice a5 n5 c5] 47)) = .ok (.slice ma2 (k + 1) mc2) w6) ∧ RowKit.Hid (MxS W3 (ms ++ [⟨a5, n5, c5, row⟩]) ma2 (k + 1) mc2 w6 ∧ ∀ i, i < k + 1 → ((ms ++ [(⟨a5, n5, c5, row⟩ : Rw)]).getD i default).cs = if (i : Int) ≤ day then rowsF rs i else rowsF os i)) (fun w5 a5 n5 c5 row b5 ok er => by
          obtain ⟨ma2, mc2, w6, r6, x6⟩ := (m.lat b5).next (by omega) ok
          refine ⟨ma2, mc2, w6, r6, x6.out.1, fun i hi => ?_⟩
          by_cases z : i = k
          · subst z
            have : (ms ++ [(⟨a5, n5, c5, row⟩ : Rw)]).getD i default = ⟨a5, n5, c5, row⟩ := by
              have e := m.len
              subst e
              exact getD_snoc_eq
            rw [this]
            exact er
          · rw [getD_snoc_lt (by rw [m.len]; omega)]
            exact hc i (by omega))
        by_cases c1 : k < rn
        · have d1 : (k : Int) < (rn : Int) := by omega
          have d2 : decide ((k : Int) < (rn : Int)) = true := by simp; omega
          have d3 : decide (k < rn) = true := by simp; omega
          by_cases c2 : (k : Int) ≤ day
          · have d4 : decide ((k : Int) ≤ day) = true := by simpa using c2
            have ER := Lib.hid (p := rowsF rs k = (if (k : Int) ≤ day then rowsF rs k else rowsF os k)) (by rw [if_pos c2])
            clear hH m hc
            go_wp2_with (first
              | (go_at_call 17; refine (KA.out wr BW.out (k : Int)).mono ?_; intro e w5 hq; obtain ⟨b5, a5, n5, c5, rfl, q1, q2, q3, q4, q5⟩ := hq; rw [if_pos k9, Int.toNat_natCast] at q1 q5; obtain ⟨ma6, mc6, w6, r6, x6⟩ := NX.out w5 a5 n5 c5 _ b5 ⟨q5, q1.1, q1.2.1, q1.2.2.1, q2, q3, q4⟩ ER.out; have R6 := Lib.hid r6; clear b5 q1 q2 q3 q4 q5 r6)
              | (at_builtin; refine wp_app_run rfl _ _ 27 rfl _ _ _ w6 rfl rfl R6.out ?_))
            refine ⟨⟨k + 1, ma6, mc6, _, rfl, by simp, by omega, x6⟩, ?_⟩
            simp [intOf]
            omega

          · have d4 : decide ((k : Int) ≤ day) = false := by simpa using c2
            have ER := Lib.hid (p := rowsF os k = (if (k : Int) ≤ day then rowsF rs k else rowsF os k)) (by rw [if_neg c2])
            clear hH m hc
            go_wp2_with (first
              | (go_at_call 17; refine (KB.out wr BW.out (k : Int)).mono ?_; intro e w5 hq; obtain ⟨b5, a5, n5, c5, rfl, q1, q2, q3, q4, q5⟩ := hq; rw [if_pos k9, Int.toNat_natCast] at q1 q5; obtain ⟨ma6, mc6, w6, r6, x6⟩ := NX.out w5 a5 n5 c5 _ b5 ⟨q5, q1.1, q1.2.1, q1.2.2.1, q2, q3, q4⟩ ER.out; have R6 := Lib.hid r6; clear b5 q1 q2 q3 q4 q5 r6)
              | (at_builtin; refine wp_app_run rfl _ _ 27 rfl _ _ _ w6 rfl rfl R6.out ?_))
            refine ⟨⟨k + 1, ma6, mc6, _, rfl, by simp, by omega, x6⟩, ?_⟩
            simp [intOf]
            omega

        · have d1 : ¬ (k : Int) < (rn : Int) := by omega
          have d2 : decide ((k : Int) < (rn : Int)) = false := by simp; omega
          have d3 : decide (k < rn) = false := by simp; omega
          have d5 : (k : Int) < (on : Int) := by omega
          by_cases c2 : (k : Int) ≤ day
          · have d4 : decide ((k : Int) ≤ day) = true := by simpa using c2
            have ER := Lib.hid (p := rowsF rs k = (if (k : Int) ≤ day then rowsF rs k else rowsF os k)) (by rw [if_pos c2])
            clear hH m hc
            go_wp2_with (first
              | (go_at_call 17; refine (KA.out wr BW.out (k : Int)).mono ?_; intro e w5 hq; obtain ⟨b5, a5, n5, c5, rfl, q1, q2, q3, q4, q5⟩ := hq; rw [if_pos k9, Int.toNat_natCast] at q1 q5; obtain ⟨ma6, mc6, w6, r6, x6⟩ := NX.out w5 a5 n5 c5 _ b5 ⟨q5, q1.1, q1.2.1, q1.2.2.1, q2, q3, q4⟩ ER.out; have R6 := Lib.hid r6; clear b5 q1 q2 q3 q4 q5 r6)
              | (at_builtin; refine wp_app_run rfl _ _ 27 rfl _ _ _ w6 rfl rfl R6.out ?_))
            refine ⟨⟨k + 1, ma6, mc6, _, rfl, by simp, by omega, x6⟩, ?_⟩
            simp [intOf]
            omega

          · have d4 : decide ((k : Int) ≤ day) = false := by simpa using c2
            have ER := Lib.hid (p := rowsF os k = (if (k : Int) ≤ day then rowsF rs k else rowsF os k)) (by rw [if_neg c2])
            clear hH m hc
            go_wp2_with (first
              | (go_at_call 17; refine (KB.out wr BW.out (k : Int)).mono ?_; intro e w5 hq; obtain ⟨b5, a5, n5, c5, rfl, q1, q2, q3, q4, q5⟩ := hq; rw [if_pos k9, Int.toNat_natCast] at q1 q5; obtain ⟨ma6, mc6, w6, r6, x6⟩ := NX.out w5 a5 n5 c5 _ b5 ⟨q5, q1.1, q1.2.1, q1.2.2.1, q2, q3, q4⟩ ER.out; have R6 := Lib.hid r6; clear b5 q1 q2 q3 q4 q5 r6)
              | (at_builtin; refine wp_app_run rfl _ _ 27 rfl _ _ _ w6 rfl rfl R6.out ?_))
            refine ⟨⟨k + 1, ma6, mc6, _, rfl, by simp, by omega, x6⟩, ?_⟩
            simp [intOf]
            omega

      · have e : k = max rn on := by omega
        have d1 : ¬ (k : Int) < (rn : Int) := by omega
        have d2 : decide ((k : Int) < (rn : Int)) = false := by simp; omega
        have d3 : decide (k < rn) = false := by simp; omega
        have d5 : ¬ (k : Int) < (on : Int) := by omega
        have d6 : decide ((k : Int) < (on : Int)) = false := by simp; omega
        have d7 : decide (k < on) = false := by simp; omega
        obtain ⟨⟨a0, a1, a2, a3, a4, a5, a6, a7⟩, _⟩ := CL.out wr BW.out
        have same : ∀ d : Nat, (d : Int) ≤ day → rowsF rs d = rowsF ms d := by
          intro d hd
          by_cases z : d < k
          · have := hc d z
            rw [if_pos hd] at this
            exact this.symm
          · have e1 : rowsF rs d = [] := by
              unfold rowsF
              simp only [List.getD, List.getElem?_eq_none (by rw [rl1]; omega : rs.length ≤ d)]
              rfl
            have e2 : rowsF ms d = [] := by
              unfold rowsF
              simp only [List.getD, List.getElem?_eq_none (by rw [m.len]; omega : ms.length ≤ d)]
              rfl
            rw [e1, e2]
        obtain ⟨s1, s2⟩ := SA2.out _ _ same
        have ML := Lib.hid (fun V (b : Below wr.heap.size wr V) => (m.lat b).rl (by omega))
        have S1 := Lib.hid s1
        have S2 := Lib.hid s2
        clear hH m hc same s1 s2 SA2 KA KB e hlt hk
        go_wp2_with fail
        go_at_call 11
        refine (KO2.out wr BW.out).mono ?_
        rintro e w5 ⟨p1, rfl, h5⟩
        obtain ⟨b5, run5⟩ := h5.out
        have BW5 := BW.out.trans (b5.mono BW.out.size)
        have K5 := Lib.hid (run5 w5 (Below.refl _ _) ra rn rc rs (RR.out w5 BW5))
        clear run5 h5 a0 a1 a2 a3 a4 a5 a6 a7
        go_wp2_with fail
        go_at_call 10
        refine K5.out.mono ?_
        rintro e w6 ⟨fa, fn, fc, rfl, q6⟩
        obtain ⟨f6, b6⟩ := q6.out
        obtain ⟨ft, hft⟩ : ∃ ft, (M (rowsF rs)).1.fault = ft := ⟨_, rfl⟩
        obtain ⟨dy, hdy⟩ : ∃ dy, (M (rowsF rs)).1.day = dy := ⟨_, rfl⟩
        rw [hft, hdy]
        obtain ⟨W7, hW7⟩ : ∃ W, w6.alloc (.cells #[.slice fa fn fc, .int .i64 ft, .int .i64 dy] 32) = W := ⟨_, rfl⟩
        have c7 : BkP W7 w6.heap.size #[.slice fa fn fc, .int .i64 ft, .int .i64 dy] 32 := by rw [← hW7]; exact heapN _ _
        have b67 : Below w6.heap.size w6 W7 := by rw [← hW7]; exact allocBP _ _
        have BW7 := (BW5.trans (b6.mono BW5.size)).trans (b67.mono (BW5.trans (b6.mono BW5.size)).size)
        have bwr7 : Below wr.heap.size wr W7 := (b5.trans (b6.mono b5.size)).trans (b67.mono (b5.trans (b6.mono b5.size)).size)
        obtain ⟨⟨a0, a1, a2, a3, a4, a5, a6, a7⟩, _⟩ := CL.out W7 BW7
        have F7 := Lib.hid (f6.later b67)
        have C7 := Lib.hid c7
        have HW7 := Lib.hid hW7
        have HBW7 := Lib.hid BW7
        have HB7 := Lib.hid bwr7
        have HF := Lib.hid (And.intro hft hdy)
        clear hW7 c7 b67 b6 f6 q6 K5 b5 BW5 BW7 bwr7 hft hdy
        go_upto_region 13 with fail
        rw [HW7.out]
        go_wp2_with fail
        go_at_call 11
        refine (KO2.out W7 HBW7.out).mono ?_
        rintro e w8 ⟨p2, rfl, h8⟩
        obtain ⟨b8, run8⟩ := h8.out
        have K8 := Lib.hid (run8 w8 (Below.refl _ _) ma k mc ms (ML.out w8 (HB7.out.trans (b8.mono HB7.out.size))))
        clear run8 h8 a0 a1 a2 a3 a4 a5 a6 a7
        go_wp2_with fail
        go_at_call 10
        refine K8.out.mono ?_
        rintro e w9 ⟨ga, gn, gc, rfl, q9⟩
        obtain ⟨f9, b9⟩ := q9.out
        obtain ⟨gt, hgt⟩ : ∃ gt, (M (rowsF ms)).1.fault = gt := ⟨_, rfl⟩
        obtain ⟨gy, hgy⟩ : ∃ gy, (M (rowsF ms)).1.day = gy := ⟨_, rfl⟩
        rw [hgt, hgy]
        obtain ⟨W10, hW10⟩ : ∃ W, w9.alloc (.cells #[.slice ga gn gc, .int .i64 gt, .int .i64 gy] 32) = W := ⟨_, rfl⟩
        have c10 : BkP W10 w9.heap.size #[.slice ga gn gc, .int .i64 gt, .int .i64 gy] 32 := by rw [← hW10]; exact heapN _ _
        have b910 : Below w9.heap.size w9 W10 := by rw [← hW10]; exact allocBP _ _
        have b710 : Below W7.heap.size W7 W10 := (b8.trans (b9.mono b8.size)).trans (b910.mono (b8.trans (b9.mono b8.size)).size)
        have BW10 := HBW7.out.trans (b710.mono HBW7.out.size)
        have CE := Lib.hid (p := ∀ V, Below W10.heap.size W10 V → (V.cell? ⟨w6.heap.size, 0, none⟩ = some (.slice fa fn fc) ∧ V.cell? ⟨w6.heap.size, 1, none⟩ = some (.int .i64 ft) ∧ V.cell? ⟨w6.heap.size, 2, none⟩ = some (.int .i64 dy) ∧ V.cell? ⟨w9.heap.size, 0, none⟩ = some (.slice ga gn gc) ∧ V.cell? ⟨w9.heap.size, 1, none⟩ = some (.int .i64 gt) ∧ V.cell? ⟨w9.heap.size, 2, none⟩ = some (.int .i64 gy)) ∧ Below w.heap.size w V) (fun V b => by
          obtain ⟨y0, y1, y2⟩ := box_all3P ((C7.out.lat b710).lat b)
          obtain ⟨y3, y4, y5⟩ := box_all3P (c10.lat b)
          exact ⟨⟨y0, y1, y2, y3, y4, y5⟩, (CL.out V (BW10.trans (b.mono BW10.size))).2⟩)
        have KS1 := Lib.hid (p := ∀ V, Below W10.heap.size W10 V → Calls Tryz.prog 21 #[.agg #[.slice fa fn fc, .int .i64 ft, .int .i64 dy], .int .i64 day] V fun e w' => ∃ xa xn xc, e = .returned (.agg #[.slice xa xn xc, .int .i64 (shE day (M (rowsF rs)).1).1, .int .i64 (shE day (M (rowsF rs)).1).2]) ∧ RowKit.Hid (FLm w' xa xn (shF day (M (rowsF rs)).2) ∧ Below V.heap.size V w')) (fun V b => by
          have f := F7.out.later (b710.trans (b.mono b710.size))
          have fl := FL2.out (rowsF rs)
          refine (shown_any f (by rw [← f.1]; omega) ft dy day).mono ?_
          rintro e w' ⟨xa, xn, xc, rfl, o, bb⟩
          have t := she_two day (M (rowsF rs)).1
          rw [HF.out.1, HF.out.2] at t
          rw [t.1, t.2]
          exact ⟨xa, xn, xc, rfl, owf_fl o, bb⟩)
        have KS2 := Lib.hid (p := ∀ V, Below W10.heap.size W10 V → Calls Tryz.prog 21 #[.agg #[.slice ga gn gc, .int .i64 gt, .int .i64 gy], .int .i64 day] V fun e w' => ∃ xa xn xc, e = .returned (.agg #[.slice xa xn xc, .int .i64 (shE day (M (rowsF rs)).1).1, .int .i64 (shE day (M (rowsF rs)).1).2]) ∧ RowKit.Hid (FLm w' xa xn (shF day (M (rowsF rs)).2) ∧ Below V.heap.size V w')) (fun V b => by
          have f := (f9.later b910).later b
          have fl := FL2.out (rowsF ms)
          refine (shown_any f (by rw [← f.1]; omega) gt gy day).mono ?_
          rintro e w' ⟨xa, xn, xc, rfl, o, bb⟩
          have t := she_two day (M (rowsF ms)).1
          rw [hgt, hgy] at t
          rw [t.1, t.2, S2.out, S1.out]
          exact ⟨xa, xn, xc, rfl, owf_fl o, bb⟩)
        have LL := Lib.hid (p := (shF day (M (rowsF rs)).2).length ≤ 4000000000000) (Nat.le_trans (List.length_filter_le _ _) (Nat.le_trans (FL2.out _) (by omega)))
        have KN := Lib.hid (fun e W => num15_any e W)
        obtain ⟨⟨y0, y1, y2, y3, y4, y5⟩, _⟩ := CE.out W10 (Below.refl _ _)
        have H10 := Lib.hid hW10
        generalize (shE day (M (rowsF rs)).1).1 = sx at *
        generalize (shE day (M (rowsF rs)).1).2 = sy at *
        generalize shF day (M (rowsF rs)).2 = sf at *
        clear hW10 c10 b910 b710 BW10 b8 b9 f9 q9 K8 hgt hgy S2 HF C7 F7 FL2 ML KO2 RR
        go_upto_region 14 with fail
        rw [H10.out]
        have M1 : True := trivial
        have KE := Lib.hid (p := ∀ V xa xn xc ya yn yc, FLm V xa xn sf → FLm V ya yn sf → Calls Tryz.prog 20 #[.agg #[.slice xa xn xc, .int .i64 sx, .int .i64 sy], .agg #[.slice ya yn yc, .int .i64 sx, .int .i64 sy]] V fun e w' => e = .returned (.bool true) ∧ Below V.heap.size V w') (fun V xa xn xc ya yn yc f g => by
          have e1 := f.1
          have e2 := g.1
          subst e1
          have l := LL.out
          have e3 : yn = sf.length := e2.symm
          subst e3
          exact sameOutcome_any xa ya sf.length xc yc sf sx sy V f g l)
        go_region_held3 (fun w' => w'.cell? ⟨w6.heap.size, 0, none⟩ = some (.slice fa fn fc) ∧ w'.cell? ⟨w6.heap.size, 1, none⟩ = some (.int .i64 ft) ∧ w'.cell? ⟨w6.heap.size, 2, none⟩ = some (.int .i64 dy) ∧ w'.cell? ⟨w9.heap.size, 0, none⟩ = some (.slice ga gn gc) ∧ w'.cell? ⟨w9.heap.size, 1, none⟩ = some (.int .i64 gt) ∧ w'.cell? ⟨w9.heap.size, 2, none⟩ = some (.int .i64 gy))
          (first | go_keep | exact ⟨t0, t1, t2, t3, t4, t5⟩ | exact ⟨u0, u1, u2, u3, u4, u5⟩ | exact ⟨v0, v1, v2, v3, v4, v5⟩)
          (first
            | (go_at_call 14; refine (KN.out 0 _).mono ?_; rintro e wx ⟨rfl, rfl⟩)
            | (go_at_call 21; have mm := M1; refine (KS1.out _ (by first | exact drew1 _ | exact Below.refl _ _)).mono ?_; rintro e z1 ⟨xa, xn, xc, rfl, q1⟩; clear M1 mm; have BZ1 := Lib.hid (p := Below W10.heap.size W10 z1) (by first | exact q1.out.2 | exact (drew1 W10).trans q1.out.2); obtain ⟨⟨t0, t1, t2, t3, t4, t5⟩, _⟩ := CE.out z1 BZ1.out)
            | (go_at_call 21; refine (KS2.out _ BZ1.out).mono ?_; rintro e z2 ⟨ya, yn, yc, rfl, q2⟩; have BZ2 := Lib.hid (p := Below W10.heap.size W10 z2) (BZ1.out.trans (q2.out.2.mono BZ1.out.size)); obtain ⟨⟨u0, u1, u2, u3, u4, u5⟩, _⟩ := CE.out z2 BZ2.out; have FX := Lib.hid (q1.out.1.later q2.out.2))
            | (go_at_call 20; refine (KE.out _ xa xn xc ya yn yc FX.out q2.out.1).mono ?_; rintro e z3 ⟨rfl, b3⟩; have BZ3 := Lib.hid (p := Below W10.heap.size W10 z3) (BZ2.out.trans (b3.mono BZ2.out.size)); obtain ⟨⟨v0, v1, v2, v3, v4, v5⟩, bz⟩ := CE.out z3 BZ3.out; have BF := Lib.hid bz; clear b3 bz))
        all_goals
          go_wp2
          go_ret
          exact ⟨rfl, BF.out⟩
  · have KT1 := Lib.hid (p := ∀ V, Below W0.heap.size W0 V → Calls Tryz.prog 13 #[p.agg] V fun e w' => ∃ x y z, e = .returned (.tuple #[.agg #[.int .i64 x, .int .i64 y, .int .i64 z], .bool false]) ∧ Below V.heap.size V w') (fun V b => (KT.out V b).mono (fun e w' q => by obtain ⟨rfl, q2⟩ := q; rw [decide_eq_false hv]; exact ⟨_, _, _, rfl, q2⟩))
    clear KT hr ho h hR hU B0 P0 hW0 hv
    unfold Pg.agg Pg.box at *
    obtain ⟨na, nc, names, ua, uc, curs, pa, pc, pool, hor, cells, slots, stack, da, dc, days⟩ := p
    simp only at *
    go_enter Tryz.func4, Tryz.ntmps4
    go_wp2_with fail
    go_at_call 9
    rw [HW.out]
    refine KP.out.mono ?_
    rintro e w1 ⟨rfl, b1⟩
    obtain ⟨⟨a0, a1, a2, a3, a4, a5, a6, a7⟩, _⟩ := CL.out w1 b1
    go_wp2_with fail
    go_at_call 13
    refine (KT1.out w1 b1).mono ?_
    rintro e w2 ⟨tx, ty, tz, rfl, b2⟩
    have b12 := b1.trans (b2.mono b1.size)
    have BE := Lib.hid (p := ∀ o, Below w.heap.size w (w2.alloc o)) (fun o => (CL.out _ (b12.trans ((allocBP w2 o).mono b12.size))).2)
    clear b1 b2 b12
    go_wp2
    go_ret
    exact ⟨rfl, BE.out _⟩
end Go.Proofs.YtpfjnnkjoabgbaaGreatDoor
