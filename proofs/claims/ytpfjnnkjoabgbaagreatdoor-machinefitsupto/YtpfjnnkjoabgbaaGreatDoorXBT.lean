import Derived.Test.YtpfjnnkjoabgbaaGreatDoorXBS
namespace Go.Proofs.YtpfjnnkjoabgbaaGreatDoor
open Go.RowKit
set_option linter.unusedVariables false
set_option linter.unusedSimpArgs false
theorem getD_snocM {l : List Rw} {x : Rw} {i : Nat} (e : l.length = i) : (l ++ [x]).getD i default = x := by subst e; exact getD_snoc_eq
/-- The law's two lists, so far. -/
structure FxS (w : World) (N : Nat) (rs : List Rw) (xs : List Cl) (fs ls : List Rw) (ma : Option Addr) (mc : Nat) (na : Option Addr) (nc k : Nat) (W : World) : Prop where
  two : Mx2 w fs ls ma mc na nc k W
  one : ∀ i, i < k → (fs.getD i default).cs = fitR N (rowsF rs i)
  oth : ∀ i, i < k → (ls.getD i default).cs = fitR N (rowsF rs i) ++ xs
theorem FxS.next {w : World} {N : Nat} {rs : List Rw} {xs : List Cl} {fs ls : List Rw} {ma na : Option Addr} {mc nc k : Nat} {W : World} (h : FxS w N rs xs fs ls ma mc na nc k W) (hk : k + 1 ≤ 1000000) (hN : N ≤ 1000000) {xa : Option Addr} {xn xc : Nat} (hx : RC w xa xn xs ∧ (xa = none → xn = 0 ∧ xc = 0) ∧ xn ≤ xc ∧ xc ≤ maxLen) (ux : xn ≤ 1048576) {w6 : World} {g : Nat} (b6 : Below W.heap.size W w6) (r6 : RwOk w6 ⟨some ⟨g, 0, none⟩, N, N, fitR N (rowsF rs k)⟩) :
    ∃ ma2 mc2 w7, (∀ ty, (Builtin.append_ #[27, 27] ty #[.slice ma k mc, .slice (some ⟨w6.heap.size, 0, none⟩) 1 1]).run Tryz.prog (w6.alloc (.cells #[.slice (some ⟨g, 0, none⟩) N N] 47)) = .ok (.slice ma2 (k + 1) mc2) w7) ∧
    ∃ a1 c1 w8, (∀ ty, (Builtin.append_ #[47, 47] ty #[.slice (some ⟨w7.heap.size, 0, none⟩) 0 0, .slice (some ⟨g, 0, none⟩) N N]).run Tryz.prog (w7.alloc (.cells #[] 73)) = .ok (.slice a1 N c1) w8) ∧
    ∃ a2 c2 w9, (∀ ty, (Builtin.append_ #[47, 47] ty #[.slice a1 N c1, .slice xa xn xc]).run Tryz.prog w8 = .ok (.slice a2 (N + xn) c2) w9) ∧
    ∃ na2 nc2 w10, (∀ ty, (Builtin.append_ #[27, 27] ty #[.slice na k nc, .slice (some ⟨w9.heap.size, 0, none⟩) 1 1]).run Tryz.prog (w9.alloc (.cells #[.slice a2 (N + xn) c2] 47)) = .ok (.slice na2 (k + 1) nc2) w10) ∧
    ∃ fs2 ls2, RowKit.Hid (FxS w N rs xs fs2 ls2 ma2 mc2 na2 nc2 (k + 1) w10) := by
  have t6 := h.two.lat b6
  obtain ⟨ma2, mc2, w7, r7, x7⟩ := t6.next (by omega) r6
  obtain ⟨k7, keep7, sz, n7⟩ := x7.out
  have bw7 : Below w.heap.size w w7 := t6.fst.bel.trans (k7.bel (fun y hy => (World.ownsRow.lt t6.fst.own y hy).1) t6.fst.bel.size)
  obtain ⟨a1, c1, w8, r8, a2, c2, w9, r9, x9⟩ := long_row (keep7 _ r6) (b := xa) (m := xn) (d := xc) (more := xs) ⟨hx.1.later bw7, hx.2⟩ (by omega)
  obtain ⟨b9, o9⟩ := x9.out
  obtain ⟨na2, nc2, w10, r10, x10⟩ := n7 w9 b9 _ o9
  refine ⟨ma2, mc2, w7, r7, a1, c1, w8, r8, a2, c2, w9, r9, na2, nc2, w10, r10, _, _, ⟨x10.out, fun i hi => ?_, fun i hi => ?_⟩⟩
  · by_cases z : i = k
    · subst z
      have e := t6.fst.len
      have q : (fs ++ [(⟨some ⟨g, 0, none⟩, N, N, fitR N (rowsF rs i)⟩ : Rw)]).getD i default = ⟨some ⟨g, 0, none⟩, N, N, fitR N (rowsF rs i)⟩ := getD_snocM e
      rw [q]
    · rw [getD_snoc_lt (by rw [t6.fst.len]; omega)]
      exact h.one i (by omega)
  · by_cases z : i = k
    · subst z
      have e := t6.snd.len
      have q : (ls ++ [(⟨a2, N + xn, c2, fitR N (rowsF rs i) ++ xs⟩ : Rw)]).getD i default = ⟨a2, N + xn, c2, fitR N (rowsF rs i) ++ xs⟩ := getD_snocM e
      rw [q]
    · rw [getD_snoc_lt (by rw [t6.snd.len]; omega)]
      exact h.oth i (by omega)
theorem FxS.fin {w : World} {N : Nat} {rs : List Rw} {xs : List Cl} {fs ls : List Rw} {ma na : Option Addr} {mc nc k : Nat} {W : World} (h : FxS w N rs xs fs ls ma mc na nc k W) (hk : k + 1 ≤ 1000000) {xa : Option Addr} {xn xc : Nat} (hx : RC w xa xn xs ∧ (xa = none → xn = 0 ∧ xc = 0) ∧ xn ≤ xc ∧ xc ≤ maxLen) :
    ∃ na2 nc2 w7, (∀ ty, (Builtin.append_ #[27, 27] ty #[.slice na k nc, .slice (some ⟨W.heap.size, 0, none⟩) 1 1]).run Tryz.prog (W.alloc (.cells #[.slice xa xn xc] 47)) = .ok (.slice na2 (k + 1) nc2) w7) ∧
    RowKit.Hid (Below w.heap.size w w7 ∧ RL w7 ma k fs ∧ RL w7 na2 (k + 1) (ls ++ [⟨xa, xn, xc, xs⟩]) ∧ (∀ d, d < k → fitR N (rowsF fs d) = fitR N (rowsF rs d)) ∧ (∀ d, d < k → fitR N (rowsF (ls ++ [⟨xa, xn, xc, xs⟩]) d) = fitR N (rowsF rs d))) := by
  obtain ⟨na2, nc2, w7, r7, x7⟩ := h.two.snd.last (by omega) (r := ⟨xa, xn, xc, xs⟩) hx
  obtain ⟨l7, k7⟩ := x7.out
  have lo : ∀ y, Value.ownBlock (.slice na k nc) = some y → w.heap.size ≤ y := fun y hy => (World.ownsRow.lt h.two.snd.own y hy).1
  refine ⟨na2, nc2, w7, r7, h.two.snd.bel.trans (k7.bel lo h.two.snd.bel.size), (h.two.fst.keep k7 lo (fun y hy z => h.two.ne y z hy) h.two.snd.nt).rl (by omega), l7, fun d hd => ?_, fun d hd => ?_⟩
  · have e : rowsF fs d = fitR N (rowsF rs d) := h.one d hd
    rw [e]
    have := fit_fit N (rowsF rs d) []
    rwa [List.append_nil] at this
  · have e : rowsF (ls ++ [⟨xa, xn, xc, xs⟩]) d = fitR N (rowsF rs d) ++ xs := by
      have := h.oth d hd
      unfold rowsF at this ⊢
      rw [getD_snoc_lt (by rw [h.two.snd.len]; exact hd)]
      exact this
    rw [e]
    exact fit_fit N (rowsF rs d) xs
end Go.Proofs.YtpfjnnkjoabgbaaGreatDoor

namespace Go.Proofs.YtpfjnnkjoabgbaaGreatDoor
open Go.RowKit
set_option linter.unusedVariables false
set_option linter.unusedSimpArgs false
theorem rows_lt {rs : List Rw} {k d : Nat} (hl : rs.length = k) (hd : k ≤ d) : rowsF rs d = [] := by
  unfold rowsF
  simp only [List.getD, List.getElem?_eq_none (by omega : rs.length ≤ d)]
  rfl
set_option maxRecDepth 100000 in
set_option maxHeartbeats 6400000 in
theorem machineFits_any {w : World} {p : Pg} (h : PV w p) (hR : Rws w) (hU : Rul w) {ra : Option Addr} {rn rc : Nat} {rs : List Rw} (hr : RL w ra rn rs) {xa : Option Addr} {xn xc : Nat} {xs : List Cl} (hx : RC w xa xn xs ∧ (xa = none → xn = 0 ∧ xc = 0) ∧ xn ≤ xc ∧ xc ≤ maxLen) (ux : xn ≤ 1048576) : Calls Tryz.prog 5 #[p.agg, .slice ra rn rc, .slice xa xn xc] w fun e w' => e = .returned (.bool true) ∧ Below w.heap.size w w' := by
  obtain ⟨W0, hW0⟩ : ∃ W, w.alloc p.box = W := ⟨_, rfl⟩
  have B0 : Below w.heap.size w W0 := by rw [← hW0]; exact allocBP w p.box
  have P0 : BkP W0 w.heap.size #[.slice p.na p.names.length p.nc, .slice p.ua p.curs.length p.uc, .slice p.pa p.pool.length p.pc, .int .i64 p.hor, .int .i64 p.cells, .int .i64 p.slots, .int .i64 p.stack, .slice p.da p.days.length p.dc] 26 := by rw [← hW0]; exact heapN w p.box
  have KP := Lib.hid (plain15_any (hR.below B0) (hU.lat B0))
  have CL := Lib.hid (p := ∀ V, Below W0.heap.size W0 V → (V.cell? ⟨w.heap.size, 0, none⟩ = some (.slice p.na p.names.length p.nc) ∧ V.cell? ⟨w.heap.size, 1, none⟩ = some (.slice p.ua p.curs.length p.uc) ∧ V.cell? ⟨w.heap.size, 2, none⟩ = some (.slice p.pa p.pool.length p.pc) ∧ V.cell? ⟨w.heap.size, 3, none⟩ = some (.int .i64 p.hor) ∧ V.cell? ⟨w.heap.size, 4, none⟩ = some (.int .i64 p.cells) ∧ V.cell? ⟨w.heap.size, 5, none⟩ = some (.int .i64 p.slots) ∧ V.cell? ⟨w.heap.size, 6, none⟩ = some (.int .i64 p.stack) ∧ V.cell? ⟨w.heap.size, 7, none⟩ = some (.slice p.da p.days.length p.dc)) ∧ Below w.heap.size w V) (fun V b => ⟨box_all8 (P0.lat b), B0.trans (b.mono B0.size)⟩)
  have KT := Lib.hid (fun V (b : Below W0.heap.size W0 V) => taken_any (h.later (B0.trans (b.mono B0.size))) (hR.below (B0.trans (b.mono B0.size))) (hU.lat (B0.trans (b.mono B0.size))))
  have HW := Lib.hid hW0
  have nr := hr.2.1
  by_cases hv : (vfyA p).1 = 0
  · have KO := Lib.hid (fun V (b : Below W0.heap.size W0 V) => run_owned hv h hR hU (B0.trans (b.mono B0.size)))
    have KA := Lib.hid (fun V (b : Below W0.heap.size W0 V) (d : Int) => at_any (rc := rc) (hr.later (B0.trans (b.mono B0.size))) (by omega) d)
    have RR := Lib.hid (p := ∀ V, Below W0.heap.size W0 V → RL V ra rn rs) (fun V b => hr.later (B0.trans (b.mono B0.size)))
    have HX := Lib.hid (p := ∀ V, Below W0.heap.size W0 V → RC V xa xn xs ∧ (xa = none → xn = 0 ∧ xc = 0) ∧ xn ≤ xc ∧ xc ≤ maxLen) (fun V b => ⟨hx.1.later (B0.trans (b.mono B0.size)), hx.2⟩)
    have hor4 := (nds_of hv).2.2.2.1
    have hor5 := (nds_of hv).2.2.2.2.1
    have nam := (nds_of hv).2.2.2.2.2.2.2.1
    have FL := Lib.hid (fun (a : Nat → List Cl) => runMs_fll hv (vfyA p).2.2.2.back a p.born (n := (p.hor + 1).toNat) (by omega))
    have SA := Lib.hid (p := ∀ a b : Nat → List Cl, (∀ d, d < (p.hor + 1).toNat → fitR p.names.length (a d) = fitR p.names.length (b d)) → runMs p (vfyA p).2.2.2.back a (p.hor + 1).toNat p.born = runMs p (vfyA p).2.2.2.back b (p.hor + 1).toNat p.born) (fun a b q => runMs_fit _ _ q)
    have KT1 := Lib.hid (p := ∀ V, Below W0.heap.size W0 V → Calls Tryz.prog 13 #[p.agg] V fun e w' => ∃ x y z, e = .returned (.tuple #[.agg #[.int .i64 x, .int .i64 y, .int .i64 z], .bool true]) ∧ Below V.heap.size V w') (fun V b => (KT.out V b).mono (fun e w' q => by obtain ⟨rfl, q2⟩ := q; rw [decide_eq_true hv]; exact ⟨_, _, _, rfl, q2⟩))
    clear KT hr h hR hU B0 P0 hW0 hx
    generalize hM : (fun (a : Nat → List Cl) => runMs p (vfyA p).2.2.2.back a (p.hor + 1).toNat p.born) = M at *
    have KO2 := Lib.hid (p := ∀ V, Below W0.heap.size W0 V → Calls Tryz.prog 11 #[p.agg] V fun e w' => ∃ p' : Pg, e = .returned (.agg #[.slice p'.na p'.names.length p'.nc, .slice p'.ua p'.curs.length p'.uc, .slice p'.pa p'.pool.length p'.pc, .int .i64 p'.hor, .int .i64 p'.cells, .int .i64 p'.slots, .int .i64 p'.stack, .slice p'.da p'.days.length p'.dc]) ∧ RowKit.Hid (Below V.heap.size V w' ∧ ∀ U, Below w'.heap.size w' U → ∀ ra rn rc rs, RL U ra rn rs → Calls Tryz.prog 10 #[.agg #[.slice p'.na p'.names.length p'.nc, .slice p'.ua p'.curs.length p'.uc, .slice p'.pa p'.pool.length p'.pc, .int .i64 p'.hor, .int .i64 p'.cells, .int .i64 p'.slots, .int .i64 p'.stack, .slice p'.da p'.days.length p'.dc], .slice ra rn rc] U fun e w2 => ∃ fa fn fc, e = .returned (.tuple #[.agg #[.slice fa fn fc, .int .i64 (M (rowsF rs)).1.fault, .int .i64 (M (rowsF rs)).1.day], .int .i64 0]) ∧ RowKit.Hid (FLm w2 fa fn (M (rowsF rs)).2 ∧ Below U.heap.size U w2))) (by rw [← hM]; exact KO.out)
    have FL2 := Lib.hid (p := ∀ a, (M a).2.length ≤ 1048576000) (by rw [← hM]; exact FL.out)
    have SA2 := Lib.hid (p := ∀ a b : Nat → List Cl, (∀ d, d < (p.hor + 1).toNat → fitR p.names.length (a d) = fitR p.names.length (b d)) → M a = M b) (by rw [← hM]; exact SA.out)
    clear KO FL SA hM hv
    unfold Pg.agg Pg.box at *
    obtain ⟨na0, nc0, names, ua, uc, curs, pa, pc, pool, hor, cells, slots, stack, da, dc, days⟩ := p
    simp only at *
    generalize names.length = N at *
    obtain ⟨H, rfl⟩ : ∃ H : Nat, hor = (H : Int) := ⟨hor.toNat, by omega⟩
    have H5 : H ≤ 3660 := by omega
    have HT : ((H : Int) + 1).toNat = H + 1 := by omega
    rw [HT] at SA2
    have KF := Lib.hid (p := ∀ V a m cap row, RC V a m row → Calls Tryz.prog 22 #[.slice a m cap, .int .i64 (N : Int)] V fun e w' => ∃ g, e = .returned (.slice (some ⟨g, 0, none⟩) N N) ∧ RowKit.Hid (Below V.heap.size V w' ∧ RwOk w' ⟨some ⟨g, 0, none⟩, N, N, fitR N row⟩)) (fun V a m cap row q => (fit15_any (by omega) q).mono (fun e w' z => ft_rw (by omega) q.2.2.1 z))
    clear hor4 hor5 HT
    go_enter Tryz.func5, Tryz.ntmps5
    go_wp2_with fail
    go_at_call 9
    rw [HW.out]
    refine KP.out.mono ?_
    rintro e w1 ⟨rfl, b1⟩
    obtain ⟨⟨a0, a1, a2, a3, a4, a5, a6, a7⟩, _⟩ := CL.out w1 b1
    go_wp2_with fail
    go_at_call 13
    refine (KT1.out w1 b1).mono ?_
    rintro e w2 ⟨tx, ty, tz, rfl, b2⟩
    have b12 := b1.trans (b2.mono b1.size)
    obtain ⟨W3, hW3⟩ : ∃ W, w2.alloc (.cells #[.int .i64 tx, .int .i64 ty, .int .i64 tz] 41) = W := ⟨_, rfl⟩
    have B3 := Lib.hid (p := Below W0.heap.size W0 W3) (by rw [← hW3]; exact b12.trans ((allocBP w2 _).mono b12.size))
    have H3 := Lib.hid hW3
    clear a0 a1 a2 a3 a4 a5 a6 a7 b1 b2 b12 hW3 KP KT1
    go_upto_region 3 with fail
    rw [H3.out]
    go_wp2
    have X3 := Lib.hid (HX.out W3 B3.out)
    have M0 := Lib.hid (p := FxS W3 N rs xs [] [] none 0 none 0 0 W3) ⟨⟨⟨Below.refl _ _, World.ownsRow_nil _ _ _ _, rfl, by simp⟩, ⟨Below.refl _ _, World.ownsRow_nil _ _ _ _, rfl, by simp⟩, fun y z => (by cases z)⟩, fun i hi => by omega, fun i hi => by omega⟩
    go_loopw [10, 11, 12] (fun m1 m2 t wr => ∃ (k : Nat) (ma : Option Addr) (mc : Nat) (na : Option Addr) (nc : Nat) (fs ls : List Rw), m1 = .slice ma k mc ∧ m2 = .slice na k nc ∧ t = .int .i64 (k : Int) ∧ k ≤ H + 1 ∧ RowKit.Hid (FxS W3 N rs xs fs ls ma mc na nc k wr)) (fun _ _ t _ => H + 1 - (intOf t).toNat)
    case atStart => exact ⟨0, none, 0, none, 0, [], [], rfl, rfl, rfl, by omega, M0.out⟩
    case round =>
      clear M0
      rename World => wr
      obtain ⟨k, ma, mc, na, nc, fs, ls, rfl, rfl, rfl, hk, hH⟩ := hrel
      have BW := Lib.hid (p := Below W0.heap.size W0 wr) (B3.out.trans (hH.out.two.fst.bel.mono B3.out.size))
      obtain ⟨⟨a0, a1, a2, a3, a4, a5, a6, a7⟩, _⟩ := CL.out wr BW.out
      by_cases hlt : k < H + 1
      · have kc : (k : Int) ≤ (H : Int) := by omega
        have ks : IntKind.i64.wrap ((k : Int) + 1) = (k : Int) + 1 := by simp [IntKind.wrap, IntKind.bits, IntKind.signed]; omega
        have k9 : (0 : Int) ≤ (k : Int) := by omega
        have NX := Lib.hid (fun w6 g (b6 : Below wr.heap.size wr w6) r6 => hH.out.next (by omega) (by omega) X3.out ux (w6 := w6) (g := g) b6 r6)
        have KA2 := Lib.hid (p := ∀ V, Below wr.heap.size wr V → Calls Tryz.prog 17 #[.slice ra rn rc, .int .i64 (k : Int)] V fun e w' => ∃ a5 n5 c5, e = .returned (.slice a5 n5 c5) ∧ RowKit.Hid (RC w' a5 n5 (rowsF rs k) ∧ Below wr.heap.size wr w') ∧ w'.cell? ⟨w.heap.size, 0, none⟩ = some (.slice na0 N nc0)) (fun V b => by
          refine (KA.out V (BW.out.trans (b.mono BW.out.size)) (k : Int)).mono ?_
          intro e w5 hq
          obtain ⟨b5, a5, n5, c5, rfl, q1, q2, q3, q4, q5⟩ := hq
          rw [if_pos k9, Int.toNat_natCast] at q1
          have bb := b.trans (b5.mono b.size)
          exact ⟨a5, n5, c5, rfl, ⟨q1, bb⟩, (CL.out w5 (BW.out.trans (bb.mono BW.out.size))).1.1⟩)
        clear hH KA KO2 FL2 SA2 RR HX
        go_wp2_with fail
        have M1 : True := trivial
        go_region_held3 (fun w' => w'.cell? ⟨w.heap.size, 0, none⟩ = some (.slice na0 N nc0))
          (first | go_keep | exact t0 | exact t1)
          (first
            | (go_at_call 17; have mm := M1; refine (KA2.out _ (by first | exact drew1 _ | exact Below.refl _ _)).mono ?_; rintro e w5 ⟨a5, n5, c5, rfl, q5, t0⟩; clear M1 mm)
            | (go_at_call 22; refine (KF.out _ a5 n5 c5 _ (by first | exact q5.out.1 | exact q5.out.1.later (drew1 _))).mono ?_; rintro e w6 ⟨g, rfl, q6⟩; have B6 := Lib.hid (p := Below wr.heap.size wr w6) (by first | exact q5.out.2.trans (q6.out.1.mono q5.out.2.size) | exact q5.out.2.trans (((drew1 w5).trans q6.out.1).mono q5.out.2.size)); have t1 := (CL.out w6 (BW.out.trans (B6.out.mono BW.out.size))).1.1))
        all_goals
          obtain ⟨ma2, mc2, w7, r7, a8, c8, w8, r8, a9, c9, w9, r9, na2, nc2, w10, r10, fs2, ls2, inv⟩ := NX.out w6 g B6.out q6.out.2
          have R7 := Lib.hid r7
          have R8 := Lib.hid r8
          have R9 := Lib.hid r9
          have R10 := Lib.hid r10
          clear r7 r8 r9 r10 q5 q6 NX KA2 KF B6 t1
          go_wp2_with (first
            | (at_builtin; refine wp_app_run rfl _ _ 27 rfl _ _ _ w7 rfl rfl R7.out ?_)
            | (at_builtin; refine wp_app_run rfl _ _ 47 rfl _ _ _ w8 rfl rfl R8.out ?_)
            | (at_builtin; refine wp_app_run rfl _ _ 47 rfl _ _ _ w9 rfl rfl R9.out ?_)
            | (at_builtin; refine wp_app_run rfl _ _ 27 rfl _ _ _ w10 rfl rfl R10.out ?_))
          refine ⟨⟨k + 1, ma2, mc2, na2, nc2, fs2, ls2, rfl, rfl, by simp, by omega, inv⟩, ?_⟩
          simp [intOf]
          omega
      · have e : k = H + 1 := by omega
        have kc : ¬ (k : Int) ≤ (H : Int) := by omega
        obtain ⟨na2, nc2, w7, r7, x7⟩ := hH.out.fin (by omega) X3.out
        obtain ⟨b7, l1, l2, s1, s2⟩ := x7.out
        have R7 := Lib.hid r7
        have B7 := Lib.hid (p := Below W0.heap.size W0 w7) (B3.out.trans (b7.mono B3.out.size))
        have L1 := Lib.hid (p := ∀ V, Below w7.heap.size w7 V → RL V ma k fs) (fun V b => l1.later b)
        have L2 := Lib.hid (p := ∀ V, Below w7.heap.size w7 V → RL V na2 (k + 1) (ls ++ [⟨xa, xn, xc, xs⟩])) (fun V b => l2.later b)
        have E1 := Lib.hid (SA2.out (rowsF fs) (rowsF rs) (fun d hd => s1 d (by omega)))
        have E2 := Lib.hid (SA2.out (rowsF (ls ++ [⟨xa, xn, xc, xs⟩])) (rowsF rs) (fun d hd => s2 d (by omega)))
        have FL3 := Lib.hid (p := (M (rowsF rs)).2.length ≤ 4000000000000) (Nat.le_trans (FL2.out _) (by omega))
        obtain ⟨ft, hft⟩ : ∃ ft, (M (rowsF rs)).1.fault = ft := ⟨_, rfl⟩
        obtain ⟨dy, hdy⟩ : ∃ dy, (M (rowsF rs)).1.day = dy := ⟨_, rfl⟩
        obtain ⟨sf, hsf⟩ : ∃ sf, (M (rowsF rs)).2 = sf := ⟨_, rfl⟩
        rw [hsf] at FL3
        have KR := Lib.hid (p := ∀ V, Below W0.heap.size W0 V → Calls Tryz.prog 11 #[.agg #[.slice na0 N nc0, .slice ua curs.length uc, .slice pa pool.length pc, .int .i64 (H : Int), .int .i64 cells, .int .i64 slots, .int .i64 stack, .slice da days.length dc]] V fun e w' => ∃ p' : Pg, e = .returned (.agg #[.slice p'.na p'.names.length p'.nc, .slice p'.ua p'.curs.length p'.uc, .slice p'.pa p'.pool.length p'.pc, .int .i64 p'.hor, .int .i64 p'.cells, .int .i64 p'.slots, .int .i64 p'.stack, .slice p'.da p'.days.length p'.dc]) ∧ RowKit.Hid (Below V.heap.size V w' ∧ ∀ U, Below w'.heap.size w' U → ∀ ra rn rc rs', RL U ra rn rs' → M (rowsF rs') = M (rowsF rs) → Calls Tryz.prog 10 #[.agg #[.slice p'.na p'.names.length p'.nc, .slice p'.ua p'.curs.length p'.uc, .slice p'.pa p'.pool.length p'.pc, .int .i64 p'.hor, .int .i64 p'.cells, .int .i64 p'.slots, .int .i64 p'.stack, .slice p'.da p'.days.length p'.dc], .slice ra rn rc] U fun e w2 => ∃ fa fn fc, e = .returned (.tuple #[.agg #[.slice fa fn fc, .int .i64 ft, .int .i64 dy], .int .i64 0]) ∧ RowKit.Hid (FLm w2 fa fn sf ∧ Below U.heap.size U w2))) (fun V b => by
          refine (KO2.out V b).mono ?_
          rintro e w' ⟨p', rfl, hp⟩
          obtain ⟨hb, hp2⟩ := hp.out
          refine ⟨p', rfl, hb, fun U bU a n c l hl he => ?_⟩
          have := hp2 U bU a n c l hl
          rw [he, hft, hdy, hsf] at this
          exact this)
        have KN := Lib.hid (fun e W => num15_any e W)
        have KE := Lib.hid (p := ∀ V xa xn xc ya yn yc, FLm V xa xn sf → FLm V ya yn sf → Calls Tryz.prog 20 #[.agg #[.slice xa xn xc, .int .i64 ft, .int .i64 dy], .agg #[.slice ya yn yc, .int .i64 ft, .int .i64 dy]] V fun e w' => e = .returned (.bool true) ∧ Below V.heap.size V w') (fun V xa xn xc ya yn yc f g => by
          have e1 := f.1
          have e2 := g.1
          subst e1
          have l := FL3.out
          have e3 : yn = sf.length := e2.symm
          subst e3
          exact sameOutcome_any xa ya sf.length xc yc sf ft dy V f g l)
        obtain ⟨⟨c0, c1, c2, c3, c4, c5, c6, c7⟩, _⟩ := CL.out w7 B7.out
        clear hH x7 r7 b7 l1 l2 s1 s2 SA2 KO2 FL2 KA KF HX e hlt hk hft hdy hsf FL3 BW B3 H3 X3
        go_wp2_with (at_builtin; refine wp_app_run rfl _ _ 27 rfl _ _ _ w7 rfl rfl R7.out ?_)
        go_at_call 11
        refine (KR.out w7 B7.out).mono ?_
        rintro e ua ⟨p1, rfl, h5⟩
        obtain ⟨b5, run5⟩ := h5.out
        have K5 := Lib.hid (run5 ua (Below.refl _ _) ra rn rc rs (RR.out ua (B7.out.trans (b5.mono B7.out.size))) rfl)
        clear run5 h5 a0 a1 a2 a3 a4 a5 a6 a7 c0 c1 c2 c3 c4 c5 c6 c7
        go_wp2_with fail
        go_at_call 10
        refine K5.out.mono ?_
        rintro e ub ⟨fa, fn, fc, rfl, q6⟩
        obtain ⟨f6, b6⟩ := q6.out
        obtain ⟨V1, hV⟩ : ∃ W, ub.alloc (.cells #[.slice fa fn fc, .int .i64 ft, .int .i64 dy] 32) = W := ⟨_, rfl⟩
        have CV1 := Lib.hid (p := BkP V1 ub.heap.size #[.slice fa fn fc, .int .i64 ft, .int .i64 dy] 32) (by rw [← hV]; exact heapN _ _)
        have bb : Below ub.heap.size ub V1 := by rw [← hV]; exact allocBP _ _
        have FV1 := Lib.hid (f6.later bb)
        have b57 := b5.trans (b6.mono b5.size)
        have DV1 := Lib.hid (p := Below w7.heap.size w7 V1) (b57.trans (bb.mono b57.size))
        have BV1 := Lib.hid (p := Below W0.heap.size W0 V1) (B7.out.trans (DV1.out.mono B7.out.size))
        have HV1 := Lib.hid hV
        obtain ⟨⟨a0, a1, a2, a3, a4, a5, a6, a7⟩, _⟩ := CL.out V1 BV1.out
        clear hV bb b57 b5 b6 f6 q6 K5
        go_upto_region 15 with fail
        rw [HV1.out]
        go_wp2_with fail
        go_at_call 11
        refine (KR.out V1 BV1.out).mono ?_
        rintro e va ⟨p1, rfl, h5⟩
        obtain ⟨b5, run5⟩ := h5.out
        have K5 := Lib.hid (run5 va (Below.refl _ _) ma k mc fs (L1.out va (DV1.out.trans (b5.mono DV1.out.size))) E1.out)
        clear run5 h5 a0 a1 a2 a3 a4 a5 a6 a7
        go_wp2_with fail
        go_at_call 10
        refine K5.out.mono ?_
        rintro e vb ⟨ga, gn, gc, rfl, q6⟩
        obtain ⟨f6, b6⟩ := q6.out
        obtain ⟨V2, hV⟩ : ∃ W, vb.alloc (.cells #[.slice ga gn gc, .int .i64 ft, .int .i64 dy] 32) = W := ⟨_, rfl⟩
        have CV2 := Lib.hid (p := BkP V2 vb.heap.size #[.slice ga gn gc, .int .i64 ft, .int .i64 dy] 32) (by rw [← hV]; exact heapN _ _)
        have bb : Below vb.heap.size vb V2 := by rw [← hV]; exact allocBP _ _
        have FV2 := Lib.hid (f6.later bb)
        have b57 := b5.trans (b6.mono b5.size)
        have DV2 := Lib.hid (p := Below V1.heap.size V1 V2) (b57.trans (bb.mono b57.size))
        have BV2 := Lib.hid (p := Below W0.heap.size W0 V2) (BV1.out.trans (DV2.out.mono BV1.out.size))
        have HV2 := Lib.hid hV
        obtain ⟨⟨a0, a1, a2, a3, a4, a5, a6, a7⟩, _⟩ := CL.out V2 BV2.out
        clear hV bb b57 b5 b6 f6 q6 K5
        go_upto_region 16 with fail
        rw [HV2.out]
        go_wp2_with fail
        have D2 := Lib.hid (p := Below w7.heap.size w7 V2) (DV1.out.trans (DV2.out.mono DV1.out.size))
        go_at_call 11
        refine (KR.out V2 BV2.out).mono ?_
        rintro e xq ⟨p1, rfl, h5⟩
        obtain ⟨b5, run5⟩ := h5.out
        have K5 := Lib.hid (run5 xq (Below.refl _ _) na2 (k + 1) nc2 _ (L2.out xq (D2.out.trans (b5.mono D2.out.size))) E2.out)
        clear run5 h5 a0 a1 a2 a3 a4 a5 a6 a7
        go_wp2_with fail
        go_at_call 10
        refine K5.out.mono ?_
        rintro e xb ⟨ha, hn, hc, rfl, q6⟩
        obtain ⟨f6, b6⟩ := q6.out
        obtain ⟨V3, hV⟩ : ∃ W, xb.alloc (.cells #[.slice ha hn hc, .int .i64 ft, .int .i64 dy] 32) = W := ⟨_, rfl⟩
        have CV3 := Lib.hid (p := BkP V3 xb.heap.size #[.slice ha hn hc, .int .i64 ft, .int .i64 dy] 32) (by rw [← hV]; exact heapN _ _)
        have bb : Below xb.heap.size xb V3 := by rw [← hV]; exact allocBP _ _
        have FV3 := Lib.hid (f6.later bb)
        have b57 := b5.trans (b6.mono b5.size)
        have DV3 := Lib.hid (p := Below V2.heap.size V2 V3) (b57.trans (bb.mono b57.size))
        have BV3 := Lib.hid (p := Below W0.heap.size W0 V3) (BV2.out.trans (DV3.out.mono BV2.out.size))
        have HV3 := Lib.hid hV
        obtain ⟨⟨a0, a1, a2, a3, a4, a5, a6, a7⟩, _⟩ := CL.out V3 BV3.out
        clear hV bb b57 b5 b6 f6 q6 K5
        go_upto_region 17 with fail
        rw [HV3.out]
        have CE := Lib.hid (p := ∀ V, Below V3.heap.size V3 V → (V.cell? ⟨ub.heap.size, 0, none⟩ = some (.slice fa fn fc) ∧ V.cell? ⟨ub.heap.size, 1, none⟩ = some (.int .i64 ft) ∧ V.cell? ⟨ub.heap.size, 2, none⟩ = some (.int .i64 dy)) ∧ (V.cell? ⟨vb.heap.size, 0, none⟩ = some (.slice ga gn gc) ∧ V.cell? ⟨vb.heap.size, 1, none⟩ = some (.int .i64 ft) ∧ V.cell? ⟨vb.heap.size, 2, none⟩ = some (.int .i64 dy)) ∧ (V.cell? ⟨xb.heap.size, 0, none⟩ = some (.slice ha hn hc) ∧ V.cell? ⟨xb.heap.size, 1, none⟩ = some (.int .i64 ft) ∧ V.cell? ⟨xb.heap.size, 2, none⟩ = some (.int .i64 dy)) ∧ FLm V fa fn sf ∧ FLm V ga gn sf ∧ FLm V ha hn sf ∧ Below w.heap.size w V) (fun V b => by
          have b1 := DV2.out.trans (DV3.out.mono DV2.out.size)
          have b13 := b1.trans (b.mono b1.size)
          have b23 := DV3.out.trans (b.mono DV3.out.size)
          exact ⟨box_all3P (CV1.out.lat b13), box_all3P (CV2.out.lat b23), box_all3P (CV3.out.lat b), FV1.out.later b13, FV2.out.later b23, FV3.out.later b, (CL.out V (BV3.out.trans (b.mono BV3.out.size))).2⟩)
        obtain ⟨⟨y0, y1, y2⟩, ⟨y3, y4, y5⟩, ⟨y6, y7, y8⟩, _⟩ := CE.out V3 (Below.refl _ _)
        have M1 : True := trivial
        clear a0 a1 a2 a3 a4 a5 a6 a7 CV1 CV2 CV3 FV1 FV2 FV3 DV1 DV2 DV3 BV1 BV2 BV3 L1 L2 E1 E2 RR KR CL R7 D2 B7
        go_wp2_with (first
          | (go_at_call 14; refine (KN.out 0 _).mono ?_; rintro e wx ⟨rfl, hw⟩; replace hw := hw.symm; subst hw)
          | (go_at_call 20; have mm := M1; refine (KE.out V3 fa fn fc ga gn gc (CE.out V3 (Below.refl _ _)).2.2.2.1 (CE.out V3 (Below.refl _ _)).2.2.2.2.1).mono ?_; rintro e z1 ⟨rfl, b1⟩; have BZ1 := Lib.hid b1; obtain ⟨⟨t0, t1, t2⟩, ⟨t3, t4, t5⟩, ⟨t6, t7, t8⟩, _⟩ := CE.out z1 b1; clear M1 mm b1)
          | (go_at_call 20; refine (KE.out z1 fa fn fc ha hn hc (CE.out z1 BZ1.out).2.2.2.1 (CE.out z1 BZ1.out).2.2.2.2.2.1).mono ?_; rintro e z2 ⟨rfl, b2⟩; have BZ2 := Lib.hid (p := Below w.heap.size w z2) ((CE.out z2 (BZ1.out.trans (b2.mono BZ1.out.size))).2.2.2.2.2.2); clear b2))
        go_ret
        exact ⟨rfl, BZ2.out⟩
  · have KT1 := Lib.hid (p := ∀ V, Below W0.heap.size W0 V → Calls Tryz.prog 13 #[p.agg] V fun e w' => ∃ x y z, e = .returned (.tuple #[.agg #[.int .i64 x, .int .i64 y, .int .i64 z], .bool false]) ∧ Below V.heap.size V w') (fun V b => (KT.out V b).mono (fun e w' q => by obtain ⟨rfl, q2⟩ := q; rw [decide_eq_false hv]; exact ⟨_, _, _, rfl, q2⟩))
    clear KT hr h hR hU B0 P0 hW0 hv hx
    unfold Pg.agg Pg.box at *
    obtain ⟨na, nc, names, ua, uc, curs, pa, pc, pool, hor, cells, slots, stack, da, dc, days⟩ := p
    simp only at *
    go_enter Tryz.func5, Tryz.ntmps5
    go_wp2_with fail
    go_at_call 9
    rw [HW.out]
    refine KP.out.mono ?_
    rintro e w1 ⟨rfl, b1⟩
    obtain ⟨⟨a0, a1, a2, a3, a4, a5, a6, a7⟩, _⟩ := CL.out w1 b1
    go_wp2_with fail
    go_at_call 13
    refine (KT1.out w1 b1).mono ?_
    rintro e w2 ⟨tx, ty, tz, rfl, b2⟩
    have b12 := b1.trans (b2.mono b1.size)
    have BE := Lib.hid (p := ∀ o, Below w.heap.size w (w2.alloc o)) (fun o => (CL.out _ (b12.trans ((allocBP w2 o).mono b12.size))).2)
    clear b1 b2 b12
    go_wp2
    go_ret
    exact ⟨rfl, BE.out _⟩
end Go.Proofs.YtpfjnnkjoabgbaaGreatDoor
