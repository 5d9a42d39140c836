/-
  WALK: the document's Done.
-/
import Derived.Test.YtjlnbhmiahegmaaM78
namespace Go.Proofs.Ytjlnbhmiahegmaa
open Go.RowKit
set_option linter.unusedVariables false
set_option linter.unusedSimpArgs false

/-- What Done answers. -/
def DnE (r : Int × Bool × Int) (e : Ending) : Prop := ∃ v, e = .returned (.tuple #[.int .i64 v, .bool r.2.1, .int .i64 r.2.2]) ∧ (r.2.1 = true → v = r.1)
theorem xform {w : World} {e : Xt} {vs : List Value} (h : XV w e vs) : ∃ a b c d n k, vs = [.int .i64 a, .int .i64 b, .int .i64 c, .slice d n k] := by
  cases h; exact ⟨_, _, _, _, _, _, rfl⟩
theorem SC6.six' {w w0 : World} {p q : Nat} {s : St} (h : SC6 w p q s) (hA : SV w0 s) : ∃ x0 x1 x2 x3 x4 x5, s.x = [.int .i64 x0, .int .i64 x1, .int .i64 x2, .slice x3 x4 x5] ∧ w.cell? ⟨p, q + 2, none⟩ = some (.int .i64 x0) ∧ w.cell? ⟨p, q + 3, none⟩ = some (.int .i64 x1) ∧ w.cell? ⟨p, q + 4, none⟩ = some (.int .i64 x2) ∧ w.cell? ⟨p, q + 5, none⟩ = some (.slice x3 x4 x5) := by
  obtain ⟨x0, x1, x2, x3, x4, x5, hx⟩ := xform hA.2
  have k := h.x
  rw [hx] at k
  exact ⟨x0, x1, x2, x3, x4, x5, hx, k 0 (by omega), k 1 (by omega), k 2 (by omega), k 3 (by omega)⟩
set_option maxRecDepth 100000 in
set_option maxHeartbeats 20000000 in
theorem rdone_any {w0 w : World} {a : At} (hA : AV w0 a) (hB : Below w0.heap.size w0 w) {ra ca : Option Addr} {rn rc cn cc : Nat} {rs : List Rw} {C : List Int} (hrl : RL w ra rn rs) (hil : IL w ca cn C) (hK : ∀ i, i < a.ss.length → okK (a.ss.getD i default).kind) :
    Calls Try.prog 35 #[.agg a.cs.toArray, .slice ra rn rc, .slice ca cn cc] w fun e w' => DnE (doneR (Rws rs) C a) e ∧ Below w.heap.size w w' := by
  have HR := Lib.hid (rl_inR hrl)
  obtain ⟨x0, x1, x2, x3, x4, x5, hx⟩ := xform hA.2.2.2.1
  have HX := Lib.hid hx
  have hcs : a.cs = [.int .i64 a.day, .int .i64 a.kind, .slice a.sa a.ss.length a.sc, .int .i64 x0, .int .i64 x1, .int .i64 x2, .slice x3 x4 x5, .string a.cur, .int .i64 a.cell] := by unfold At.cs; rw [hx]; rfl
  rw [hcs]
  have HA := Lib.hid hA
  have HB := Lib.hid hB
  have HRL := Lib.hid hrl
  have HIL := Lib.hid hil
  have HK := Lib.hid hK
  obtain ⟨n, hn⟩ : ∃ n, a.ss.length = n := ⟨_, rfl⟩
  have HL := Lib.hid hn
  have NL : n ≤ 2199023255488 := by rw [← hn]; exact hA.2.2.2.2.2.1.1
  rw [hn]
  have MK := fun W => make_is0 W n (by omega)
  obtain ⟨w1, hw1⟩ : ∃ w1, (w.alloc (.cells #[.int .i64 a.day, .int .i64 a.kind, .slice a.sa n a.sc, .int .i64 x0, .int .i64 x1, .int .i64 x2, .slice x3 x4 x5, .string a.cur, .int .i64 a.cell] 71)).alloc (.cells (madeCells #[.int .i64 0] n) 3) = w1 := ⟨_, rfl⟩
  have X1 := Lib.hid (show Below w.heap.size w w1 ∧ Bk w1 w.heap.size #[.int .i64 a.day, .int .i64 a.kind, .slice a.sa n a.sc, .int .i64 x0, .int .i64 x1, .int .i64 x2, .slice x3 x4 x5, .string a.cur, .int .i64 a.cell] 71 ∧ FB w1 (w.heap.size + 1) (Rws rs) C a.ss 0 by
    subst hw1
    refine ⟨((Below.refl _ _).alloc (Nat.le_refl _) _).alloc (by simp) _, (Bk.new w _ _).alloc _, ?_⟩
    have := Bk.new (w.alloc (.cells #[.int .i64 a.day, .int .i64 a.kind, .slice a.sa n a.sc, .int .i64 x0, .int .i64 x1, .int .i64 x2, .slice x3 x4 x5, .string a.cur, .int .i64 a.cell] 71)) (madeCells #[.int .i64 0] n) 3
    rw [World.size_alloc] at this
    exact ⟨_, this, by simp [madeCells, hn], fun i hi => absurd hi (by omega)⟩)
  have HW1 := Lib.hid hw1
  clear hw1 hcs hA hB hrl hil hK hx hn
  go_enter Try.func35, Try.ntmps35
  go_wp2
  rw [HW1.out]
  clear HW1 MK
  go_loopw [10] (fun t wr => ∃ (i : Nat), i ≤ n ∧ t = .int .i64 i ∧ RowKit.Hid (∀ j, j < i → okS (Rws rs) C (a.ss.getD j default)) ∧ FB wr (w.heap.size + 1) (Rws rs) C a.ss i ∧ Bk wr w.heap.size #[.int .i64 a.day, .int .i64 a.kind, .slice a.sa n a.sc, .int .i64 x0, .int .i64 x1, .int .i64 x2, .slice x3 x4 x5, .string a.cur, .int .i64 a.cell] 71 ∧ Below w.heap.size w wr) (fun t _ => n - (intOf t).toNat)
  case atStart => exact ⟨0, by omega, rfl, fun j hj => absurd hj (by omega), X1.out.2.2, X1.out.2.1, X1.out.1⟩
  case round =>
    clear X1
    obtain ⟨i, hi, rfl, HO, hF, hBx, hBl⟩ := hrel
    have HF := Lib.hid hF
    have HBX := Lib.hid hBx
    have BL := Lib.hid hBl
    have b2 := hBx.cell 2
    simp at b2
    clear hF hBx hBl
    have BW := Lib.hid (HB.out.trans (BL.out.mono HB.out.size))
    by_cases il : i < n
    · have ic : (i : Int) < (n : Int) := by omega
      have il' : i < a.ss.length := by rw [HL.out]; exact il
      obtain ⟨b, o, hsa, hb, hat⟩ := HA.out.2.2.2.2.2.1.at (by omega)
      rw [hsa] at b2
      obtain ⟨hsv, hsc0⟩ := hat i il'
      have hsc := hsc0.later BW.out hb
      obtain ⟨y0, y1, y2, y3, y4, y5, hy, s2, s3, s4, s5⟩ := hsc.six' hsv
      have s0 := hsc.kind
      have s1 := hsc.want
      have OKI := HK.out i il'
      have HXV : XV w0 (a.ss.getD i default).e [.int .i64 y0, .int .i64 y1, .int .i64 y2, .slice y3 y4 y5] := by rw [← hy]; exact hsv.2
      have NX := Lib.hid (show okS (Rws rs) C (a.ss.getD i default) → ∀ j, j < i + 1 → okS (Rws rs) C (a.ss.getD j default) from fun h j hj => by
        by_cases e : j = i
        · rw [e]; exact h
        · exact HO.out j (by omega))
      have BAD := Lib.hid (show ¬ okS (Rws rs) C (a.ss.getD i default) → passF (Rws rs) C a.ss = (((a.ss.getD i default).e.val (Rws rs) C).2, false) from fun h => passF_bad a.ss i il' HO.out h)
      obtain ⟨⟨vv, ff⟩, hv⟩ : ∃ r, (a.ss.getD i default).e.val (Rws rs) C = r := ⟨_, rfl⟩
      rw [hv] at BAD
      have HV := Lib.hid hv
      obtain ⟨wt, hwt⟩ : ∃ b, (a.ss.getD i default).want = b := ⟨_, rfl⟩
      rw [hwt] at s1
      have HWT := Lib.hid hwt
      obtain ⟨kd, hkd⟩ : ∃ k, (a.ss.getD i default).kind = k := ⟨_, rfl⟩
      rw [hkd] at s0 OKI
      have HKD := Lib.hid hkd
      obtain ⟨w2, hw2⟩ : ∃ w2, wr.alloc (.cells #[.int .i64 kd, .bool wt, .int .i64 y0, .int .i64 y1, .int .i64 y2, .slice y3 y4 y5] 73) = w2 := ⟨_, rfl⟩
      have X2 := Lib.hid (NB.is hw2)
      have HW2 := Lib.hid hw2
      have BL2 := Lib.hid (BL.out.trans (X2.out.1.mono BL.out.size))
      have BW2 := Lib.hid (BW.out.trans (X2.out.1.mono BW.out.size))
      have KV := Lib.hid (rvalue_is HXV (ra := ra) (ca := ca) (rn := rn) (rc := rc) (cn := cn) (cc := cc) rfl w2 BW2.out (HRL.out.later BL2.out) (HIL.out.later BL2.out) hv)
      have q0 := X2.out.2.cell 0
      have q1 := X2.out.2.cell 1
      have q2 := X2.out.2.cell 2
      have q3 := X2.out.2.cell 3
      have q4 := X2.out.2.cell 4
      have q5 := X2.out.2.cell 5
      simp at q0 q1 q2 q3 q4 q5
      clear hat hsv hsc hsc0 hsa hy hv hwt hkd hw2 HXV
      have F2 := Lib.hid (HF.out.later X2.out.1)
      have K2' := Lib.hid (HBX.out.below X2.out.1 HBX.out.lt)
      rcases OKI with rfl | rfl | rfl
      · go_wp2_with fail
        rw [HW2.out]
        go_wp2_with fail
        go_at_call 10
        refine KV.out.mono ?_
        rintro e w3 ⟨rfl, b3⟩
        have B3 := Lib.hid b3
        have BL3 := Lib.hid (BL2.out.trans (b3.mono BL2.out.size))
        have X3 := X2.out.2.below b3 X2.out.2.lt
        have F3 := Lib.hid (F2.out.later b3)
        have K3 := Lib.hid (K2'.out.below b3 K2'.out.lt)
        have r0 := X3.cell 0
        have r1 := X3.cell 1
        simp at r0 r1
        obtain ⟨cur, c1, c2, c3⟩ := F3.out
        rw [HL.out] at c2
        obtain ⟨u0, e0⟩ := c1.some1 i (by omega)
        have f0 := c1.frozen i
        clear b3 X3 q0 q1 q2 q3 q4 q5 c1 c2 c3
        by_cases z : ff = 0
        · subst z
          have TS := Lib.hid (show decide (¬ vv = 0) = wt → ∀ j, j < i + 1 → okS (Rws rs) C (a.ss.getD j default) from fun t => NX.out (.inr ⟨by rw [HV.out], fun _ => by rw [HV.out, HWT.out]; exact t⟩))
          have TN := Lib.hid (show ¬ decide (¬ vv = 0) = wt → doneR (Rws rs) C a = (0, false, 0) from fun t => done_not (BAD.out (fun h => by
              rcases h with h | h
              · rw [HKD.out] at h; omega
              · have := h.2 HKD.out; rw [HV.out, HWT.out] at this; exact t this)))
          have PUT := Lib.hid (F3.out.put il' (show ((a.ss.getD i default).e.val (Rws rs) C).1 = vv by rw [HV.out]))
          by_cases q : vv = 0
          · subst q
            cases wt
            · have OK := Lib.hid (TS.out (by decide))
              go_wp2
              go_roundw
              case rel => exact ⟨i + 1, by omega, by go_num, OK.out, PUT.out, K3.out.other _ _ _ (by omega), BL3.out.setCell (p := ⟨w.heap.size + 1, i, none⟩) (by simp) _⟩
              case measure => simp [intOf]; omega
            · have DN := Lib.hid (TN.out (by decide))
              go_wp2
              go_ret3
              exact ⟨⟨0, by rw [DN.out]; rfl, fun h => by rw [DN.out]⟩, BL3.out⟩
          · have m1 : (vv != 0) = true := by simpa using q
            have m2 : (vv == 0) = false := by simpa using q
            cases wt
            · have DN := Lib.hid (TN.out (by simp [q]))
              go_wp2
              go_ret3
              exact ⟨⟨0, by rw [DN.out]; rfl, fun h => by rw [DN.out]⟩, BL3.out⟩
            · have OK := Lib.hid (TS.out (by simp [q]))
              go_wp2
              go_roundw
              case rel => exact ⟨i + 1, by omega, by go_num, OK.out, PUT.out, K3.out.other _ _ _ (by omega), BL3.out.setCell (p := ⟨w.heap.size + 1, i, none⟩) (by simp) _⟩
              case measure => simp [intOf]; omega
        · have pf := BAD.out (fun h => by
            rcases h with h | h
            · rw [HKD.out] at h; omega
            · have := h.1; rw [HV.out] at this; exact z this)
          have DN := Lib.hid (show doneR (Rws rs) C a = (0, false, ff) from by rw [done_pass (by rw [pf]; exact z), pf])
          have z1 : (ff != 0) = true := by simpa using z
          clear pf
          go_wp2
          go_ret3
          exact ⟨⟨0, by rw [DN.out]; rfl, fun h => by rw [DN.out]⟩, BL3.out⟩
      · go_wp2_with fail
        rw [HW2.out]
        go_wp2_with fail
        go_at_call 10
        refine KV.out.mono ?_
        rintro e w3 ⟨rfl, b3⟩
        have B3 := Lib.hid b3
        have BL3 := Lib.hid (BL2.out.trans (b3.mono BL2.out.size))
        have X3 := X2.out.2.below b3 X2.out.2.lt
        have F3 := Lib.hid (F2.out.later b3)
        have K3 := Lib.hid (K2'.out.below b3 K2'.out.lt)
        have r0 := X3.cell 0
        have r1 := X3.cell 1
        simp at r0 r1
        obtain ⟨cur, c1, c2, c3⟩ := F3.out
        rw [HL.out] at c2
        obtain ⟨u0, e0⟩ := c1.some1 i (by omega)
        have f0 := c1.frozen i
        clear b3 X3 q0 q1 q2 q3 q4 q5 c1 c2 c3
        by_cases z : ff = 0
        · subst z
          have PUT := Lib.hid (F3.out.put il' (show ((a.ss.getD i default).e.val (Rws rs) C).1 = vv by rw [HV.out]))
          have OK := Lib.hid (NX.out (.inr ⟨by rw [HV.out], fun h => by rw [HKD.out] at h; omega⟩))
          go_wp2
          go_roundw
          case rel => exact ⟨i + 1, by omega, by go_num, OK.out, PUT.out, K3.out.other _ _ _ (by omega), BL3.out.setCell (p := ⟨w.heap.size + 1, i, none⟩) (by simp) _⟩
          case measure => simp [intOf]; omega
        · have pf := BAD.out (fun h => by
            rcases h with h | h
            · rw [HKD.out] at h; omega
            · have := h.1; rw [HV.out] at this; exact z this)
          have DN := Lib.hid (show doneR (Rws rs) C a = (0, false, ff) from by rw [done_pass (by rw [pf]; exact z), pf])
          have z1 : (ff != 0) = true := by simpa using z
          clear pf
          go_wp2
          go_ret3
          exact ⟨⟨0, by rw [DN.out]; rfl, fun h => by rw [DN.out]⟩, BL3.out⟩
      · have OK := Lib.hid (NX.out (.inl HKD.out))
        go_wp2_with fail
        rw [HW2.out]
        go_wp2
        go_roundw
        case rel => exact ⟨i + 1, by omega, by go_num, OK.out, F2.out.skip (by rw [HKD.out]; omega), K2'.out, BL2.out⟩
        case measure => simp [intOf]; omega
    · obtain rfl : i = n := by omega
      have PFK := Lib.hid (passF_ok (R := Rws rs) (C := C) a.ss (fun s hs => by
        obtain ⟨j, hj, rfl⟩ := List.mem_iff_getElem.1 hs
        have := HO.out j (by rw [← HL.out]; exact hj)
        simpa [List.getD, hj] using this))
      obtain ⟨r0, hr0⟩ : ∃ r, a.e.val (Rws rs) C = r := ⟨_, rfl⟩
      have HV0 := Lib.hid hr0
      have HXV : XV w0 a.e [.int .i64 x0, .int .i64 x1, .int .i64 x2, .slice x3 x4 x5] := by rw [← HX.out]; exact HA.out.2.2.2.1
      have VIN := Lib.hid (show inR r0.1 from by rw [← hr0]; exact val_in HXV (Rws rs) C HR.out HIL.out.2.2.1)
      have KV := Lib.hid (rvalue_is HXV (ra := ra) (ca := ca) (rn := rn) (rc := rc) (cn := cn) (cc := cc) rfl wr BW.out (HRL.out.later BL.out) (HIL.out.later BL.out) hr0)
      have b3 := HBX.out.cell 3
      have b4 := HBX.out.cell 4
      have b5 := HBX.out.cell 5
      have b6 := HBX.out.cell 6
      simp at b3 b4 b5 b6
      clear hr0 HXV
      go_wp2_with fail
      go_at_call 10
      refine KV.out.mono ?_
      rintro e w3 ⟨rfl, c3⟩
      have BL3 := Lib.hid (BL.out.trans (c3.mono BL.out.size))
      have BW3 := Lib.hid (BW.out.trans (c3.mono BW.out.size))
      have F3 := Lib.hid (HF.out.later c3)
      have K3 := Lib.hid (HBX.out.below c3 HBX.out.lt)
      have d2 := K3.out.cell 2
      simp at d2
      clear c3 b2 b3 b4 b5 b6
      have ST := Lib.hid (show turnR (Rws rs) C (a.ss.drop i) r0 = r0 from by rw [List.drop_eq_nil_of_le (by rw [HL.out]; exact Nat.le_refl _)]; rfl)
      have VS := Lib.hid (show ∀ j, j < a.ss.length → inR ((a.ss.getD j default).e.val (Rws rs) C).1 from fun j hj => val_in (HA.out.2.2.2.2.2.1.2.1 _ (by rw [show a.ss.getD j default = a.ss[j] by simp [List.getD, hj]]; exact List.getElem_mem hj)).2 (Rws rs) C HR.out HIL.out.2.2.1)
      go_wp2
      go_loopw [14, 15, 16] (fun x y t wr => ∃ (k : Nat), k ≤ i ∧ t = .int .i64 ((k : Int) - 1) ∧ x = .int .i64 (turnR (Rws rs) C (a.ss.drop k) r0).1 ∧ y = .int .i64 (turnR (Rws rs) C (a.ss.drop k) r0).2 ∧ FB wr (w.heap.size + 1) (Rws rs) C a.ss i ∧ Bk wr w.heap.size #[.int .i64 a.day, .int .i64 a.kind, .slice a.sa i a.sc, .int .i64 x0, .int .i64 x1, .int .i64 x2, .slice x3 x4 x5, .string a.cur, .int .i64 a.cell] 71 ∧ Below w.heap.size w wr) (fun _ _ t _ => (intOf t + 1).toNat)
      case atStart => exact ⟨i, Nat.le_refl _, rfl, by rw [ST.out], by rw [ST.out], F3.out, K3.out, BL3.out⟩
      case round =>
        clear ST d2 BL3 BW3 F3 K3
        obtain ⟨k, hk, rfl, rfl, rfl, hF, hBx, hBl⟩ := hrel
        have F3 := Lib.hid hF
        have K3 := Lib.hid hBx
        have BL3 := Lib.hid hBl
        have BW3 := Lib.hid (HB.out.trans (hBl.mono HB.out.size))
        have d2 := hBx.cell 2
        simp at d2
        clear hF hBx hBl
        obtain ⟨⟨rv, rf⟩, hr⟩ : ∃ r, turnR (Rws rs) C (a.ss.drop k) r0 = r := ⟨_, rfl⟩
        rw [hr]
        have HRR := Lib.hid hr
        have RIN := Lib.hid (show inR rv from by have := turnR_in (R := Rws rs) (C := C) (a.ss.drop k) r0 VIN.out; rw [hr] at this; exact this)
        clear hr
        by_cases z : rf = 0
        · subst z
          by_cases kz : k = 0
          · subst kz
            have DN := Lib.hid (show doneR (Rws rs) C a = (rv, true, 0) from by
              have := HRR.out
              rw [List.drop_zero] at this
              rw [done_turn PFK.out (show turnR (Rws rs) C a.ss (a.e.val (Rws rs) C) = (rv, 0) by rw [HV0.out]; exact this)]; simp)
            rw [show (((0 : Nat) : Int) - 1) = -1 by omega]
            go_wp2
            go_ret3
            exact ⟨⟨rv, by rw [DN.out]; rfl, fun _ => by rw [DN.out]⟩, BL3.out⟩
          · obtain ⟨j, rfl⟩ : ∃ j, k = j + 1 := ⟨k - 1, by omega⟩
            rw [show (((j + 1 : Nat) : Int) - 1) = (j : Int) by omega]
            have jl : j < i := by omega
            have jc : (j : Int) < (i : Int) := by omega
            have j0 : (0 : Int) ≤ (j : Int) := by omega
            have j0d : decide ((0 : Int) ≤ (j : Int)) = true := decide_eq_true j0
            have jl' : j < a.ss.length := by rw [HL.out]; exact jl
            obtain ⟨b, o, hsa, hb, hat⟩ := HA.out.2.2.2.2.2.1.at (by omega)
            rw [hsa] at d2
            have d0 := ((hat j jl').2.later BW3.out hb).kind
            have NX := Lib.hid (turnR_drop (R := Rws rs) (C := C) jl' r0)
            have OKI := HK.out j jl'
            have FV := Lib.hid (VS.out j jl')
            obtain ⟨cur, c1, c2, c3⟩ := F3.out
            have FC3 := Lib.hid (c3 j jl)
            have wi : IntKind.i64.wrap ((j : Int) - 1) = (j : Int) - 1 := by simp [IntKind.wrap, IntKind.bits, IntKind.signed]; omega
            rw [HRR.out] at NX
            obtain ⟨fv, hfv⟩ : ∃ r, ((a.ss.getD j default).e.val (Rws rs) C).1 = r := ⟨_, rfl⟩
            rw [hfv] at NX FV FC3
            obtain ⟨kd, hkd⟩ : ∃ r, (a.ss.getD j default).kind = r := ⟨_, rfl⟩
            rw [hkd] at NX FC3 OKI d0
            have C1 := Lib.hid c1
            clear hat hsa hfv hkd c1 c2 c3
            rcases OKI with rfl | rfl | rfl
            · have E := Lib.hid (show turnR (Rws rs) C (a.ss.drop j) r0 = (rv, 0) from by have := NX.out; simpa using this)
              go_wp2
              go_roundw
              case rel => exact ⟨j, by omega, by go_num, by rw [E.out], by rw [E.out], F3.out, K3.out, BL3.out⟩
              case measure => simp [intOf]
            · have E := Lib.hid (show turnR (Rws rs) C (a.ss.drop j) r0 = (fitV (fv * rv), fitF (fv * rv)) from by have := NX.out; simpa using this)
              have c0 := (C1.out.cell j).trans (FC3.out rfl)
              have KM := Lib.hid (refMul_any fv rv FV.out RIN.out wr)
              go_wp2_with fail
              go_at_call 42
              refine KM.out.mono ?_
              rintro e w4 ⟨rfl, b4⟩
              have F4 := Lib.hid (F3.out.later b4)
              have K4 := Lib.hid (K3.out.below b4 K3.out.lt)
              have BL4 := Lib.hid (BL3.out.trans (b4.mono BL3.out.size))
              clear b4
              go_wp2
              go_roundw
              case rel => exact ⟨j, by omega, by go_num, by rw [E.out], by rw [E.out], F4.out, K4.out, BL4.out⟩
              case measure => simp [intOf]
            · have E := Lib.hid (show turnR (Rws rs) C (a.ss.drop j) r0 = (fitV (-rv), fitF (-rv)) from by have := NX.out; simpa using this)
              have KM := Lib.hid (refNeg_any rv RIN.out wr)
              go_wp2_with fail
              go_at_call 38
              refine KM.out.mono ?_
              rintro e w4 ⟨rfl, b4⟩
              have F4 := Lib.hid (F3.out.later b4)
              have K4 := Lib.hid (K3.out.below b4 K3.out.lt)
              have BL4 := Lib.hid (BL3.out.trans (b4.mono BL3.out.size))
              clear b4
              go_wp2
              go_roundw
              case rel => exact ⟨j, by omega, by go_num, by rw [E.out], by rw [E.out], F4.out, K4.out, BL4.out⟩
              case measure => simp [intOf]
        · have DN := Lib.hid (show doneR (Rws rs) C a = (0, false, rf) from by
            have tl := turnR_left (R := Rws rs) (C := C) (l := a.ss) (v := r0) k (by rw [HRR.out]; exact z)
            rw [HRR.out] at tl
            rw [done_turn PFK.out (show turnR (Rws rs) C a.ss (a.e.val (Rws rs) C) = (rv, rf) by rw [HV0.out]; exact tl), if_pos (show ¬ (rv, rf).2 = 0 from z)])
          have z1 : (rf == 0) = false := by simpa using z
          have zz : ¬ rf = 0 := z
          by_cases kz : (0 : Int) ≤ (k : Int) - 1
          · go_wp2
            go_ret3
            exact ⟨⟨rv, by rw [DN.out]; rfl, fun h => by rw [DN.out] at h; cases h⟩, BL3.out⟩
          · go_wp2
            go_ret3
            exact ⟨⟨rv, by rw [DN.out]; rfl, fun h => by rw [DN.out] at h; cases h⟩, BL3.out⟩
end Go.Proofs.Ytjlnbhmiahegmaa
