/-
  WALK: the law's keptActions.
-/
import Derived.Test.YtjlnbhmiahegmaaMCD
namespace Go.Proofs.Ytjlnbhmiahegmaa
open Go.RowKit
set_option linter.unusedVariables false
set_option linter.unusedSimpArgs false

theorem HA1.nine {w : World} {lo b : Nat} {CUR : Array Value} {i : Nat} {a a' : At} (h : HA1 w lo CUR i a a') (hb : Bk w b CUR 71) : ∃ sb z0 z1 z2 z3 z4 z5, a'.sa = some ⟨sb, 0, none⟩ ∧ a'.x = [.int .i64 z0, .int .i64 z1, .int .i64 z2, .slice z3 z4 z5] ∧
    w.cell? ⟨b, i * 9, none⟩ = some (.int .i64 a.day) ∧ w.cell? ⟨b, i * 9 + 1, none⟩ = some (.int .i64 a.kind) ∧ w.cell? ⟨b, i * 9 + 2, none⟩ = some (.slice (some ⟨sb, 0, none⟩) a.ss.length (a.ss.length + 3)) ∧ w.cell? ⟨b, i * 9 + 3, none⟩ = some (.int .i64 z0) ∧ w.cell? ⟨b, i * 9 + 4, none⟩ = some (.int .i64 z1) ∧ w.cell? ⟨b, i * 9 + 5, none⟩ = some (.int .i64 z2) ∧ w.cell? ⟨b, i * 9 + 6, none⟩ = some (.slice z3 z4 z5) ∧ w.cell? ⟨b, i * 9 + 7, none⟩ = some (.string a.cur) ∧ w.cell? ⟨b, i * 9 + 8, none⟩ = some (.int .i64 a.cell) := by
  obtain ⟨sb, cur, hsa, _⟩ := h.ss
  obtain ⟨z0, z1, z2, z3, z4, z5, hz⟩ := h.xh.form
  have e : a'.cs = [.int .i64 a.day, .int .i64 a.kind, .slice (some ⟨sb, 0, none⟩) a.ss.length (a.ss.length + 3), .int .i64 z0, .int .i64 z1, .int .i64 z2, .slice z3 z4 z5, .string a.cur, .int .i64 a.cell] := by
    unfold At.cs; rw [hz, h.day, h.kind, h.cur, h.cell, h.sl, h.sc, hsa]; rfl
  have k := h.cs
  rw [e] at k
  refine ⟨sb, z0, z1, z2, z3, z4, z5, hsa, hz, ?_, ?_, ?_, ?_, ?_, ?_, ?_, ?_, ?_⟩
  all_goals rw [hb.cell]
  · exact k 0 (by omega)
  · exact k 1 (by omega)
  · exact k 2 (by omega)
  · exact k 3 (by omega)
  · exact k 4 (by omega)
  · exact k 5 (by omega)
  · exact k 6 (by omega)
  · exact k 7 (by omega)
  · exact k 8 (by omega)
theorem HS1.six {w : World} {lo b : Nat} {cur : Array Value} {k : Nat} {s s' : St} (h : HS1 w lo cur k s s') (hb : Bk w b cur 73) : ∃ z0 z1 z2 z3 z4 z5, s'.x = [.int .i64 z0, .int .i64 z1, .int .i64 z2, .slice z3 z4 z5] ∧
    w.cell? ⟨b, k * 6, none⟩ = some (.int .i64 s.kind) ∧ w.cell? ⟨b, k * 6 + 1, none⟩ = some (.bool s.want) ∧ w.cell? ⟨b, k * 6 + 2, none⟩ = some (.int .i64 z0) ∧ w.cell? ⟨b, k * 6 + 3, none⟩ = some (.int .i64 z1) ∧ w.cell? ⟨b, k * 6 + 4, none⟩ = some (.int .i64 z2) ∧ w.cell? ⟨b, k * 6 + 5, none⟩ = some (.slice z3 z4 z5) := by
  obtain ⟨z0, z1, z2, z3, z4, z5, hz⟩ := h.xh.form
  have e : s'.cs = [.int .i64 s.kind, .bool s.want, .int .i64 z0, .int .i64 z1, .int .i64 z2, .slice z3 z4 z5] := by unfold St.cs; rw [hz, h.kind, h.want]
  have q := h.cs
  rw [e] at q
  refine ⟨z0, z1, z2, z3, z4, z5, hz, ?_, ?_, ?_, ?_, ?_, ?_⟩
  all_goals rw [hb.cell]
  · exact q 0 (by omega)
  · exact q 1 (by omega)
  · exact q 2 (by omega)
  · exact q 3 (by omega)
  · exact q 4 (by omega)
  · exact q 5 (by omega)
set_option maxRecDepth 100000 in
set_option maxHeartbeats 20000000 in
theorem keptActions_any {w : World} {al : List At} {pa : Option Addr} {pc : Nat} (hA : AL w pa al) {b : Nat} {CUR : Array Value} {A : Nat → At} (hH : HAs w b al (al.length + 3) CUR A) :
    Calls Try.prog 19 #[.slice (some ⟨b, 0, none⟩) al.length (al.length + 3), .slice pa al.length pc] w fun e' w' => e' = .returned (.bool true) ∧ Below w.heap.size w w' := by
  have hn := hA.1
  have HA := Lib.hid hA
  have HH := Lib.hid hH
  have hbl : b < w.heap.size := hH.bk.lt
  obtain ⟨n, hnn⟩ : ∃ n, al.length = n := ⟨_, rfl⟩
  have HL := Lib.hid hnn
  rw [hnn] at hn ⊢
  clear hA hnn hH
  go_enter Try.func19, Try.ntmps19
  go_wp2
  go_loopw [6] (fun t wr => ∃ (i : Nat), i ≤ n + 3 ∧ t = .int .i64 i ∧ Below w.heap.size w wr) (fun t _ => n + 3 - (intOf t).toNat)
  case atStart => exact ⟨0, by omega, rfl, Below.refl _ _⟩
  case round =>
    rename World => wo
    obtain ⟨i, hi, rfl, hBl⟩ := hrel
    have BL := Lib.hid hBl
    clear hBl
    by_cases il : i < n + 3
    · have ic : (i : Int) < (n : Int) + 3 := by omega
      by_cases jl : i < n
      · have jc : (i : Int) < (n : Int) := by omega
        have jd : decide (n ≤ i) = false := by simpa using jl
        have jn : ¬ n ≤ i := by omega
        have il' : i < al.length := by rw [HL.out]; exact jl
        obtain ⟨ob, oo, hpa, hob, hat⟩ := HA.out.at (by omega)
        subst hpa
        obtain ⟨hav, hac0⟩ := hat i il'
        have hh := HH.out.act i (by omega) il'
        have HAV := Lib.hid hav
        have HHH := Lib.hid hh
        obtain ⟨sb, z0, z1, z2, z3, z4, z5, hsa, hz, g0, g1, g2, g3, g4, g5, g6, g7, g8⟩ := hh.nine HH.out.bk
        have hac := hac0.later BL.out hob
        obtain ⟨x0, x1, x2, x3, x4, x5, hx, k3, k4, k5, k6⟩ := hac.nine hav
        have k0 := hac.day
        have k1 := hac.kind
        have k2 := hac.ss
        have k7 := hac.cur
        have k8 := hac.cell
        have q0 := (BL.out.cell (p := ⟨b, i * 9, none⟩) hbl).trans g0
        have q1 := (BL.out.cell (p := ⟨b, i * 9 + 1, none⟩) hbl).trans g1
        have q2 := (BL.out.cell (p := ⟨b, i * 9 + 2, none⟩) hbl).trans g2
        have q3 := (BL.out.cell (p := ⟨b, i * 9 + 3, none⟩) hbl).trans g3
        have q4 := (BL.out.cell (p := ⟨b, i * 9 + 4, none⟩) hbl).trans g4
        have q5 := (BL.out.cell (p := ⟨b, i * 9 + 5, none⟩) hbl).trans g5
        have q6 := (BL.out.cell (p := ⟨b, i * 9 + 6, none⟩) hbl).trans g6
        have q7 := (BL.out.cell (p := ⟨b, i * 9 + 7, none⟩) hbl).trans g7
        have q8 := (BL.out.cell (p := ⟨b, i * 9 + 8, none⟩) hbl).trans g8
        clear g0 g1 g2 g3 g4 g5 g6 g7 g8 hac hac0 hat hh
        obtain ⟨a, ha⟩ : ∃ a, al.getD i default = a := ⟨_, rfl⟩
        rw [ha] at HAV HHH hx k0 k1 k2 k7 k8 q0 q1 q2 q7 q8 hav
        obtain ⟨m, hm⟩ : ∃ m, a.ss.length = m := ⟨_, rfl⟩
        rw [hm] at k2 q2
        have HMM := Lib.hid hm
        have HSA := Lib.hid hsa
        have mL : m ≤ 2199023255488 := by rw [← hm]; exact HAV.out.2.2.2.2.2.1.1
        have HXV : XV w a.e [.int .i64 x0, .int .i64 x1, .int .i64 x2, .slice x3 x4 x5] := by rw [← hx]; exact hav.2.2.2.1
        have HXH : XH w (b + 1) a.e [.int .i64 z0, .int .i64 z1, .int .i64 z2, .slice z3 z4 z5] := by rw [← hz]; exact HHH.out.xh
        obtain ⟨w1, hw1⟩ : ∃ w1, wo.alloc (.cells #[.int .i64 a.day, .int .i64 a.kind, .slice (some ⟨sb, 0, none⟩) m (m + 3), .int .i64 z0, .int .i64 z1, .int .i64 z2, .slice z3 z4 z5, .string a.cur, .int .i64 a.cell] 71) = w1 := ⟨_, rfl⟩
        have X1 := Lib.hid (NB.is hw1)
        have Z1 := Lib.hid (show w1.heap.size = wo.heap.size + 1 from by rw [← hw1]; simp)
        obtain ⟨w2, hw2⟩ : ∃ w2, w1.alloc (.cells #[.int .i64 a.day, .int .i64 a.kind, .slice a.sa m a.sc, .int .i64 x0, .int .i64 x1, .int .i64 x2, .slice x3 x4 x5, .string a.cur, .int .i64 a.cell] 71) = w2 := ⟨_, rfl⟩
        have X2 := Lib.hid (NB.is hw2)
        have B1 := Lib.hid (BL.out.trans (X1.out.1.mono BL.out.size))
        have B2 := Lib.hid (B1.out.trans (X2.out.1.mono B1.out.size))
        have EA := Lib.hid (X1.out.2.below X2.out.1 X1.out.2.lt)
        have EB := Lib.hid (show Bk w2 (wo.heap.size + 1) #[.int .i64 a.day, .int .i64 a.kind, .slice a.sa m a.sc, .int .i64 x0, .int .i64 x1, .int .i64 x2, .slice x3 x4 x5, .string a.cur, .int .i64 a.cell] 71 from by rw [← Z1.out]; exact X2.out.2)
        have hac1 := (HA.out.at (by omega))
        have n0 := (B1.out.cell (p := ⟨ob, oo + i * 9, none⟩) hob).trans ((BL.out.cell (p := ⟨ob, oo + i * 9, none⟩) hob).symm.trans k0)
        have n1 := (B1.out.cell (p := ⟨ob, oo + i * 9 + 1, none⟩) hob).trans ((BL.out.cell (p := ⟨ob, oo + i * 9 + 1, none⟩) hob).symm.trans k1)
        have n2 := (B1.out.cell (p := ⟨ob, oo + i * 9 + 2, none⟩) hob).trans ((BL.out.cell (p := ⟨ob, oo + i * 9 + 2, none⟩) hob).symm.trans k2)
        have n3 := (B1.out.cell (p := ⟨ob, oo + i * 9 + 3, none⟩) hob).trans ((BL.out.cell (p := ⟨ob, oo + i * 9 + 3, none⟩) hob).symm.trans k3)
        have n4 := (B1.out.cell (p := ⟨ob, oo + i * 9 + 4, none⟩) hob).trans ((BL.out.cell (p := ⟨ob, oo + i * 9 + 4, none⟩) hob).symm.trans k4)
        have n5 := (B1.out.cell (p := ⟨ob, oo + i * 9 + 5, none⟩) hob).trans ((BL.out.cell (p := ⟨ob, oo + i * 9 + 5, none⟩) hob).symm.trans k5)
        have n6 := (B1.out.cell (p := ⟨ob, oo + i * 9 + 6, none⟩) hob).trans ((BL.out.cell (p := ⟨ob, oo + i * 9 + 6, none⟩) hob).symm.trans k6)
        have n7 := (B1.out.cell (p := ⟨ob, oo + i * 9 + 7, none⟩) hob).trans ((BL.out.cell (p := ⟨ob, oo + i * 9 + 7, none⟩) hob).symm.trans k7)
        have n8 := (B1.out.cell (p := ⟨ob, oo + i * 9 + 8, none⟩) hob).trans ((BL.out.cell (p := ⟨ob, oo + i * 9 + 8, none⟩) hob).symm.trans k8)
        have a0 := EA.out.cell 0
        have a1 := EA.out.cell 1
        have a2 := EA.out.cell 2
        have a3 := EA.out.cell 3
        have a4 := EA.out.cell 4
        have a5 := EA.out.cell 5
        have a6 := EA.out.cell 6
        have a7 := EA.out.cell 7
        have a8 := EA.out.cell 8
        have b0 := EB.out.cell 0
        have b1 := EB.out.cell 1
        have b2 := EB.out.cell 2
        have b3 := EB.out.cell 3
        have b4 := EB.out.cell 4
        have b5 := EB.out.cell 5
        have b6 := EB.out.cell 6
        have b7 := EB.out.cell 7
        have b8 := EB.out.cell 8
        simp at a0 a1 a2 a3 a4 a5 a6 a7 a8 b0 b1 b2 b3 b4 b5 b6 b7 b8
        have KX := Lib.hid (keptX_any HXV w2 (b + 1) _ B2.out (HXH.later B2.out))
        have HW1 := Lib.hid hw1
        have HW2 := Lib.hid hw2
        clear hav hsa hz hx ha hm HXV HXH hac1
        rw [← Z1.out] at b0 b1 b2 b3 b4 b5 b6 b7 b8
        go_wp2_with fail
        go_at_call 11
        refine KX.out.mono ?_
        rintro e' w5 ⟨rfl, c5⟩
        have B5 := Lib.hid (B2.out.trans (c5.mono B2.out.size))
        have EA5 := (EA.out.below c5 EA.out.lt)
        have EB5 := Lib.hid (EB.out.below c5 EB.out.lt)
        have o2 := EA5.cell 2
        have p2 := EB5.out.cell 2
        simp at o2 p2
        rw [← Z1.out] at p2
        have EBW := Lib.hid (show Bk w5 w1.heap.size #[.int .i64 a.day, .int .i64 a.kind, .slice a.sa m a.sc, .int .i64 x0, .int .i64 x1, .int .i64 x2, .slice x3 x4 x5, .string a.cur, .int .i64 a.cell] 71 from by rw [Z1.out]; exact EB5.out)
        have SST := Lib.hid (show ∃ cur, HSS w (b + 1) sb a.ss (m + 3) cur (fun j => (A i).ss.getD j default) from by
          obtain ⟨sb', cur, e1, e2⟩ := HHH.out.ss
          rw [HSA.out] at e1
          injection e1 with e1; injection e1 with e1
          rw [e1, ← HMM.out]
          exact ⟨cur, e2⟩)
        clear c5 EA5 hw1 hw2 a0 a1 a2 a3 a4 a5 a6 a7 a8 b0 b1 b2 b3 b4 b5 b6 b7 b8 n0 n1 n2 n3 n4 n5 n6 n7 n8 q0 q1 q2 q3 q4 q5 q6 q7 q8 k0 k1 k2 k3 k4 k5 k6 k7 k8
        obtain ⟨cur, hSS⟩ := SST.out
        have HSS' := Lib.hid hSS
        have hsbl : sb < w.heap.size := hSS.bk.lt
        clear hSS SST
        go_wp2
        go_loopw [9, 11] (fun y t wr => ∃ (k : Nat), k ≤ m + 3 ∧ t = .int .i64 k ∧ y = .bool true ∧ Bk wr w1.heap.size #[.int .i64 a.day, .int .i64 a.kind, .slice a.sa m a.sc, .int .i64 x0, .int .i64 x1, .int .i64 x2, .slice x3 x4 x5, .string a.cur, .int .i64 a.cell] 71 ∧ Below w.heap.size w wr) (fun _ t _ => m + 3 - (intOf t).toNat)
        case atStart => exact ⟨0, by omega, rfl, rfl, EBW.out, B5.out⟩
        case round =>
          clear o2 p2
          obtain ⟨k, hk, rfl, rfl, hE, hBr⟩ := hrel
          have EW := Lib.hid hE
          have BR := Lib.hid hBr
          have p2 := hE.cell 2
          simp at p2
          clear hE hBr
          by_cases kl : k < m + 3
          · have kc : (k : Int) < (m : Int) + 3 := by omega
            by_cases ml : k < m
            · have mc : (k : Int) < (m : Int) := by omega
              have md : decide (m ≤ k) = false := by simpa using ml
              have mn : ¬ m ≤ k := by omega
              have ml' : k < a.ss.length := by rw [HMM.out]; exact ml
              obtain ⟨sob, so, hsao, hsob, hst⟩ := HAV.out.2.2.2.2.2.1.at (by omega)
              obtain ⟨hsv, hsc0⟩ := hst k ml'
              have h1 := HSS'.out.st k (by omega) ml'
              obtain ⟨c0, c1, c2, c3, c4, c5, hc, g0, g1, g2, g3, g4, g5⟩ := h1.six HSS'.out.bk
              obtain ⟨y0, y1, y2, y3, y4, y5, hy, f2, f3, f4, f5⟩ := hsc0.six hsv
              have f0 := hsc0.kind
              have f1 := hsc0.want
              have HXV : XV w (a.ss.getD k default).e [.int .i64 y0, .int .i64 y1, .int .i64 y2, .slice y3 y4 y5] := by rw [← hy]; exact hsv.2
              have HXH : XH w (sb + 1) (a.ss.getD k default).e [.int .i64 c0, .int .i64 c1, .int .i64 c2, .slice c3 c4 c5] := by rw [← hc]; exact h1.xh
              generalize a.ss.getD k default = st at *
              rw [hsao] at p2
              have u0 := (BR.out.cell (p := ⟨sb, k * 6, none⟩) hsbl).trans g0
              have u1 := (BR.out.cell (p := ⟨sb, k * 6 + 1, none⟩) hsbl).trans g1
              have u2' := (BR.out.cell (p := ⟨sb, k * 6 + 2, none⟩) hsbl).trans g2
              have u3' := (BR.out.cell (p := ⟨sb, k * 6 + 3, none⟩) hsbl).trans g3
              have u4' := (BR.out.cell (p := ⟨sb, k * 6 + 4, none⟩) hsbl).trans g4
              have u5' := (BR.out.cell (p := ⟨sb, k * 6 + 5, none⟩) hsbl).trans g5
              have v0 := (BR.out.cell (p := ⟨sob, so + k * 6, none⟩) hsob).trans f0
              have v1 := (BR.out.cell (p := ⟨sob, so + k * 6 + 1, none⟩) hsob).trans f1
              have v2' := (BR.out.cell (p := ⟨sob, so + k * 6 + 2, none⟩) hsob).trans f2
              have v3' := (BR.out.cell (p := ⟨sob, so + k * 6 + 3, none⟩) hsob).trans f3
              have v4' := (BR.out.cell (p := ⟨sob, so + k * 6 + 4, none⟩) hsob).trans f4
              have v5' := (BR.out.cell (p := ⟨sob, so + k * 6 + 5, none⟩) hsob).trans f5
              have KX2 := Lib.hid (fun (W : World) (hb : Below w.heap.size w W) => keptX_any HXV W (sb + 1) _ hb (HXH.later hb))
              have skk : (st.kind == st.kind) = true := by simp
              clear g0 g1 g2 g3 g4 g5 f0 f1 f2 f3 f4 f5 hst hsv hsc0 hc hy h1 HXV HXH hsao
              generalize st.kind = kd at *
              generalize st.want = wt at *
              go_wp2
              go_quiet (fail)
              obtain ⟨wq, hwq⟩ : ∃ wq, wr.drewN nq = wq := ⟨_, rfl⟩
              have BQ := Lib.hid (show Below w.heap.size w wq from by rw [← hwq]; exact xbelow_drewN BR.out _)
              have EQ := Lib.hid (show Bk wq w1.heap.size #[.int .i64 a.day, .int .i64 a.kind, .slice a.sa m a.sc, .int .i64 x0, .int .i64 x1, .int .i64 x2, .slice x3 x4 x5, .string a.cur, .int .i64 a.cell] 71 from by rw [← hwq]; exact EW.out)
              have m0 : wq.cell? ⟨sb, k * 6 + 2, none⟩ = some (.int .i64 c0) := by rw [← hwq]; exact u2'
              have m1 : wq.cell? ⟨sb, k * 6 + 3, none⟩ = some (.int .i64 c1) := by rw [← hwq]; exact u3'
              have m2 : wq.cell? ⟨sb, k * 6 + 4, none⟩ = some (.int .i64 c2) := by rw [← hwq]; exact u4'
              have m3 : wq.cell? ⟨sb, k * 6 + 5, none⟩ = some (.slice c3 c4 c5) := by rw [← hwq]; exact u5'
              have m4 : wq.cell? ⟨sob, so + k * 6 + 2, none⟩ = some (.int .i64 y0) := by rw [← hwq]; exact v2'
              have m5 : wq.cell? ⟨sob, so + k * 6 + 3, none⟩ = some (.int .i64 y1) := by rw [← hwq]; exact v3'
              have m6 : wq.cell? ⟨sob, so + k * 6 + 4, none⟩ = some (.int .i64 y2) := by rw [← hwq]; exact v4'
              have m7 : wq.cell? ⟨sob, so + k * 6 + 5, none⟩ = some (.slice y3 y4 y5) := by rw [← hwq]; exact v5'
              have m8 : wq.cell? ⟨w1.heap.size, 2, none⟩ = some (.slice (some ⟨sob, so, none⟩) m a.sc) := by rw [← hwq]; exact p2
              rw [hwq]
              clear hwq u0 u1 u2' u3' u4' u5' v0 v1 v2' v3' v4' v5' p2
              go_wp2_with fail
              go_region_held3 (fun w' => w'.cell? ⟨sb, k * 6 + 2, none⟩ = some (.int .i64 c0) ∧ w'.cell? ⟨sb, k * 6 + 3, none⟩ = some (.int .i64 c1) ∧ w'.cell? ⟨sb, k * 6 + 4, none⟩ = some (.int .i64 c2) ∧ w'.cell? ⟨sb, k * 6 + 5, none⟩ = some (.slice c3 c4 c5) ∧ w'.cell? ⟨sob, so + k * 6 + 2, none⟩ = some (.int .i64 y0) ∧ w'.cell? ⟨sob, so + k * 6 + 3, none⟩ = some (.int .i64 y1) ∧ w'.cell? ⟨sob, so + k * 6 + 4, none⟩ = some (.int .i64 y2) ∧ w'.cell? ⟨sob, so + k * 6 + 5, none⟩ = some (.slice y3 y4 y5) ∧ w'.cell? ⟨w1.heap.size, 2, none⟩ = some (.slice (some ⟨sob, so, none⟩) m a.sc))
                (refine ⟨?_, ?_, ?_, ?_, ?_, ?_, ?_, ?_, ?_⟩ <;> first | assumption | (go_simp; done))
                (first | (go_at_call 11; refine (KX2.out _ BQ.out.drew).mono ?_; rintro e' w6 ⟨rfl, c6⟩; have b6 : Below wq.heap.size wq w6 := (Below.refl _ _).drew.trans c6; have l0 := (b6.cell (p := ⟨sb, k * 6 + 2, none⟩) (Nat.lt_of_lt_of_le hsbl BQ.out.size)).trans m0; have l1 := (b6.cell (p := ⟨sb, k * 6 + 3, none⟩) (Nat.lt_of_lt_of_le hsbl BQ.out.size)).trans m1; have l2 := (b6.cell (p := ⟨sb, k * 6 + 4, none⟩) (Nat.lt_of_lt_of_le hsbl BQ.out.size)).trans m2; have l3 := (b6.cell (p := ⟨sb, k * 6 + 5, none⟩) (Nat.lt_of_lt_of_le hsbl BQ.out.size)).trans m3; have l4 := (b6.cell (p := ⟨sob, so + k * 6 + 2, none⟩) (Nat.lt_of_lt_of_le hsob BQ.out.size)).trans m4; have l5 := (b6.cell (p := ⟨sob, so + k * 6 + 3, none⟩) (Nat.lt_of_lt_of_le hsob BQ.out.size)).trans m5; have l6 := (b6.cell (p := ⟨sob, so + k * 6 + 4, none⟩) (Nat.lt_of_lt_of_le hsob BQ.out.size)).trans m6; have l7 := (b6.cell (p := ⟨sob, so + k * 6 + 5, none⟩) (Nat.lt_of_lt_of_le hsob BQ.out.size)).trans m7; have l8 := (b6.cell (p := ⟨w1.heap.size, 2, none⟩) EQ.out.lt).trans m8; have B6 := Lib.hid (BQ.out.trans (b6.mono BQ.out.size)); have E6 := Lib.hid (EQ.out.below b6 EQ.out.lt); clear b6 c6))
              all_goals go_wp2
              all_goals
                go_roundw
                case rel => exact ⟨k + 1, by omega, by go_num, rfl, E6.out, B6.out⟩
                case measure => simp [intOf]; omega
            · have mc : ¬ (k : Int) < (m : Int) := by omega
              have md : decide (m ≤ k) = true := by simpa using ml
              have mn : m ≤ k := by omega
              have e0 := HSS'.out.mrk k (by omega) (by rw [HMM.out]; exact mn) (by rw [HMM.out]; exact kl)
              have d0 := (BR.out.cell (p := ⟨sb, k * 6, none⟩) hsbl).trans ((HSS'.out.bk.cell (k * 6)).trans e0)
              clear e0
              go_wp2
              go_roundw
              case rel => exact ⟨k + 1, by omega, by go_num, rfl, EW.out, BR.out⟩
              case measure => simp [intOf]; omega
          · obtain rfl : k = m + 3 := by omega
            go_wp2
            go_roundw
            case rel => exact ⟨i + 1, by omega, by go_num, BR.out⟩
            case measure => simp [intOf]; omega
      · have jc : ¬ (i : Int) < (n : Int) := by omega
        have jd : decide (n ≤ i) = true := by simpa using jl
        have jn : n ≤ i := by omega
        obtain ⟨e0, e2⟩ := HH.out.mrk i (by rw [HL.out]; exact il) (by rw [HL.out]; exact jn) (by rw [HL.out]; exact il)
        have d0 := (BL.out.cell (p := ⟨b, i * 9, none⟩) hbl).trans ((HH.out.bk.cell (i * 9)).trans e0)
        have d2 := (BL.out.cell (p := ⟨b, i * 9 + 2, none⟩) hbl).trans ((HH.out.bk.cell (i * 9 + 2)).trans e2)
        clear e0 e2
        go_wp2
        go_roundw
        case rel => exact ⟨i + 1, by omega, by go_num, BL.out⟩
        case measure => simp [intOf]; omega
    · obtain rfl : i = n + 3 := by omega
      go_wp2
      exact bodyPost_ret (v := .bool true) (by simp [results, Try.results19, go_sem]) rfl ⟨rfl, BL.out⟩
end Go.Proofs.Ytjlnbhmiahegmaa

namespace Go.Proofs.Ytjlnbhmiahegmaa
open Go.RowKit
set_option linter.unusedVariables false
set_option linter.unusedSimpArgs false

def FwE (al : List At) (e : Ending) : Prop := e = .returned (.bool false) ∨ (e = .returned (.bool true) ∧ ∀ a ∈ al, a.e.n ≤ 1048576 ∧ ∀ s ∈ a.ss, s.e.n ≤ 1048576)
set_option maxRecDepth 100000 in
set_option maxHeartbeats 20000000 in
theorem fewAll_any {w : World} {al : List At} {pa : Option Addr} {pc : Nat} (hA : AL w pa al) :
    Calls Try.prog 15 #[.slice pa al.length pc] w fun e' w' => FwE al e' ∧ Below w.heap.size w w' := by
  have hn := hA.1
  have HA := Lib.hid hA
  obtain ⟨n, hnn⟩ : ∃ n, al.length = n := ⟨_, rfl⟩
  have HL := Lib.hid hnn
  rw [hnn] at hn ⊢
  clear hA hnn
  go_enter Try.func15, Try.ntmps15
  go_wp2
  go_loopw [3] (fun t wr => ∃ (i : Nat), i ≤ n ∧ t = .int .i64 i ∧ RowKit.Hid (∀ j, j < i → (al.getD j default).e.n ≤ 1048576 ∧ ∀ s ∈ (al.getD j default).ss, s.e.n ≤ 1048576) ∧ Below w.heap.size w wr) (fun t _ => n - (intOf t).toNat)
  case atStart => exact ⟨0, by omega, rfl, fun j hj => absurd hj (by omega), Below.refl _ _⟩
  case round =>
    rename World => wo
    obtain ⟨i, hi, rfl, HI, hBl⟩ := hrel
    have BL := Lib.hid hBl
    clear hBl
    by_cases il : i < n
    · have ic : (i : Int) < (n : Int) := by omega
      have il' : i < al.length := by rw [HL.out]; exact il
      obtain ⟨ob, oo, hpa, hob, hat⟩ := HA.out.at (by omega)
      subst hpa
      obtain ⟨hav, hac0⟩ := hat i il'
      have hac := hac0.later BL.out hob
      obtain ⟨x0, x1, x2, x3, x4, x5, hx, k3, k4, k5, k6⟩ := hac.nine hav
      have HXV : XV w (al.getD i default).e [.int .i64 x0, .int .i64 x1, .int .i64 x2, .slice x3 x4 x5] := by rw [← hx]; exact hav.2.2.2.1
      have KF := Lib.hid (few_any HXV wo BL.out)
      have HAV := Lib.hid hav
      have HAC := Lib.hid hac0
      have NX := Lib.hid (show (al.getD i default).e.n ≤ 1048576 ∧ (∀ s ∈ (al.getD i default).ss, s.e.n ≤ 1048576) → ∀ j, j < i + 1 → (al.getD j default).e.n ≤ 1048576 ∧ ∀ s ∈ (al.getD j default).ss, s.e.n ≤ 1048576 from fun h j hj => by
        by_cases e : j = i
        · rw [e]; exact h
        · exact HI.out j (by omega))
      clear hat hav hac hac0 hx HXV
      generalize al.getD i default = a at *
      obtain ⟨m, hm⟩ : ∃ m, a.ss.length = m := ⟨_, rfl⟩
      have HMM := Lib.hid hm
      have mL : m ≤ 2199023255488 := by rw [← hm]; exact HAV.out.2.2.2.2.2.1.1
      clear hm
      go_wp2_with fail
      go_at_call 5
      refine KF.out.mono ?_
      rintro e' w1 ⟨bf, rfl, hfew, b1⟩
      have FW := Lib.hid hfew.out
      have B1 := Lib.hid (BL.out.trans (b1.mono BL.out.size))
      clear hfew b1 k3 k4 k5 k6
      go_wp2
      go_loopw [4, 5] (fun y t wr => ∃ (k : Nat) (ok : Bool), k ≤ m ∧ t = .int .i64 k ∧ y = .bool ok ∧ RowKit.Hid (ok = true → a.e.n ≤ 1048576 ∧ ∀ j, j < k → (a.ss.getD j default).e.n ≤ 1048576) ∧ Below w.heap.size w wr) (fun _ t _ => m - (intOf t).toNat)
      case atStart => exact ⟨0, bf, by omega, rfl, rfl, fun h => ⟨FW.out h, fun j hj => absurd hj (by omega)⟩, B1.out⟩
      case round =>
        obtain ⟨k, ok, hk, rfl, rfl, HO, hBr⟩ := hrel
        have BR := Lib.hid hBr
        have c2 := (HAC.out.later hBr hob).ss
        rw [HMM.out] at c2
        clear hBr
        cases ok with
        | false =>
          by_cases kl : k < m
          · have kc : (k : Int) < (m : Int) := by omega
            go_wp2
            go_ret
            exact ⟨.inl rfl, BR.out⟩
          · have kc : ¬ (k : Int) < (m : Int) := by omega
            go_wp2
            go_ret
            exact ⟨.inl rfl, BR.out⟩
        | true =>
          by_cases kl : k < m
          · have kc : (k : Int) < (m : Int) := by omega
            have kl' : k < a.ss.length := by rw [HMM.out]; exact kl
            obtain ⟨sob, so, hsao, hsob, hst⟩ := HAV.out.2.2.2.2.2.1.at (by omega)
            rw [hsao] at c2
            obtain ⟨hsv, hsc0⟩ := hst k kl'
            obtain ⟨y0, y1, y2, y3, y4, y5, hy, f2, f3, f4, f5⟩ := (hsc0.later BR.out hsob).six hsv
            have HXV : XV w (a.ss.getD k default).e [.int .i64 y0, .int .i64 y1, .int .i64 y2, .slice y3 y4 y5] := by rw [← hy]; exact hsv.2
            have KF2 := Lib.hid (few_any HXV wr BR.out)
            have NX2 := Lib.hid (show (a.ss.getD k default).e.n ≤ 1048576 → a.e.n ≤ 1048576 ∧ ∀ j, j < k + 1 → (a.ss.getD j default).e.n ≤ 1048576 from fun h => ⟨(HO.out rfl).1, fun j hj => by
              by_cases e : j = k
              · rw [e]; exact h
              · exact (HO.out rfl).2 j (by omega)⟩)
            clear hst hsv hsc0 hy HXV hsao
            go_wp2_with fail
            go_at_call 5
            refine KF2.out.mono ?_
            rintro e' w2 ⟨bg, rfl, hfew, b2⟩
            have FW2 := Lib.hid hfew.out
            have B2 := Lib.hid (BR.out.trans (b2.mono BR.out.size))
            clear hfew b2
            go_wp2
            go_roundw
            case rel => exact ⟨k + 1, bg, by omega, by go_num, rfl, fun h => NX2.out (FW2.out h), B2.out⟩
            case measure => simp [intOf]; omega
          · obtain rfl : k = m := by omega
            have OK := Lib.hid (NX.out ⟨(HO.out rfl).1, fun s hs => by
              obtain ⟨j, hj, rfl⟩ := List.mem_iff_getElem.1 hs
              have := (HO.out rfl).2 j (by rw [← HMM.out]; exact hj)
              simpa [List.getD, hj] using this⟩)
            go_wp2
            go_roundw
            case rel => exact ⟨i + 1, by omega, by go_num, OK.out, BR.out⟩
            case measure => simp [intOf]; omega
    · obtain rfl : i = n := by omega
      go_wp2
      go_ret
      exact ⟨.inr ⟨rfl, fun a ha => by
        obtain ⟨j, hj, rfl⟩ := List.mem_iff_getElem.1 ha
        have := HI.out j (by rw [← HL.out]; exact hj)
        simpa [List.getD, hj] using this⟩, BL.out⟩
set_option maxRecDepth 100000 in
set_option maxHeartbeats 20000000 in
theorem sameOutcome_any {w : World} {F : List Fl} {fa ga : Option Addr} {fc gc : Nat} (h1 : FL w fa F.length F) (h2 : FL w ga F.length F) (f d : Int) :
    Calls Try.prog 20 #[.agg #[.slice fa F.length fc, .int .i64 f, .int .i64 d], .agg #[.slice ga F.length gc, .int .i64 f, .int .i64 d]] w fun e w' => e = .returned (.bool true) ∧ Below w.heap.size w w' := by
  obtain ⟨n, hn⟩ : ∃ n, F.length = n := ⟨_, rfl⟩
  have HN := Lib.hid hn
  have nL : n ≤ 4398046511000 := by rw [← hn]; exact h1.2.1
  rw [hn] at h1 h2 ⊢
  have H1 := Lib.hid h1
  have H2 := Lib.hid h2
  obtain ⟨w1, hw1⟩ : ∃ w1, w.alloc (.cells #[.slice fa n fc, .int .i64 f, .int .i64 d] 44) = w1 := ⟨_, rfl⟩
  obtain ⟨w2, hw2⟩ : ∃ w2, w1.alloc (.cells #[.slice ga n gc, .int .i64 f, .int .i64 d] 44) = w2 := ⟨_, rfl⟩
  have X1 := Lib.hid (NB.is hw1)
  have X2 := Lib.hid (NB.is hw2)
  have EA := Lib.hid (X1.out.2.below X2.out.1 X1.out.2.lt)
  have B2 := Lib.hid (X1.out.1.trans (X2.out.1.mono X1.out.1.size))
  have a0 := EA.out.cell 0
  have a1 := EA.out.cell 1
  have a2 := EA.out.cell 2
  have b0 := X2.out.2.cell 0
  have b1 := X2.out.2.cell 1
  have b2 := X2.out.2.cell 2
  simp at a0 a1 a2 b0 b1 b2
  clear hn h1 h2
  go_enter Try.func20, Try.ntmps20
  go_wp2
  clear a0 a1 a2 b0 b1 b2 hw1 hw2
  go_loopw [5] (fun t wr => ∃ (i : Nat), i ≤ n ∧ t = .int .i64 i ∧ ∃ q, wr = w2.drewN q) (fun t _ => n - (intOf t).toNat)
  case atStart => exact ⟨0, by omega, rfl, 0, rfl⟩
  case round =>
    obtain ⟨i, hi, rfl, q, hq⟩ := hrel
    have HQ := Lib.hid hq
    have a0 : wr.cell? ⟨w.heap.size, 0, none⟩ = some (.slice fa n fc) := by rw [hq]; exact EA.out.cell 0
    have b0 : wr.cell? ⟨w1.heap.size, 0, none⟩ = some (.slice ga n gc) := by rw [hq]; exact X2.out.2.cell 0
    by_cases il : i < n
    · have ic : (i : Int) < (n : Int) := by omega
      rcases H1.out.2.2 with h0 | ⟨g, o, rfl, hg, hc⟩
      · omega
      rcases H2.out.2.2 with h0 | ⟨g', o', rfl, hg', hc'⟩
      · omega
      have c1 := (hc i il).later B2.out hg
      have c2 := (hc' i il).later B2.out hg'
      generalize F.getD i default = fl at c1 c2
      have p0 : wr.cell? ⟨g, o + i * 3, none⟩ = some (.int .i64 fl.d) := by rw [hq]; exact c1.1
      have p1 : wr.cell? ⟨g, o + i * 3 + 1, none⟩ = some (.string fl.c) := by rw [hq]; exact c1.2.1
      have p2 : wr.cell? ⟨g, o + i * 3 + 2, none⟩ = some (.int .i64 fl.a) := by rw [hq]; exact c1.2.2
      have q0 : wr.cell? ⟨g', o' + i * 3, none⟩ = some (.int .i64 fl.d) := by rw [hq]; exact c2.1
      have q1 : wr.cell? ⟨g', o' + i * 3 + 1, none⟩ = some (.string fl.c) := by rw [hq]; exact c2.2.1
      have q2 : wr.cell? ⟨g', o' + i * 3 + 2, none⟩ = some (.int .i64 fl.a) := by rw [hq]; exact c2.2.2
      clear hc hc' c1 c2 hq
      go_wp2
      go_quiet (fail)
      all_goals go_wp2
      all_goals
        go_roundw
        case rel => exact ⟨i + 1, by omega, by go_num, by rw [HQ.out]; exact ⟨_, World.drewN_drewN _ _ _⟩⟩
        case measure => simp [intOf]; omega
    · obtain rfl : i = n := by omega
      clear hq
      go_wp2
      go_ret
      exact ⟨rfl, by rw [HQ.out]; exact xbelow_drewN B2.out _⟩
end Go.Proofs.Ytjlnbhmiahegmaa
