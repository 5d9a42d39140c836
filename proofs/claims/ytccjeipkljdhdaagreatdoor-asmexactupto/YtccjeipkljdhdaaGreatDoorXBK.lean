import Derived.Test.YtccjeipkljdhdaaGreatDoorXBJ
import Derived.Test.YtccjeipkljdhdaaGreatDoorXBF
import Derived.Test.YtccjeipkljdhdaaGreatDoorXBH
import Derived.Test.YtccjeipkljdhdaaGreatDoorXBD
import Derived.Test.YtccjeipkljdhdaaGreatDoorXBG
import Derived.Test.YtccjeipkljdhdaaGreatDoorXAQ
namespace Go.Proofs.YtccjeipkljdhdaaGreatDoor
open Go.RowKit
set_option linter.unusedVariables false
set_option linter.unusedSimpArgs false

theorem bel_fr {D : Nat → Prop} {a b : World} {B : Nat} (h : FrDX D a b) (hB : B ≤ a.heap.size) (hD : ∀ z, z < B → ¬ D z) : Below B a b := ⟨h.os, h.tape, h.out, h.size, fun k hk => h.blk k (Nat.lt_of_lt_of_le hk hB) (hD k hk)⟩
set_option maxRecDepth 100000 in
set_option maxHeartbeats 8000000 in
theorem asmExact_any {w : World} {a : Option Addr} {n c : Nat} {ss : List ByteArray} (hS : SR w a n c ss) (hn : n ≤ 1048576)
    (hP : ∀ W, Below w.heap.size w W → ∀ s, Calls Tryz.prog 7 #[.string s] W fun e w' => PaO s W e w')
    (hD : ∀ W, Below w.heap.size w W → ∀ s, Calls Tryz.prog 13 #[.string s] W fun e w' => PaE s W e w') :
    Calls Tryz.prog 5 #[.slice a n c] w fun e w' => e = .returned (.bool true) ∧ Below w.heap.size w w' := by
  obtain ⟨_, l1, b1, s1, r1⟩ := hS
  have RR := Lib.hid r1
  have KP := Lib.hid hP
  have KD := Lib.hid hD
  clear r1 hP hD s1 b1
  go_enter Tryz.func5, Tryz.ntmps5
  go_wp2
  go_loopw [3, 4] (fun v t W => ∃ (i : Nat) (Ps : List Pg) (Bs Us : Nat → Nat), i ≤ n ∧ t = .int .i64 (i : Int) ∧ RowKit.Hid (HeD W w.heap.size v Ps Bs Us) ∧ RowKit.Hid (Ps.length = 3 * i) ∧ RowKit.Hid (∀ j, j < 3 * i → IsW (j + 1) (Ps.getD j default)) ∧ RowKit.Hid (Below w.heap.size w W)) (fun _ t _ => n - (intOf t).toNat)
  case atStart => exact ⟨0, [], _, _, Nat.zero_le _, rfl, HeD.nil _ _, rfl, Lib.hid (fun j hj => absurd hj (by omega)), Lib.hid (Below.refl _ _)⟩
  case round =>
    rename World => W
    obtain ⟨i, Ps, Bs, Us, hin, rfl, HE, HL, HW, HB⟩ := hrel
    by_cases hlt : i < n
    · obtain ⟨x, o, rfl, xl, hc⟩ := RR.out.oneP (by omega)
      have ic : (i : Int) < (n : Int) := by omega
      obtain ⟨j, hj, hjm⟩ : ∃ j : Nat, j < n ∧ (((i : Int) + 1) % (n : Int)) = (j : Int) := ⟨(i + 1) % n, Nat.mod_lt _ (by omega), by norm_cast⟩
      have CX := Lib.hid (p := ∀ W2, Below w.heap.size w W2 → W2.cell? ⟨x, o + i, none⟩ = some (.string (ss.getD i default)) ∧ W2.cell? ⟨x, o + j, none⟩ = some (.string (ss.getD j default))) (fun W2 b => by
        have c0 := hc i hlt 0 (by omega)
        have c1 := hc j hj 0 (by omega)
        simp only [Nat.mul_one, Nat.add_zero, List.getD_cons_zero] at c0 c1
        exact ⟨(b.cell (p := ⟨x, o + i, none⟩) xl).trans c0, (b.cell (p := ⟨x, o + j, none⟩) xl).trans c1⟩)
      generalize ss.getD i default = S1 at *
      generalize ss.getD j default = S2 at *
      clear hc
      obtain ⟨O1, hO1⟩ : ∃ O, outA S1 = O := ⟨_, rfl⟩
      obtain ⟨O2, hO2⟩ : ∃ O, outA S2 = O := ⟨_, rfl⟩
      have K1 := Lib.hid (fun W b => KP.out W b S1)
      have K2 := Lib.hid (fun W b => KP.out W b S2)
      have D1 := Lib.hid (fun W b => KD.out W b S1)
      have D2 := Lib.hid (fun W b => KD.out W b S2)
      unfold PaO at K1 K2
      unfold PaE at D1 D2
      rw [hO1] at K1 D1
      rw [hO2] at K2 D2
      clear hO1 hO2
      obtain ⟨A1, N1, E1⟩ := O1
      obtain ⟨A2, N2, E2⟩ := O2
      simp only at K1 K2 D1 D2
      obtain ⟨c0, c1⟩ := CX.out W HB.out
      have BK1 := Lib.hid (K1.out W HB.out)
      go_upto_region 6 with (go_at_call 7; refine BK1.out.mono ?_; rintro e w1 ⟨p, rfl, hpv, hkey, hb, hpo⟩; simp only [Pg.agg]; have V1 := Lib.hid hpv; have Q1 := Lib.hid hkey; have L1 := Lib.hid hb; have O1 := Lib.hid hpo; clear hpv hkey hb hpo)
      obtain ⟨W1, hW1⟩ : ∃ y, w1.alloc p.box = y := ⟨_, rfl⟩
      have A1 := Lib.hid (p := Below w1.heap.size w1 W1) (by rw [← hW1]; exact allocBP w1 p.box)
      have X1 := Lib.hid (p := BkP W1 w1.heap.size p.arr 27) (by rw [← hW1]; exact heapN w1 _)
      have Z1 := Lib.hid (p := W1.heap.size = w1.heap.size + 1) (by rw [← hW1]; simp)
      have M1 := Lib.hid (p := Below W.heap.size W W1) (L1.out.trans (A1.out.mono L1.out.size))
      have C1 := Lib.hid (HB.out.trans (M1.out.mono HB.out.size))
      unfold Pg.box at hW1
      rw [hW1]
      clear hW1 c0 c1
      obtain ⟨c0, c1⟩ := CX.out W1 C1.out
      have BK2 := Lib.hid (K2.out W1 C1.out)
      go_upto_region 7 with (go_at_call 7; refine BK2.out.mono ?_; rintro e w2 ⟨x2, rfl, hpv, hkey, hb, hpo⟩; simp only [Pg.agg]; have V2 := Lib.hid hpv; have Q2 := Lib.hid hkey; have L2 := Lib.hid hb; have O2 := Lib.hid hpo; clear hpv hkey hb hpo)
      obtain ⟨W2, hW2⟩ : ∃ y, w2.alloc x2.box = y := ⟨_, rfl⟩
      have A2 := Lib.hid (p := Below w2.heap.size w2 W2) (by rw [← hW2]; exact allocBP w2 x2.box)
      have X2 := Lib.hid (p := BkP W2 w2.heap.size x2.arr 27) (by rw [← hW2]; exact heapN w2 _)
      have Z2 := Lib.hid (p := W2.heap.size = w2.heap.size + 1) (by rw [← hW2]; simp)
      have M2 := Lib.hid (p := Below W1.heap.size W1 W2) (L2.out.trans (A2.out.mono L2.out.size))
      have C2 := Lib.hid (C1.out.trans (M2.out.mono C1.out.size))
      unfold Pg.box at hW2
      rw [hW2]
      clear hW2 c0 c1
      obtain ⟨c0, c1⟩ := CX.out W2 C2.out
      have BK3 := Lib.hid (K1.out W2 C2.out)
      go_upto_region 8 with (go_at_call 7; refine BK3.out.mono ?_; rintro e w3 ⟨v3, rfl, hpv, hkey, hb, hpo⟩; simp only [Pg.agg]; have V3 := Lib.hid hpv; have Q3 := Lib.hid hkey; have L3 := Lib.hid hb; have O3 := Lib.hid hpo; clear hpv hkey hb hpo)
      obtain ⟨W3, hW3⟩ : ∃ y, w3.alloc v3.box = y := ⟨_, rfl⟩
      have A3 := Lib.hid (p := Below w3.heap.size w3 W3) (by rw [← hW3]; exact allocBP w3 v3.box)
      have X3 := Lib.hid (p := BkP W3 w3.heap.size v3.arr 27) (by rw [← hW3]; exact heapN w3 _)
      have Z3 := Lib.hid (p := W3.heap.size = w3.heap.size + 1) (by rw [← hW3]; simp)
      have M3 := Lib.hid (p := Below W2.heap.size W2 W3) (L3.out.trans (A3.out.mono L3.out.size))
      have C3 := Lib.hid (C2.out.trans (M3.out.mono C2.out.size))
      unfold Pg.box at hW3
      rw [hW3]
      clear hW3 c0 c1
      obtain ⟨c0, c1⟩ := CX.out W3 C3.out
      have BK4 := Lib.hid (D2.out W3 C3.out)
      go_upto_region 9 with (go_at_call 13; refine BK4.out.mono ?_; rintro e w4 ⟨y4, rfl, hpv, hkey, hb⟩; simp only [Pg.agg]; have V4 := Lib.hid hpv; have Q4 := Lib.hid hkey; have L4 := Lib.hid hb; clear hpv hkey hb)
      obtain ⟨W4, hW4⟩ : ∃ y, w4.alloc y4.box = y := ⟨_, rfl⟩
      have A4 := Lib.hid (p := Below w4.heap.size w4 W4) (by rw [← hW4]; exact allocBP w4 y4.box)
      have X4 := Lib.hid (p := BkP W4 w4.heap.size y4.arr 27) (by rw [← hW4]; exact heapN w4 _)
      have Z4 := Lib.hid (p := W4.heap.size = w4.heap.size + 1) (by rw [← hW4]; simp)
      have M4 := Lib.hid (p := Below W3.heap.size W3 W4) (L4.out.trans (A4.out.mono L4.out.size))
      have C4 := Lib.hid (C3.out.trans (M4.out.mono C3.out.size))
      unfold Pg.box at hW4
      rw [hW4]
      clear hW4 c0 c1
      obtain ⟨c0, c1⟩ := CX.out W4 C4.out
      have BK5 := Lib.hid (D1.out W4 C4.out)
      go_upto_region 10 with (go_at_call 13; refine BK5.out.mono ?_; rintro e w5 ⟨q5, rfl, hpv, hkey, hb⟩; simp only [Pg.agg]; have V5 := Lib.hid hpv; have Q5 := Lib.hid hkey; have L5 := Lib.hid hb; clear hpv hkey hb)
      obtain ⟨W5, hW5⟩ : ∃ y, w5.alloc q5.box = y := ⟨_, rfl⟩
      have A5 := Lib.hid (p := Below w5.heap.size w5 W5) (by rw [← hW5]; exact allocBP w5 q5.box)
      have X5 := Lib.hid (p := BkP W5 w5.heap.size q5.arr 27) (by rw [← hW5]; exact heapN w5 _)
      have Z5 := Lib.hid (p := W5.heap.size = w5.heap.size + 1) (by rw [← hW5]; simp)
      have M5 := Lib.hid (p := Below W4.heap.size W4 W5) (L5.out.trans (A5.out.mono L5.out.size))
      have C5 := Lib.hid (C4.out.trans (M5.out.mono C4.out.size))
      unfold Pg.box at hW5
      rw [hW5]
      clear hW5 c0 c1
      obtain ⟨c0, c1⟩ := CX.out W5 C5.out
      clear c0 c1 BK1 BK2 BK3 BK4 BK5
      have M45 := Lib.hid (M4.out.trans (M5.out.mono M4.out.size))
      have M35 := Lib.hid (M3.out.trans (M45.out.mono M3.out.size))
      have M25 := Lib.hid (M2.out.trans (M35.out.mono M2.out.size))
      have M15 := Lib.hid (M1.out.trans (M25.out.mono M1.out.size))
      have G1 := Lib.hid (p := ∀ W', Below W5.heap.size W5 W' → BkP W' w1.heap.size p.arr 27) (fun W' b => X1.out.laterP (M25.out.trans (b.mono M25.out.size)))
      have G2 := Lib.hid (p := ∀ W', Below W5.heap.size W5 W' → BkP W' w2.heap.size x2.arr 27) (fun W' b => X2.out.laterP (M35.out.trans (b.mono M35.out.size)))
      have G3 := Lib.hid (p := ∀ W', Below W5.heap.size W5 W' → BkP W' w3.heap.size v3.arr 27) (fun W' b => X3.out.laterP (M45.out.trans (b.mono M45.out.size)))
      have G4 := Lib.hid (p := ∀ W', Below W5.heap.size W5 W' → BkP W' w4.heap.size y4.arr 27) (fun W' b => X4.out.laterP (M5.out.trans (b.mono M5.out.size)))
      have G5 := Lib.hid (p := ∀ W', Below W5.heap.size W5 W' → BkP W' w5.heap.size q5.arr 27) (fun W' b => X5.out.laterP b)
      have a1 : Below w1.heap.size w1 W5 := A1.out.trans (M25.out.mono A1.out.size)
      have a2 : Below w2.heap.size w2 W5 := A2.out.trans (M35.out.mono A2.out.size)
      have a3 : Below w3.heap.size w3 W5 := A3.out.trans (M45.out.mono A3.out.size)
      have a4 : Below w4.heap.size w4 W5 := A4.out.trans (M5.out.mono A4.out.size)
      have KS1 := Lib.hid (p := ∀ W', Below W5.heap.size W5 W' → Calls Tryz.prog 8 #[p.agg, q5.agg] W' fun e w' => e = .returned (.bool true) ∧ Below W'.heap.size W' w') (fun W' b => same13_any (V1.out.later (a1.trans (b.mono a1.size))) (V5.out.later (A5.out.trans (b.mono A5.out.size))) (Q5.out.trans Q1.out.symm))
      have KS2 := Lib.hid (p := ∀ W', Below W5.heap.size W5 W' → Calls Tryz.prog 8 #[v3.agg, q5.agg] W' fun e w' => e = .returned (.bool true) ∧ Below W'.heap.size W' w') (fun W' b => same13_any (V3.out.later (a3.trans (b.mono a3.size))) (V5.out.later (A5.out.trans (b.mono A5.out.size))) (Q5.out.trans Q3.out.symm))
      have KS3 := Lib.hid (p := ∀ W', Below W5.heap.size W5 W' → Calls Tryz.prog 8 #[x2.agg, y4.agg] W' fun e w' => e = .returned (.bool true) ∧ Below W'.heap.size W' w') (fun W' b => same13_any (V2.out.later (a2.trans (b.mono a2.size))) (V4.out.later (a4.trans (b.mono a4.size))) (Q4.out.trans Q2.out.symm))
      have P1 := Lib.hid (O1.out.later a1)
      have P2 := Lib.hid (O2.out.later a2)
      have P3 := Lib.hid (O3.out.later a3)
      have S1' := Lib.hid (And.intro L1.out.size (And.intro L2.out.size (And.intro L3.out.size (And.intro Z1.out (And.intro Z2.out (And.intro Z3.out a3.size))))))
      have HE5 := Lib.hid (HE.out.later M15.out)
      have nz := HE.out.ow.lt
      have NZ := Lib.hid nz
      clear nz
      have UL := Lib.hid (p := ∀ k, k < Ps.length → Us k ≤ W.heap.size) HE.out.hi
      have B0 := Lib.hid (p := w.heap.size ≤ W.heap.size) HB.out.size
      clear a1 a2 a3 a4 O1 O2 O3 V1 V2 V3 V4 V5 Q1 Q2 Q3 Q4 Q5 X1 X2 X3 X4 X5 A1 A2 A3 A4 A5 L1 L2 L3 L4 L5 K1 K2 D1 D2 M1 M2 M3 M4 M5 M25 M35 M45 C1 C2 C3 C4 Z1 Z2 Z3 Z4 Z5 HE
      unfold Pg.agg at KS1 KS2 KS3
      have B5 := Lib.hid (Below.refl W5.heap.size W5)
      obtain ⟨p0, p1, p2, p3, p4, p5, p6, p7⟩ := pcells (G1.out W5 B5.out)
      obtain ⟨q0, q1, q2, q3, q4, q5', q6, q7⟩ := pcells (G5.out W5 B5.out)
      go_upto_region 12 with (first
        | (have qq := p0; go_at_call 8; refine (KS1.out _ B5.out).mono ?_; rintro e w6 ⟨rfl, h6⟩; have B6 := Lib.hid h6; clear h6 p0 p1 p2 p3 p4 p5 p6 p7 q0 q1 q2 q3 q4 q5' q6 q7 qq; obtain ⟨v0, v1, v2, v3', v4, v5, v6, v7⟩ := pcells (G3.out w6 B6.out); obtain ⟨q0, q1, q2, q3, q4, q5', q6, q7⟩ := pcells (G5.out w6 B6.out))
        | (have qq := v0; go_at_call 8; refine (KS2.out _ B6.out).mono ?_; rintro e w7 ⟨rfl, h7⟩; have B7 := Lib.hid (B6.out.trans (h7.mono B6.out.size)); clear h7 v0 v1 v2 v3' v4 v5 v6 v7 q0 q1 q2 q3 q4 q5' q6 q7 qq; obtain ⟨x0, x1, x2', x3, x4, x5, x6, x7⟩ := pcells (G2.out w7 B7.out); obtain ⟨y0, y1, y2, y3, y4', y5, y6, y7⟩ := pcells (G4.out w7 B7.out))
        | (have qq := x0; go_at_call 8; refine (KS3.out _ B7.out).mono ?_; rintro e w8 ⟨rfl, h8⟩; have B8 := Lib.hid (B7.out.trans (h8.mono B7.out.size)); clear h8 x0 x1 x2' x3 x4 x5 x6 x7 y0 y1 y2 y3 y4' y5 y6 y7 qq))
      clear KS1 KS2 KS3
      have E8 := Lib.hid (HE5.out.later B8.out)
      have R1 := Lib.hid (P1.out.later B8.out)
      have R2 := Lib.hid (P2.out.later B8.out)
      have R3 := Lib.hid (P3.out.later B8.out)
      have BW8 := Lib.hid (C5.out.trans (B8.out.mono C5.out.size))
      obtain ⟨p0, p1, p2, p3, p4, p5, p6, p7⟩ := pcells (G1.out w8 B8.out)
      obtain ⟨x0, x1, x2', x3, x4, x5, x6, x7⟩ := pcells (G2.out w8 B8.out)
      obtain ⟨v0, v1, v2, v3', v4, v5, v6, v7⟩ := pcells (G3.out w8 B8.out)
      have n8 : Ps.length ≤ 100000000 := by have := HL.out; omega
      have B8s := Lib.hid B8.out.size
      clear HE5 P1 P2 P3 G1 G2 G3 G4 G5 B5 B6 B7 C5 M15 B8
      go_upto_region 13 with (at_builtin; refine wp_push3 _ w.heap.size _ _ p x2 v3 rfl _ _ rfl _ rfl E8.out.ow rfl n8 (Nat.le_trans BW8.out.size (Nat.le_refl _)) _ rfl ?_; intro hv w9 o9 g9 y9; have E9 := Lib.hid (E8.out.push R1.out R2.out R3.out (fun k hk => UL.out k hk) (by have := S1'.out; omega) (by have := S1'.out; omega) (by have := S1'.out; have := B8s.out; omega) B0.out (by have := S1'.out; omega) (by have := S1'.out; omega) (by have := S1'.out; omega) (fun z e => (NZ.out z e).2) o9 g9 y9); have B9 := Lib.hid (p := Below w.heap.size w w9) ((BW8.out.alloc BW8.out.size _).grown g9 (Nat.le_trans BW8.out.size (by simp)) (fun k e => (NZ.out k e).1)); clear o9 g9 y9)
      clear p0 p1 p2 p3 p4 p5 p6 p7 x0 x1 x2' x3 x4 x5 x6 x7 v0 v1 v2 v3' v4 v5 v6 v7 E8 R1 R2 R3 BW8 S1' UL B8s NZ n8
      have LP := Lib.hid (p := (Ps ++ [p, x2, v3]).length = 3 * i + 3) (by have := HL.out; simp; omega)
      have WP := Lib.hid (p := ∀ j, j < 3 * i → IsW (j + 1) ((Ps ++ [p, x2, v3]).getD j default)) (fun j hj => by
        have := HW.out j hj
        have e : (Ps ++ [p, x2, v3]).getD j default = Ps.getD j default := by simp only [List.getD]; rw [List.getElem?_append_left (by have := HL.out; omega)]
        rw [e]; exact this)
      generalize (fun k => if k < Ps.length then Bs k else [W.heap.size, W1.heap.size, W2.heap.size].getD (k - Ps.length) 0) = Bq at *
      generalize (fun k => if k < Ps.length then Us k else [w1.heap.size, w2.heap.size, w3.heap.size].getD (k - Ps.length) 0) = Uq at *
      generalize Ps ++ [p, x2, v3] = Pq at *
      clear HL HW
      obtain ⟨L, hL⟩ : ∃ L, L = 3 * i + 3 := ⟨_, rfl⟩
      rw [← hL] at LP
      obtain ⟨g, cap, hf⟩ := own_formQ E9.out.ow (by rw [LP.out]; omega)
      rw [LP.out] at hf
      subst hf
      have L20 : L ≤ 3145728 := by omega
      have wk3 : IntKind.i64.wrap ((L : Int) - 3) = ((3 * i : Nat) : Int) := by simp [IntKind.wrap, IntKind.bits, IntKind.signed]; omega
      have HLI := Lib.hid hL
      have L3 : 3 * i ≤ L := by omega
      clear hL
      go_wp2
      clear wk3
      go_loopw [20] (fun t W' => ∃ (k : Nat) (Pr : List Pg), 3 * i ≤ k ∧ k ≤ L ∧ t = .int .i64 (k : Int) ∧ RowKit.Hid (HeD W' w.heap.size (.slice (some ⟨g, 0, none⟩) L cap) Pr Bq Uq) ∧ RowKit.Hid (Pr.length = L) ∧ RowKit.Hid (∀ j, j < k → IsW (j + 1) (Pr.getD j default)) ∧ RowKit.Hid (Below w.heap.size w W')) (fun t _ => L - (intOf t).toNat)
      case atStart => exact ⟨3 * i, Pq, Nat.le_refl _, by omega, by go_num, E9, LP, WP, B9⟩
      case round =>
        clear E9 LP WP B9
        rename World => W'
        obtain ⟨k, Pr, hk3, hkL, rfl, HE, HL, HW, HB2⟩ := hrel
        by_cases hlt2 : k < L
        · have kc : (k : Int) < (L : Int) := by omega
          have hk' : k < Pr.length := by rw [HL.out]; exact hlt2
          obtain ⟨d0, d1, d2, d3, d4, d5, d6, d7⟩ := HE.out.cells HL.out hlt2
          have KW := Lib.hid (wipe_any (HE.out.po k hk') (HE.out.hi k hk') (k + 1) (by omega))
          have wk : IntKind.i64.wrap (-1 - (k : Int)) = -((k + 1 : Nat) : Int) := by simp [IntKind.wrap, IntKind.bits, IntKind.signed]; omega
          have HX := Lib.hid (fun w10 Pn (h1 : PO w10 (Bq k) (Uq k) Pn) (h2 : FrDX (fun z => Bq k ≤ z ∧ z < Uq k) W' w10) (h3 : Pn.arr = (Pr.getD k default).arr) => HE.out.wipe hk' h1 h2 h3)
          have LO := Lib.hid (HE.out.lo k hk')
          have HK' := Lib.hid hk'
          clear hk'
          unfold Pg.agg at KW
          generalize Pr.getD k default = Pk at *
          clear HE
          go_wp2_with (go_at_call 14; refine KW.out.mono ?_; rintro e w10 ⟨Pn, rfl, ar, po, iw, fr⟩; have HE2 := Lib.hid (HX.out w10 Pn po fr ar); have IW := Lib.hid iw; have B10 := Lib.hid (p := Below w.heap.size w w10) (HB2.out.trans (bel_fr fr HB2.out.size (fun z hz q => by have := LO.out; omega))); clear po iw fr)
          go_roundw
          case rel => exact ⟨k + 1, Pr.set k Pn, by omega, by omega, by go_num, HE2, Lib.hid (by rw [List.length_set]; exact HL.out), Lib.hid (fun j hj => by
            rw [getD_setT _ _ _ _ HK'.out]
            by_cases q : j = k
            · subst q; rw [if_pos rfl]; exact IW.out
            · rw [if_neg q]; exact HW.out j (by omega)), B10⟩
          case measure => simp [intOf]; omega
        · obtain rfl : L = k := by omega
          clear hlt2 hkL hk3
          go_wp2
          go_loopw [21] (fun t W' => ∃ (k : Nat), k ≤ L ∧ t = .int .i64 (k : Int) ∧ RowKit.Hid (HeD W' w.heap.size (.slice (some ⟨g, 0, none⟩) L cap) Pr Bq Uq) ∧ RowKit.Hid (Below w.heap.size w W')) (fun t _ => L - (intOf t).toNat)
          case atStart => exact ⟨0, Nat.zero_le _, rfl, HE, HB2⟩
          case round =>
            clear HE HB2
            rename World => W3
            obtain ⟨k, hkL, rfl, HE, HB2⟩ := hrel
            by_cases hlt2 : k < L
            · have kc : (k : Int) < (L : Int) := by omega
              have hk' : k < Pr.length := by rw [HL.out]; exact hlt2
              obtain ⟨d0, d1, d2, d3, d4, d5, d6, d7⟩ := HE.out.cells HL.out hlt2
              have KV := Lib.hid (wiped_any (HE.out.po k hk') (k + 1) (by omega) (HW.out k hlt2))
              have wk : IntKind.i64.wrap (-1 - (k : Int)) = -((k + 1 : Nat) : Int) := by simp [IntKind.wrap, IntKind.bits, IntKind.signed]; omega
              unfold Pg.agg at KV
              generalize Pr.getD k default = Pk at *
              go_wp2_with (go_at_call 15; refine KV.out.mono ?_; rintro e w10 ⟨rfl, h10⟩; have HE2 := Lib.hid (HE.out.later h10); have B10 := Lib.hid (p := Below w.heap.size w w10) (HB2.out.trans (h10.mono HB2.out.size)); clear h10)
              go_roundw
              case rel => exact ⟨k + 1, by omega, by go_num, HE2, B10⟩
              case measure => simp [intOf]; omega
            · obtain rfl : L = k := by omega
              have i64' : i ≤ 1048576 := by omega
              go_wp2
              go_roundw
              case rel => exact ⟨i + 1, Pr, Bq, Uq, by omega, by go_num, HE, Lib.hid (by rw [HL.out, HLI.out]; omega), Lib.hid (fun j hj => HW.out j (by have := HLI.out; omega)), HB2⟩
              case measure => simp [intOf]; omega
    · obtain rfl : n = i := by omega
      go_wp2
      go_ret
      exact ⟨rfl, HB.out⟩
end Go.Proofs.YtccjeipkljdhdaaGreatDoor

namespace Go.Proofs.YtccjeipkljdhdaaGreatDoor
open Go.RowKit
set_option linter.unusedVariables false
set_option linter.unusedSimpArgs false

theorem GlA.laterH {w W : World} (h : GlA w) (b : Below w.heap.size w W) : GlA W := ⟨pows_below h.pw b, ev_below h.ev b, h.rw_.below b, h.md.later b, h.ln.later b⟩
end Go.Proofs.YtccjeipkljdhdaaGreatDoor

namespace Go.Proofs.YtccjeipkljdhdaaGreatDoor
open Go.RowKit
set_option linter.unusedVariables false
set_option linter.unusedSimpArgs false

/-- Below B all stays but the box. -/
structure FrB (pb B : Nat) (w w' : World) : Prop where
  os : w'.os = w.os
  tape : w'.tape = w.tape
  out : w'.output = w.output
  size : w.heap.size ≤ w'.heap.size
  blk : ∀ k, k < w.heap.size → k < B → k ≠ pb → w'.heap[k]? = w.heap[k]?
theorem FrB.refl (pb B : Nat) (w : World) : FrB pb B w w := ⟨rfl, rfl, rfl, Nat.le_refl _, fun _ _ _ _ => rfl⟩
theorem FrB.trans {pb B : Nat} {a b c : World} (h : FrB pb B a b) (k : FrB pb B b c) : FrB pb B a c :=
  ⟨k.os.trans h.os, k.tape.trans h.tape, k.out.trans h.out, Nat.le_trans h.size k.size, fun x h1 h2 h3 => (k.blk x (Nat.lt_of_lt_of_le h1 h.size) h2 h3).trans (h.blk x h1 h2 h3)⟩
theorem FrB.below {pb B : Nat} {a b : World} (h : Below a.heap.size a b) : FrB pb B a b := ⟨h.os, h.tape, h.output, h.size, fun x h1 _ _ => h.block x h1⟩
theorem FrB.bel {pb B B0 : Nat} {a b : World} (h : FrB pb B a b) (h0 : B0 ≤ pb) (h1 : pb < B) (h2 : B ≤ a.heap.size) : Below B0 a b := ⟨h.os, h.tape, h.out, by have := h.size; omega, fun x hx => h.blk x (by omega) (by omega) (by omega)⟩
theorem FrB.grown {pb B : Nat} {a b : World} {r : Option Nat} (g : a.grownBy b r) (hr : ∀ z, r = some z → B ≤ z ∨ z = pb) : FrB pb B a b :=
  ⟨g.os, g.tape, g.output, g.size, fun x h1 h2 h3 => g.block x h1 (fun e => by rcases hr x e.symm with q | q <;> omega)⟩
theorem FrB.set {pb B : Nat} (a : World) (j : Nat) (v : Value) : FrB pb B a (a.setCell ⟨pb, j, none⟩ v) := FrB.grown (setCell_gr a pb j v) (fun z e => by injection e with e; exact .inr e.symm)
/-- The program's cells. -/
def dsA (vn vu vp : Value) (h c s t : Int) (vd : Value) : Array Value := #[vn, vu, vp, .int .i64 h, .int .i64 c, .int .i64 s, .int .i64 t, vd]
/-- The lists, as they lie. -/
structure DsL (pb B : Nat) (W : World) (p : Ap) (vn vu vp vd : Value) (D : List Sg) (m : Nat) : Prop where
  on : OwQ W B vn p.ns
  ou : OwQ W B vu p.cs
  op : OwZs W B vp p.pl
  od : W.ownsRow B 39 2 vd D.length (sgsP D)
  oc : ∀ i, i < D.length → W.ownsRow B 42 3 (D.getD i default).cv (D.getD i default).code.length (icsP (D.getD i default).code)
  ap : ∀ i j, i < j → j < D.length → (D.getD i default).cv.ownBlock = none ∨ (D.getD i default).cv.ownBlock ≠ (D.getD j default).cv.ownBlock
  an : vn.ownBlock = none ∨ vn.ownBlock ≠ vu.ownBlock
  days : D.map Sg.key = p.days
  dl : D.length ≤ m
  cl : ∀ i, i < D.length → (D.getD i default).code.length ≤ m
  pb_lt : pb < B
  sz : B ≤ W.heap.size
def DsP (pb B : Nat) (W : World) (p : Ap) (m : Nat) : Prop := ∃ vn vu vp vd D, BkP W pb (dsA vn vu vp p.hor p.cells p.slots p.stack vd) 27 ∧ DsL pb B W p vn vu vp vd D m
theorem DsL.more {pb B : Nat} {W : World} {p : Ap} {vn vu vp vd : Value} {D : List Sg} {m m' : Nat} (h : DsL pb B W p vn vu vp vd D m) (hm : m ≤ m') : DsL pb B W p vn vu vp vd D m' :=
  ⟨h.on, h.ou, h.op, h.od, h.oc, h.ap, h.an, h.days, Nat.le_trans h.dl hm, fun i hi => Nat.le_trans (h.cl i hi) hm, h.pb_lt, h.sz⟩
theorem DsL.setB {pb B : Nat} {W : World} {p : Ap} {vn vu vp vd : Value} {D : List Sg} {m : Nat} (h : DsL pb B W p vn vu vp vd D m) (j : Nat) (v : Value) : DsL pb B (W.setCell ⟨pb, j, none⟩ v) p vn vu vp vd D m :=
  ⟨own_setQ h.on h.pb_lt, own_setQ h.ou h.pb_lt, own_setQ h.op h.pb_lt, own_setQ h.od h.pb_lt, fun i hi => own_setQ (h.oc i hi) h.pb_lt, h.ap, h.an, h.days, h.dl, h.cl, h.pb_lt, by simpa using h.sz⟩
theorem DsL.later {pb B : Nat} {W W' : World} {p : Ap} {vn vu vp vd : Value} {D : List Sg} {m : Nat} (h : DsL pb B W p vn vu vp vd D m) (b : Below W.heap.size W W') : DsL pb B W' p vn vu vp vd D m :=
  ⟨own_belQ h.on b, own_belQ h.ou b, own_belQ h.op b, own_belQ h.od b, fun i hi => own_belQ (h.oc i hi) b, h.ap, h.an, h.days, h.dl, h.cl, h.pb_lt, Nat.le_trans h.sz b.size⟩
theorem DsP.later {pb B : Nat} {W W' : World} {p : Ap} {m : Nat} (h : DsP pb B W p m) (b : Below W.heap.size W W') : DsP pb B W' p m := by
  obtain ⟨vn, vu, vp, vd, D, hb, hl⟩ := h
  exact ⟨vn, vu, vp, vd, D, (b.block pb hb.lt).trans hb, hl.later b⟩
/-- A row of another type beside one that turns. -/
theorem own_typQ {W W' : World} {B B' s s' n n' : Nat} {e e' : TypeId} {v v' : Value} {xs xs' : List Value} (h : W.ownsRow B e s v n xs) (h' : W.ownsRow B' e' s' v' n' xs') (ne : e ≠ e') (g : W.grownBy W' v'.ownBlock) : W'.ownsRow B e s v n xs := row_farP h g (fun k z q q2 => by
  rcases own_apQ h h' ne with t | t
  · rw [t] at q2; cases q2
  · rintro rfl; exact t (q2.trans q.symm))
/-- A name more. -/
theorem DsL.name {pb B : Nat} {W W' : World} {p : Ap} {vn vn' vu vp vd : Value} {D : List Sg} {m : Nat} (h : DsL pb B W p vn vu vp vd D m) (u : ByteArray) (g : W.grownBy W' vn.ownBlock) (o : OwQ W' B vn' (p.ns ++ [u])) (l : vn'.ownBlock = vn.ownBlock ∨ ∀ z, vn'.ownBlock = some z → W.heap.size ≤ z) :
    DsL pb B W' { p with ns := p.ns ++ [u] } vn' vu vp vd D m := by
  refine ⟨o, row_farP h.ou g (fun k z e e2 => ?_), own_typQ h.op h.on (by decide) g, own_typQ h.od h.on (by decide) g, fun i hi => own_typQ (h.oc i hi) h.on (by decide) g, h.ap, ?_, h.days, h.dl, h.cl, h.pb_lt, Nat.le_trans h.sz g.size⟩
  · rcases h.an with t | t
    · rw [t] at e; cases e
    · rintro rfl; exact t (e.trans e2.symm)
  · rcases l with l | l
    · rw [l]; exact h.an
    · rcases hv : vn'.ownBlock with _ | z
      · exact .inl rfl
      · exact .inr (fun e => by have := (h.ou.lt z e.symm).2; have := l z hv; omega)
/-- A currency more. -/
theorem DsL.cur {pb B : Nat} {W W' : World} {p : Ap} {vn vu vu' vp vd : Value} {D : List Sg} {m : Nat} (h : DsL pb B W p vn vu vp vd D m) (u : ByteArray) (g : W.grownBy W' vu.ownBlock) (o : OwQ W' B vu' (p.cs ++ [u])) (l : vu'.ownBlock = vu.ownBlock ∨ ∀ z, vu'.ownBlock = some z → W.heap.size ≤ z) :
    DsL pb B W' { p with cs := p.cs ++ [u] } vn vu' vp vd D m := by
  refine ⟨row_farP h.on g (fun k z e e2 => ?_), o, own_typQ h.op h.ou (by decide) g, own_typQ h.od h.ou (by decide) g, fun i hi => own_typQ (h.oc i hi) h.ou (by decide) g, h.ap, ?_, h.days, h.dl, h.cl, h.pb_lt, Nat.le_trans h.sz g.size⟩
  · rcases h.an with t | t
    · rw [t] at e2; cases e2
    · rintro rfl; exact t (e2.trans e.symm)
  · rcases l with l | l
    · rw [l]; exact h.an
    · rcases hv : vn.ownBlock with _ | z
      · exact .inl rfl
      · exact .inr (fun e => by have := (h.on.lt z hv).2; have := l z e.symm; omega)
/-- A value more. -/
theorem DsL.num {pb B : Nat} {W W' : World} {p : Ap} {vn vu vp vp' vd : Value} {D : List Sg} {m : Nat} (h : DsL pb B W p vn vu vp vd D m) (u : Int) (g : W.grownBy W' vp.ownBlock) (o : OwZs W' B vp' (p.pl ++ [u])) : DsL pb B W' { p with pl := p.pl ++ [u] } vn vu vp' vd D m :=
  ⟨own_typQ h.on h.op (by decide) g, own_typQ h.ou h.op (by decide) g, o, own_typQ h.od h.op (by decide) g, fun i hi => own_typQ (h.oc i hi) h.op (by decide) g, h.ap, h.an, h.days, h.dl, h.cl, h.pb_lt, Nat.le_trans h.sz g.size⟩
/-- A day more. -/
theorem DsL.day {pb B : Nat} {W W' : World} {p : Ap} {vn vu vp vd vd' : Value} {D : List Sg} {m : Nat} (h : DsL pb B W p vn vu vp vd D m) (n : Int) (g : W.grownBy W' vd.ownBlock) (o : W'.ownsRow B 39 2 vd' (D.length + 1) (sgsP D ++ [.int .i64 n, .slice none 0 0])) (hm : D.length + 1 ≤ m) :
    DsL pb B W' { p with days := p.days ++ [(n, [])] } vn vu vp vd' (D ++ [⟨n, none, 0, []⟩]) m := by
  have el : (D ++ [(⟨n, none, 0, []⟩ : Sg)]).length = D.length + 1 := by simp
  have old : ∀ i, i < D.length → (D ++ [(⟨n, none, 0, []⟩ : Sg)]).getD i default = D.getD i default := fun i hi => by simp [List.getD, List.getElem?_append_left hi]
  have new : (D ++ [(⟨n, none, 0, []⟩ : Sg)]).getD D.length default = ⟨n, none, 0, []⟩ := by simp [List.getD]
  refine ⟨own_typQ h.on h.od (by decide) g, own_typQ h.ou h.od (by decide) g, own_typQ h.op h.od (by decide) g, ?_, ?_, ?_, h.an, ?_, by omega, ?_, h.pb_lt, Nat.le_trans h.sz g.size⟩
  · rw [el, sgsP_app]; exact o
  · intro i hi
    rw [el] at hi
    by_cases q : i < D.length
    · rw [old i q]
      exact own_typQ (h.oc i q) h.od (by decide) g
    · obtain rfl : i = D.length := by omega
      rw [new]
      exact ⟨by rfl, .inl ⟨rfl, rfl⟩⟩
  · intro i j hij hj
    rw [el] at hj
    by_cases q : j < D.length
    · rw [old i (by omega), old j q]; exact h.ap i j hij q
    · obtain rfl : j = D.length := by omega
      rw [old i hij, new]
      rcases hv : (D.getD i default).cv.ownBlock with _ | b
      · exact .inl rfl
      · exact .inr (by simp [Sg.cv, Value.ownBlock])
  · rw [List.map_append, h.days]; rfl
  · intro i hi
    rw [el] at hi
    by_cases q : i < D.length
    · rw [old i q]; exact h.cl i q
    · obtain rfl : i = D.length := by omega
      rw [new]; exact Nat.zero_le _
/-- An instruction more, at the last day. -/
theorem DsL.code {pb B : Nat} {W W1 : World} {p : Ap} {vn vu vp : Value} {D0 : List Sg} {s : Sg} {m g cap a c : Nat} (i : In) (h : DsL pb B W p vn vu vp (.slice (some ⟨g, 0, none⟩) (D0.length + 1) cap) (D0 ++ [s]) m) (gr : W.grownBy W1 s.cv.ownBlock)
    (o : W1.ownsRow B 42 3 (.slice (some ⟨a, 0, none⟩) (s.code.length + 1) c) (s.code.length + 1) (icsP s.code ++ icell i)) (lies : s.cv.ownBlock = some a ∨ a = W.heap.size) (hm : s.code.length + 1 ≤ m) :
    DsL pb B (W1.setCell ⟨g, D0.length * 2 + 1, none⟩ (.slice (some ⟨a, 0, none⟩) (s.code.length + 1) c)) { p with days := addI p.days i } vn vu vp (.slice (some ⟨g, 0, none⟩) (D0.length + 1) cap) (D0 ++ [⟨s.day, some ⟨a, 0, none⟩, c, s.code ++ [i]⟩]) m ∧
      FrB pb B W (W1.setCell ⟨g, D0.length * 2 + 1, none⟩ (.slice (some ⟨a, 0, none⟩) (s.code.length + 1) c)) ∧ W1.cell? ⟨g, D0.length * 2 + 1, none⟩ = some s.cv ∧ W1.frozen? ⟨g, D0.length * 2 + 1, none⟩ = false ∧ some pb ≠ s.cv.ownBlock ∧ g ≠ pb := by
  have el : (D0 ++ [s]).length = D0.length + 1 := by simp
  have old : ∀ (s' : Sg) i, i < D0.length → (D0 ++ [s']).getD i default = D0.getD i default := fun s' i hi => by simp [List.getD, List.getElem?_append_left hi]
  have new : ∀ s' : Sg, (D0 ++ [s']).getD D0.length default = s' := fun s' => by simp [List.getD]
  have OC := h.oc
  have AP := h.ap
  have os := OC D0.length (by omega)
  rw [new] at os
  have od := h.od
  rw [el] at od
  have f1 : FrB pb B W W1 := FrB.grown gr (fun z e => .inl (os.lt z e).1)
  have od1 := own_typQ od os (by decide) gr
  obtain ⟨od2, g2⟩ := od1.stored (D0.length * 2 + 1) (.slice (some ⟨a, 0, none⟩) (s.code.length + 1) c)
  have f2 : FrB pb B W1 (W1.setCell ⟨g, D0.length * 2 + 1, none⟩ (.slice (some ⟨a, 0, none⟩) (s.code.length + 1) c)) := FrB.grown g2 (fun z e => by injection e with e; subst e; exact .inl (od1.lt g rfl).1)
  have two : ∀ {s' n : Nat} {e : TypeId} {v : Value} {xs : List Value}, W1.ownsRow B e s' v n xs → e ≠ 39 → (W1.setCell ⟨g, D0.length * 2 + 1, none⟩ (.slice (some ⟨a, 0, none⟩) (s.code.length + 1) c)).ownsRow B e s' v n xs := fun {s' n e v xs} q ne => own_typQ q od1 ne g2
  have ci : icsP (s.code ++ [i]) = icsP s.code ++ icell i := by simp [icsP]
  have cl : W1.cell? ⟨g, D0.length * 2 + 1, none⟩ = some s.cv := by
    have e := flat_at Sg.cs 2 (fun _ => rfl) (D0 ++ [s]) D0.length (by omega) 1 (by omega)
    have := od1.cells (g := g) rfl _ _ e
    rw [Go.Addr.add_lit, Nat.zero_add] at this
    rw [this]
    simp [List.getD, Sg.cs, Sg.cv]
  refine ⟨⟨two (own_typQ h.on os (by decide) gr) (by decide), two (own_typQ h.ou os (by decide) gr) (by decide), two (own_typQ h.op os (by decide) gr) (by decide), ?_, ?_, ?_, h.an, ?_, by have := h.dl; simp at this ⊢; omega, ?_, h.pb_lt, Nat.le_trans h.sz (f1.trans f2).size⟩, f1.trans f2, cl, od1.frozenAt _, fun e => by have := (os.lt pb e.symm).1; have := h.pb_lt; omega, by have := (od1.lt g rfl).1; have := h.pb_lt; omega⟩
  · rw [show (D0 ++ [(⟨s.day, some ⟨a, 0, none⟩, c, s.code ++ [i]⟩ : Sg)]).length = D0.length + 1 by simp]
    have e := sgs_set D0 s ⟨s.day, some ⟨a, 0, none⟩, c, s.code ++ [i]⟩ rfl
    rw [← e]
    simpa [Sg.cv] using od2
  · intro j hj
    simp only [List.length_append, List.length_cons, List.length_nil] at hj
    by_cases q : j < D0.length
    · rw [old _ j q]
      have x := OC j (by omega)
      rw [old _ j q] at x
      refine two (row_farP x gr (fun k z e e2 => ?_)) (by decide)
      have y := AP j D0.length q (by omega)
      rw [old _ j q, new] at y
      rcases y with t | t
      · rw [t] at e2; cases e2
      · rintro rfl; exact t (e2.trans e.symm)
    · obtain rfl : j = D0.length := by omega
      rw [new]
      simp only [Sg.cv, ci, List.length_append, List.length_cons, List.length_nil]
      exact two o (by decide)
  · intro j k hjk hk
    simp only [List.length_append, List.length_cons, List.length_nil] at hk
    by_cases q : k < D0.length
    · have y := AP j k hjk (by omega)
      rw [old _ j (by omega), old _ k q] at y ⊢
      exact y
    · obtain rfl : k = D0.length := by omega
      have y := AP j D0.length hjk (by omega)
      have x := OC j (by omega)
      rw [old _ j hjk, new] at y
      rw [old _ j hjk] at x
      rw [old _ j hjk, new]
      rcases y with t | t
      · exact .inl t
      · right
        rcases lies with q1 | q1
        · rw [q1] at t; exact t
        · intro e
          have := (x.lt a (e.trans rfl)).2
          omega
  · show (D0 ++ [(⟨s.day, some ⟨a, 0, none⟩, c, s.code ++ [i]⟩ : Sg)]).map Sg.key = addI p.days i
    rw [← h.days]
    simp [addI, Sg.key]
  · intro j hj
    simp only [List.length_append, List.length_cons, List.length_nil] at hj
    by_cases q : j < D0.length
    · have y := h.cl j (by omega)
      rw [old _ j q] at y ⊢; exact y
    · obtain rfl : j = D0.length := by omega
      rw [new]; simpa using hm
end Go.Proofs.YtccjeipkljdhdaaGreatDoor
