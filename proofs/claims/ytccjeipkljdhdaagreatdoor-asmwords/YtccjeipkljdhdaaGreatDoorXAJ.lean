import Derived.Test.YtccjeipkljdhdaaGreatDoorXAI
namespace Go.Proofs.YtccjeipkljdhdaaGreatDoor
open Go.RowKit
set_option linter.unusedVariables false
set_option linter.unusedSimpArgs false
theorem len_txt (p : Pg) : (txtP p).length = (lnL 0 p.names).length + (lnL 1 p.curs).length + (lnL 2 (p.pool.map txA)).length + (nmLn 3 p.hor).length + (nmLn 4 p.cells).length + (nmLn 5 p.slots).length + (nmLn 6 p.stack).length + (p.days.flatMap (dyLn p)).length := by
  unfold txtP hdT
  simp only [List.length_append]
theorem bd_new (W : World) : Bd W.heap.size W.heap.size [] (W.alloc (.cells #[.pointer none, .slice none 0 0] 80)) :=
  .inl ⟨Nat.le_refl _, .slice none 0 0, heapN W _, World.ownsRow_nil _ _ _ _, by simp [Value.ownBlock]⟩
theorem wds_le (i : In) (hi : i.okP) : 1 + onA i.o.toNat ≤ 3 := by
  have := (tab_facts i.o.toNat (by have := hi.1; have := hi.2.1; omega)).1
  omega
set_option maxHeartbeats 4000000 in
set_option maxRecDepth 100000 in
theorem textOf_any {w : World} {p : Pg} (h : PV w p) (hS : SmP p) (hR : Rws w) (hP : Pows w) (hM : Mds w) (hG : LnG w) :
    Calls Tryz.prog 21 #[p.agg] w fun e w' => e = .returned (.string ⟨(txtP p).toArray⟩) ∧ Below w.heap.size w w' := by
  have LT := len_txt p
  have TX := hS.tx
  rw [LT] at TX
  have j0 := jl_le 0 p.names
  have j1 := jl_le 1 p.curs
  have j2 := jl_le 2 (p.pool.map txA)
  have X1 := heapN w (.cells p.arr 27)
  have A1 := allocBP w (.cells p.arr 27)
  have sz1 : (w.alloc (.cells p.arr 27)).heap.size = w.heap.size + 1 := by simp
  have BN := bd_new (w.alloc (.cells p.arr 27))
  have A2 := A1.alloc A1.size (.cells #[.pointer none, .slice none 0 0] 80)
  rw [sz1] at BN
  have X2 : BkP ((w.alloc (.cells p.arr 27)).alloc (.cells #[.pointer none, .slice none 0 0] 80)) w.heap.size p.arr 27 := (Below.heap_alloc _ _ _ (by simp)).trans X1
  unfold Pg.arr at *
  generalize hW2 : ((w.alloc _).alloc _) = W2 at *
  have wB : w.heap.size ≤ w.heap.size + 1 := by omega
  have BW := Lib.hid (p := ∀ W, Below (w.heap.size + 1) W2 W → Below w.heap.size w W) (fun W b => A2.trans (b.mono wB))
  have PC := Lib.hid (p := ∀ W, Below (w.heap.size + 1) W2 W → W.cell? ⟨w.heap.size, 0, none⟩ = some (.slice p.na p.names.length p.nc) ∧ W.cell? ⟨w.heap.size, 1, none⟩ = some (.slice p.ua p.curs.length p.uc) ∧ W.cell? ⟨w.heap.size, 2, none⟩ = some (.slice p.pa p.pool.length p.pc) ∧ W.cell? ⟨w.heap.size, 3, none⟩ = some (.int .i64 p.hor) ∧ W.cell? ⟨w.heap.size, 4, none⟩ = some (.int .i64 p.cells) ∧ W.cell? ⟨w.heap.size, 5, none⟩ = some (.int .i64 p.slots) ∧ W.cell? ⟨w.heap.size, 6, none⟩ = some (.int .i64 p.stack) ∧ W.cell? ⟨w.heap.size, 7, none⟩ = some (.slice p.da p.days.length p.dc)) (fun W b => by
    have g := fun j => (b.cell (p := ⟨w.heap.size, j, none⟩) (by show w.heap.size < w.heap.size + 1; omega)).trans (X2.cell j)
    exact ⟨g 0, g 1, g 2, g 3, g 4, g 5, g 6, g 7⟩)
  have LG := fun W (b : Below (w.heap.size + 1) W2 W) => hG.later (Nat.le_refl _) (BW.out W b) (BW.out W b).size
  have KL0 := Lib.hid (fun W (r : BdR (w.heap.size + 1) (w.heap.size + 1) ([]) W2 W) => writeList_any r.bd (fun W' b' => LG W' (r.bel.trans b')) 0 (by omega) (sr_wl h.names (BW.out W r.bel) wB) h.names.1.2.1 (by simp only [List.length_append, List.length_nil]; omega) (by have := hS.nl; omega))
  have KL1 := Lib.hid (fun W (r : BdR (w.heap.size + 1) (w.heap.size + 1) ([] ++ lnL 0 p.names) W2 W) => writeList_any r.bd (fun W' b' => LG W' (r.bel.trans b')) 1 (by omega) (sr_wl h.curs (BW.out W r.bel) wB) h.curs.1.2.1 (by simp only [List.length_append, List.length_nil]; omega) (by have := hS.ul; omega))
  have KV := Lib.hid (p := ∀ W, BdR (w.heap.size + 1) (w.heap.size + 1) ([] ++ lnL 0 p.names ++ lnL 1 p.curs) W2 W → Calls Tryz.prog 39 #[.slice p.pa p.pool.length p.pc] W fun e w' => ∃ a c, e = .returned (.slice a p.pool.length c) ∧ p.pool.length ≤ c ∧ WL (w.heap.size + 1) w' a p.pool.length (p.pool.map txA) ∧ Below W.heap.size W w') (fun W r => by
    refine (valueTexts_any (h.pool.later (BW.out W r.bel)) (by have := hS.pl; omega) (hP.later (BW.out W r.bel))).mono ?_
    rintro e w' ⟨v, rfl, hO, b1⟩
    obtain ⟨a, c, rfl, hc, hW⟩ := hO.wl (B := w.heap.size + 1)
    rw [List.length_map] at hc hW
    exact ⟨a, c, by rw [List.length_map], hc, hW, b1⟩)
  have KL2 := Lib.hid (fun W (r : BdR (w.heap.size + 1) (w.heap.size + 1) ([] ++ lnL 0 p.names ++ lnL 1 p.curs) W2 W) (a : Option Addr) (c : Nat) (z : WL (w.heap.size + 1) W a p.pool.length (p.pool.map txA)) (hc : p.pool.length ≤ c) => writeList_any r.bd (fun W' b' => LG W' (r.bel.trans b')) 2 (by omega) z hc (by simp only [List.length_append, List.length_nil]; omega) (by have := hS.pl; omega))
  have KN3 := Lib.hid (fun W (r : BdR (w.heap.size + 1) (w.heap.size + 1) ([] ++ lnL 0 p.names ++ lnL 1 p.curs ++ lnL 2 (p.pool.map txA)) W2 W) => writeNumber_any r.bd (LG W r.bel) (hP.later (BW.out W r.bel)) 3 (by omega) p.hor h.hor (by simp only [List.length_append, List.length_nil]; omega))
  have KN4 := Lib.hid (fun W (r : BdR (w.heap.size + 1) (w.heap.size + 1) ([] ++ lnL 0 p.names ++ lnL 1 p.curs ++ lnL 2 (p.pool.map txA) ++ nmLn 3 p.hor) W2 W) => writeNumber_any r.bd (LG W r.bel) (hP.later (BW.out W r.bel)) 4 (by omega) p.cells h.cells (by simp only [List.length_append, List.length_nil]; omega))
  have KN5 := Lib.hid (fun W (r : BdR (w.heap.size + 1) (w.heap.size + 1) ([] ++ lnL 0 p.names ++ lnL 1 p.curs ++ lnL 2 (p.pool.map txA) ++ nmLn 3 p.hor ++ nmLn 4 p.cells) W2 W) => writeNumber_any r.bd (LG W r.bel) (hP.later (BW.out W r.bel)) 5 (by omega) p.slots h.slots (by simp only [List.length_append, List.length_nil]; omega))
  have KN6 := Lib.hid (fun W (r : BdR (w.heap.size + 1) (w.heap.size + 1) ([] ++ lnL 0 p.names ++ lnL 1 p.curs ++ lnL 2 (p.pool.map txA) ++ nmLn 3 p.hor ++ nmLn 4 p.cells ++ nmLn 5 p.slots) W2 W) => writeNumber_any r.bd (LG W r.bel) (hP.later (BW.out W r.bel)) 6 (by omega) p.stack h.stack (by simp only [List.length_append, List.length_nil]; omega))
  have E7 : [] ++ lnL 0 p.names ++ lnL 1 p.curs ++ lnL 2 (p.pool.map txA) ++ nmLn 3 p.hor ++ nmLn 4 p.cells ++ nmLn 5 p.slots ++ nmLn 6 p.stack = hdT p := by unfold hdT; simp
  have KD := Lib.hid (p := ∀ (k : Nat), k < p.days.length → ∀ W', BdR (w.heap.size + 1) (w.heap.size + 1) (hdT p ++ (p.days.take k).flatMap (dyLn p)) W2 W' → Calls Tryz.prog 40 #[.pointer (some ⟨w.heap.size + 1, 0, none⟩), .int .i64 7, .int .i64 (p.days.getD k default).day] W' fun e w' => e = .returned (.tuple #[]) ∧ BdR (w.heap.size + 1) (w.heap.size + 1) (hdT p ++ (p.days.take k).flatMap (dyLn p) ++ nmLn 7 (p.days.getD k default).day) W' w') (fun k hk W' r => by
    have q1 := flat_pre (dyLn p) p.days k
    have q2 : (hdT p).length + (p.days.flatMap (dyLn p)).length ≤ 1000000000 := by have := hS.tx; unfold txtP at this; simpa using this
    exact writeNumber_any r.bd (LG W' r.bel) (hP.later (BW.out W' r.bel)) 7 (by omega) _ (h.days.2.2.2.1 _ (sg_mem hk)).1 (by simp only [List.length_append]; omega))
  have TL := Lib.hid (p := ∀ (k m : Nat), k < p.days.length → m < (p.days.getD k default).code.length → (hdT p ++ (p.days.take k).flatMap (dyLn p) ++ nmLn 7 (p.days.getD k default).day ++ ((p.days.getD k default).code.take m).flatMap (inLn p)).length + (inLn p ((p.days.getD k default).code.getD m default)).length ≤ 1000000000) (fun k m hk hm => by
    have q2 : (hdT p).length + (p.days.flatMap (dyLn p)).length ≤ 1000000000 := by have := hS.tx; unfold txtP at this; simpa using this
    have q3 := flat_pre (dyLn p) p.days (k + 1)
    rw [flat_next _ _ _ hk] at q3
    have q4 := flat_pre (inLn p) (p.days.getD k default).code (m + 1)
    rw [flat_next _ _ _ hm] at q4
    have q5 : (dyLn p (p.days.getD k default)).length = (nmLn 7 (p.days.getD k default).day).length + ((p.days.getD k default).code.flatMap (inLn p)).length := by unfold dyLn; rw [List.length_append]
    simp only [List.length_append] at q3 q4 ⊢
    omega)
  have KI := Lib.hid (fun W (b : Below (w.heap.size + 1) W2 W) (i : In) (hi : i.okP) => instrWords2_any (w.heap.size + 1) (h.later (BW.out W b)) i hi (hR.below (BW.out W b)) (hP.later (BW.out W b)) (hM.later (BW.out W b)))
  have HS := Lib.hid hS
  have HD := Lib.hid h.days
  have B2 := Lib.hid A2
  have R0 := Lib.hid (BdR.start BN)
  obtain ⟨c0, c1, c2, c3, c4, c5, c6, c7⟩ := PC.out _ (Below.refl _ _)
  clear h hS hR hP hM hG LT TX j0 j1 j2 X1 A1 sz1 BN A2 X2 LG
  have M0 : True := trivial
  obtain ⟨da', eda⟩ : ∃ d, p.da = d := ⟨_, rfl⟩
  have EDA := Lib.hid eda
  clear eda
  unfold Pg.agg at *
  go_enter Tryz.func21, Tryz.ntmps21
  go_wp2_with (first
    | (go_at_call 38; have qq := M0; refine (KL0.out _ R0.out).mono ?_; rintro e w1 ⟨rfl, r⟩; have R1 := Lib.hid (R0.out.trans r); clear r M0; have M1 : True := trivial; clear c0 c1 c2 c3 c4 c5 c6 c7; obtain ⟨c0, c1, c2, c3, c4, c5, c6, c7⟩ := PC.out _ R1.out.bel)
    | (go_at_call 38; have qq := M1; refine (KL1.out _ R1.out).mono ?_; rintro e w2 ⟨rfl, r⟩; have R2 := Lib.hid (R1.out.trans r); clear r M1; have M2 : True := trivial; clear c0 c1 c2 c3 c4 c5 c6 c7; obtain ⟨c0, c1, c2, c3, c4, c5, c6, c7⟩ := PC.out _ R2.out.bel)
    | (go_at_call 39; refine (KV.out _ R2.out).mono ?_; rintro e wv ⟨va, vc, rfl, hvc, hW, b1⟩; have VW := Lib.hid hW; have VC := Lib.hid hvc; have R2v := Lib.hid (R2.out.later R2.out.hB b1); clear b1 hW hvc; clear c0 c1 c2 c3 c4 c5 c6 c7; obtain ⟨c0, c1, c2, c3, c4, c5, c6, c7⟩ := PC.out _ R2v.out.bel)
    | (go_at_call 38; have qq := R2v; refine (KL2.out _ R2v.out _ _ VW.out VC.out).mono ?_; rintro e w3 ⟨rfl, r⟩; have R3 := Lib.hid (R2v.out.trans r); clear r; have M3 : True := trivial; clear c0 c1 c2 c3 c4 c5 c6 c7; obtain ⟨c0, c1, c2, c3, c4, c5, c6, c7⟩ := PC.out _ R3.out.bel)
    | (go_at_call 40; have qq := M3; refine (KN3.out _ R3.out).mono ?_; rintro e w4 ⟨rfl, r⟩; have R4 := Lib.hid (R3.out.trans r); clear r M3; have M4 : True := trivial; clear c0 c1 c2 c3 c4 c5 c6 c7; obtain ⟨c0, c1, c2, c3, c4, c5, c6, c7⟩ := PC.out _ R4.out.bel)
    | (go_at_call 40; have qq := M4; refine (KN4.out _ R4.out).mono ?_; rintro e w5 ⟨rfl, r⟩; have R5 := Lib.hid (R4.out.trans r); clear r M4; have M5 : True := trivial; clear c0 c1 c2 c3 c4 c5 c6 c7; obtain ⟨c0, c1, c2, c3, c4, c5, c6, c7⟩ := PC.out _ R5.out.bel)
    | (go_at_call 40; have qq := M5; refine (KN5.out _ R5.out).mono ?_; rintro e w6 ⟨rfl, r⟩; have R6 := Lib.hid (R5.out.trans r); clear r M5; have M6 : True := trivial; clear c0 c1 c2 c3 c4 c5 c6 c7; obtain ⟨c0, c1, c2, c3, c4, c5, c6, c7⟩ := PC.out _ R6.out.bel)
    | (go_at_call 40; have qq := M6; refine (KN6.out _ R6.out).mono ?_; rintro e w7 ⟨rfl, r⟩; have R7 := Lib.hid (R6.out.trans r); clear r M6; have M7 : True := trivial; clear c0 c1 c2 c3 c4 c5 c6 c7; obtain ⟨c0, c1, c2, c3, c4, c5, c6, c7⟩ := PC.out _ R7.out.bel; have eda := EDA.out))
  clear eda
  have R7' := R7.out
  rw [E7] at R7'
  have RH := Lib.hid R7'
  clear R7' R0 R1 R2 R2v R3 R4 R5 R6 R7 KL0 KL1 KL2 KV KN3 KN4 KN5 KN6 VW VC M7 E7 c0 c1 c2 c3 c4 c5 c6 c7 hW2
  go_loopw [44] (fun u wr => ∃ k : Nat, k ≤ p.days.length ∧ u = .int .i64 (k : Int) ∧ BdR (w.heap.size + 1) (w.heap.size + 1) (hdT p ++ (p.days.take k).flatMap (dyLn p)) W2 wr) (fun u _ => p.days.length - (intOf u).toNat)
  case atStart => exact ⟨0, by omega, rfl, by simpa using RH.out⟩
  case round =>
    rename World => wr
    obtain ⟨k, hk, rfl, hr⟩ := hrel
    have RK := Lib.hid hr
    clear hr RH
    by_cases hlt : k < p.days.length
    · have kc : (k : Int) < (p.days.length : Int) := by omega
      have kb : (p.days.length : Int) ≤ 4096 := by have := HS.out.dl; omega
      obtain ⟨xb, xo, eda, hx, hc⟩ : ∃ xb xo, p.da = some ⟨xb, xo, none⟩ ∧ xb < w.heap.size ∧ ∀ i, i < p.days.length → ∀ j, j < 2 → w.cell? ⟨xb, xo + i * 2 + j, none⟩ = some (((p.days.getD i default).cs).getD j default) := by
        rcases HD.out.2.2.2.2 with q | ⟨b, o, e, h1, h2⟩
        · omega
        · exact ⟨b, o, e, h1, h2⟩
      obtain rfl : da' = some ⟨xb, xo, none⟩ := EDA.out.symm.trans eda
      clear eda
      have f0 := ((BW.out _ RK.out.bel).cell (p := ⟨xb, xo + k * 2 + 0, none⟩) hx).trans (hc k hlt 0 (by omega))
      have f1 := ((BW.out _ RK.out.bel).cell (p := ⟨xb, xo + k * 2 + 1, none⟩) hx).trans (hc k hlt 1 (by omega))
      have KD1 := Lib.hid (KD.out k hlt)
      have TL1 := Lib.hid (fun m => TL.out k m hlt)
      have SM := Lib.hid (sg_mem hlt)
      have SG := Lib.hid (HD.out.2.2.2.1 _ SM.out).2
      have SO := Lib.hid (HS.out.ok _ SM.out)
      have cb := HS.out.cl _ SM.out
      have NX := Lib.hid (flat_next (dyLn p) p.days k hlt)
      obtain ⟨s, hs⟩ : ∃ s, p.days.getD k default = s := ⟨_, rfl⟩
      rw [hs] at f0 f1 KD1 TL1 SG SO NX cb
      clear hs SM hc
      obtain ⟨sd, sa, sc, sl⟩ := s
      simp only [Sg.cs, Nat.add_zero, List.getD_cons_zero, List.getD_cons_succ] at f0 f1 KD1 TL1 SG SO NX cb
      have DY : dyLn p ⟨sd, sa, sc, sl⟩ = nmLn 7 sd ++ sl.flatMap (inLn p) := rfl
      rw [DY] at NX
      clear DY
      obtain ⟨W3, hW3⟩ : ∃ W, wr.alloc (.cells #[.int .i64 sd, .slice sa sl.length sc] 39) = W := ⟨_, rfl⟩
      have R3 := Lib.hid (RK.out.later RK.out.hB (allocBP wr (.cells #[.int .i64 sd, .slice sa sl.length sc] 39)))
      have SB := heapN wr (.cells #[.int .i64 sd, .slice sa sl.length sc] 39)
      have NEB := Lib.hid (p := wr.heap.size ≠ w.heap.size + 1) (by have := RK.out.bd.lt; omega)
      rw [hW3] at R3 SB
      have s0 : W3.cell? ⟨wr.heap.size, 0, none⟩ = some (.int .i64 sd) := by simp [World.cell?, SB]
      have s1 : W3.cell? ⟨wr.heap.size, 1, none⟩ = some (.slice sa sl.length sc) := by simp [World.cell?, SB]
      have SBH := Lib.hid SB
      obtain ⟨c0, c1, c2, c3, c4, c5, c6, c7⟩ := PC.out _ R3.out.bel
      generalize hT : hdT p ++ (p.days.take k).flatMap (dyLn p) = TK at *
      have HT := Lib.hid hT
      clear SB hT
      go_wp2_with (first
        | (go_at_call 40; refine (KD1.out _ R3.out).mono ?_; rintro e w4 ⟨rfl, r⟩; have R4 := Lib.hid (R3.out.trans r); have sb4 := ok8_blk r.ok SBH.out NEB.out (by decide); have s1' : w4.cell? ⟨wr.heap.size, 1, none⟩ = some (.slice sa sl.length sc) := (by simp [World.cell?, sb4]); clear r sb4 s0 s1 f0 f1 c0 c1 c2 c3 c4 c5 c6 c7))
      clear s1' hW3 SBH NEB R3 KD1
      go_loopw [55] (fun u wr' => ∃ m : Nat, m ≤ sl.length ∧ u = .int .i64 (m : Int) ∧ BdR (w.heap.size + 1) (w.heap.size + 1) (TK ++ nmLn 7 sd ++ (sl.take m).flatMap (inLn p)) W2 wr') (fun u _ => sl.length - (intOf u).toNat)
      case atStart => exact ⟨0, by omega, rfl, by simpa using R4.out⟩
      case round =>
        rename World => wq
        obtain ⟨m, hm, rfl, hr⟩ := hrel
        have RM := Lib.hid hr
        clear hr R4
        by_cases hmt : m < sl.length
        · have mc : (m : Int) < (sl.length : Int) := by omega
          obtain ⟨yb, yo, rfl, hy, hc⟩ : ∃ yb yo, sa = some ⟨yb, yo, none⟩ ∧ yb < w.heap.size ∧ ∀ i, i < sl.length → ∀ j, j < 3 → w.cell? ⟨yb, yo + i * 3 + j, none⟩ = some ((icell (sl.getD i default)).getD j default) := by
            rcases SG.out.2.2.2.2 with q | ⟨b, o, e, h1, h2⟩
            · omega
            · exact ⟨b, o, e, h1, h2⟩
          have g0 := ((BW.out _ RM.out.bel).cell (p := ⟨yb, yo + m * 3 + 0, none⟩) hy).trans (hc m hmt 0 (by omega))
          have g1 := ((BW.out _ RM.out.bel).cell (p := ⟨yb, yo + m * 3 + 1, none⟩) hy).trans (hc m hmt 1 (by omega))
          have g2 := ((BW.out _ RM.out.bel).cell (p := ⟨yb, yo + m * 3 + 2, none⟩) hy).trans (hc m hmt 2 (by omega))
          have OI := Lib.hid (SO.out (sl.getD m default) (by simp [List.getD, hmt]))
          have KI1 := Lib.hid (fun W b => KI.out W b _ OI.out)
          have TL2 := TL1.out m hmt
          have NY := Lib.hid (flat_next (inLn p) sl m hmt)
          have wl := Lib.hid (wds_le (sl.getD m default) OI.out)
          have IL : inLn p (sl.getD m default) = [32, 32] ++ jnL (wdsA p.names p.curs p.pool (sl.getD m default)) ++ [10] := rfl
          rw [IL] at TL2 NY
          clear IL hc
          obtain ⟨ii, hii⟩ : ∃ i, sl.getD m default = i := ⟨_, rfl⟩
          rw [hii] at g0 g1 g2 KI1 TL2 NY wl
          clear hii OI
          obtain ⟨io, ia, ib⟩ := ii
          simp only [icell, Nat.add_zero, List.getD_cons_zero, List.getD_cons_succ] at g0 g1 g2 KI1 TL2 NY wl
          generalize wdsA p.names p.curs p.pool ⟨io, ia, ib⟩ = wds at *
          generalize onA io.toNat = on at *
          simp only [List.length_append, List.length_cons, List.length_nil] at TL2
          have KT := Lib.hid (fun W (q : Bd (w.heap.size + 1) (w.heap.size + 1) (TK ++ nmLn 7 sd ++ (sl.take m).flatMap (inLn p)) W) (z : w.heap.size + 1 ≤ W.heap.size) => bdText_any q ⟨#[32, 32]⟩ (by simp only [List.length_append]; show _ + 2 ≤ _; omega) z)
          have KW := Lib.hid (fun W (q : Bd (w.heap.size + 1) (w.heap.size + 1) (TK ++ nmLn 7 sd ++ (sl.take m).flatMap (inLn p) ++ [32, 32]) W) (g : Nat) (z : WL (w.heap.size + 1) W (some ⟨g, 0, none⟩) (1 + on) wds) => writeWords_any q z (c := 3) (by have := wl.out; omega) (by simp only [List.length_append, List.length_cons, List.length_nil]; omega) (by have := wl.out; omega))
          obtain ⟨W5, hW5⟩ : ∃ W, wq.alloc (.cells #[.int .i64 io, .int .i64 ia, .int .i64 ib] 42) = W := ⟨_, rfl⟩
          have R5 := Lib.hid (RM.out.later RM.out.hB (allocBP wq (.cells #[.int .i64 io, .int .i64 ia, .int .i64 ib] 42)))
          have SB := heapN wq (.cells #[.int .i64 io, .int .i64 ia, .int .i64 ib] 42)
          rw [hW5] at R5 SB
          have s0 : W5.cell? ⟨wq.heap.size, 0, none⟩ = some (.int .i64 io) := by simp [World.cell?, SB]
          have s1 : W5.cell? ⟨wq.heap.size, 1, none⟩ = some (.int .i64 ia) := by simp [World.cell?, SB]
          have s2 : W5.cell? ⟨wq.heap.size, 2, none⟩ = some (.int .i64 ib) := by simp [World.cell?, SB]
          obtain ⟨c0, c1, c2, c3, c4, c5, c6, c7⟩ := PC.out _ R5.out.bel
          clear SB TL2
          simp only at KT
          go_wp2_with (first
            | (go_at_call 24; refine (KI1.out _ R5.out.bel).mono ?_; rintro e w6 ⟨g, rfl, hW, b1⟩; have R6 := Lib.hid (R5.out.later R5.out.hB b1); have W6 := Lib.hid hW; clear hW b1 s0 s1 s2 g0 g1 g2 c0 c1 c2 c3 c4 c5 c6 c7)
            | (go_at_call 41; refine (KT.out _ R6.out.bd R6.out.hB).mono ?_; rintro e w7 ⟨rfl, u2, b2, o2, z2⟩; have RR := Lib.hid (BdR.mk (bd_of u2) b2 o2 z2); have R7 := Lib.hid (R6.out.trans RR.out); have W7 := Lib.hid (W6.out.keep R6.out.bd RR.out); clear u2 b2 o2 z2)
            | (go_at_call 42; refine (KW.out _ R7.out.bd _ W7.out).mono ?_; rintro e w8 ⟨rfl, r⟩; have R8 := Lib.hid (R7.out.trans r); clear r))
          go_roundw
          case rel =>
            refine ⟨m + 1, by omega, by go_num, ?_⟩
            rw [NY.out]
            have := R8.out
            simp only [List.append_assoc] at this ⊢
            exact this
          case measure => simp [intOf]; omega
        · obtain rfl : m = sl.length := by omega
          have RE := RM.out
          rw [List.take_length] at RE
          have RE := Lib.hid RE
          go_wp2
          go_roundw
          case rel =>
            refine ⟨k + 1, by omega, by go_num, ?_⟩
            rw [NX.out, ← List.append_assoc, HT.out, ← List.append_assoc]
            exact RE.out
          case measure => simp [intOf]; omega
    · obtain rfl : k = p.days.length := by omega
      have RE := RK.out
      rw [List.take_length] at RE
      have KS := Lib.hid (Tryz.Builder_String_any (w.heap.size + 1) (w.heap.size + 1) (txtP p) wr RE.bd RE.hB)
      have BE := Lib.hid (BW.out _ RE.bel)
      clear RE
      go_wp2_with (go_at_call 43; refine KS.out.mono ?_; rintro e w9 ⟨rfl, b9⟩; have B9 := Lib.hid (BE.out.trans (b9.mono wB)); clear b9)
      go_ret
      exact ⟨rfl, B9.out⟩
end Go.Proofs.YtccjeipkljdhdaaGreatDoor
