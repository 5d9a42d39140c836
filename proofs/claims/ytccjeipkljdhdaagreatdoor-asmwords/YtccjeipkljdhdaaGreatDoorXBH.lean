import Derived.Test.YtccjeipkljdhdaaGreatDoorXBG
import Derived.Test.YtccjeipkljdhdaaGreatDoorXBF
import Derived.Test.YtccjeipkljdhdaaGreatDoorXAX
import Derived.Test.YtccjeipkljdhdaaGreatDoorXAI
import Derived.Test.YtccjeipkljdhdaaGreatDoorXAG
import Derived.Lib.AppendStr
import Derived.Lib.AppendIntMem
import Derived.Lib.OthersKept
import Derived.Lib.ItoaLen
import Derived.Lib.ConvBytes
import Derived.Laws.AppendOwn
import Derived.Laws.IdiomStrings
import Derived.Test.YtccjeipkljdhdaaGreatDoorXAH
namespace Go.Proofs.YtccjeipkljdhdaaGreatDoor
open Go.RowKit
set_option linter.unusedVariables false
set_option linter.unusedSimpArgs false

/-- A program's lines, where a world holds them. -/
def LnAt (p : Pg) (W : World) (a : Option Addr) : Prop := ∀ k x, (lnP p)[k]? = some x → ∃ g o, a = some ⟨g, o, none⟩ ∧ g < W.heap.size ∧ W.cell? ⟨g, o + k, none⟩ = some (.string x)
theorem linesP_any {p : Pg} (T : ByteArray) (hT : lnsR T = lnP p) (hz : T.size ≤ 16777216) (w : World) :
    Calls Tryz.prog 11 #[.string T] w fun e w' => ∃ a c, e = .returned (.slice a (cntD p p.days.length) c) ∧ LnAt p w' a ∧ Below w.heap.size w w' := by
  refine (linesL_any T (by omega) w).mono (fun e w' ⟨v, h1, h2, h3⟩ => ?_)
  rw [← lns_all, hT] at h2
  obtain ⟨a, c, rfl⟩ := own_slQ h2
  rw [cntD_all]
  refine ⟨a, c, h1, fun k x hx => ?_, h3⟩
  obtain ⟨hk, rfl⟩ := List.getElem?_eq_some_iff.1 hx
  have lt := h2.lt
  rcases wrs_of h2 with q | ⟨g, e, _, q⟩
  · rw [q] at hk; simp at hk
  · subst e
    refine ⟨g, 0, rfl, (lt g rfl).2, ?_⟩
    rw [Nat.zero_add]
    exact (q k hk).1
theorem lns_len {T : ByteArray} (hz : T.size ≤ 16777216) : (lnsR T).length ≤ 16777216 := by
  have := lnsR_len _ T rfl
  omega
theorem lt_of_cell {W : World} {b k : Nat} {v : Value} (h : W.cell? ⟨b, k, none⟩ = some v) : b < W.heap.size := by
  unfold World.cell? at h
  by_cases g : b < W.heap.size
  · exact g
  · rw [Array.getElem?_eq_none (by show W.heap.size ≤ b; omega)] at h
    simp at h
theorem day_cells {W : World} {p : Pg} (hV : PV W p) {i : Nat} (hi : i < p.days.length) : ∃ g o, p.da = some ⟨g, o, none⟩ ∧ W.cell? ⟨g, o + i * 2 + 1, none⟩ = some (.slice (p.days.getD i default).ca (p.days.getD i default).code.length (p.days.getD i default).cc) := by
  obtain ⟨g, o, e, _, hc⟩ := hV.days.2.2.2.2.oneP (by omega)
  exact ⟨g, o, e, hc i hi 1 (by omega)⟩
theorem ins_cells {W : World} {p : Pg} (hV : PV W p) {i k : Nat} (hi : i < p.days.length) (hk : k < (p.days.getD i default).code.length) : ∃ g o, (p.days.getD i default).ca = some ⟨g, o, none⟩ ∧ W.cell? ⟨g, o + k * 3, none⟩ = some (.int .i64 ((p.days.getD i default).code.getD k default).o) ∧ W.cell? ⟨g, o + k * 3 + 1, none⟩ = some (.int .i64 ((p.days.getD i default).code.getD k default).a) ∧ W.cell? ⟨g, o + k * 3 + 2, none⟩ = some (.int .i64 ((p.days.getD i default).code.getD k default).b) := by
  obtain ⟨g, o, e, _, hc⟩ := (hV.days.2.2.2.1 _ (sg_mem hi)).2.2.2.2.2.oneP (by omega)
  exact ⟨g, o, e, hc k hk 0 (by omega), hc k hk 1 (by omega), hc k hk 2 (by omega)⟩
set_option maxRecDepth 100000 in
set_option maxHeartbeats 4000000 in
theorem asmWords_any {w : World} {p : Pg} (hV : PV w p) (hG : GlA w) :
    Calls Tryz.prog 4 #[p.agg] w fun e w' => e = .returned (.bool true) ∧ Below w.heap.size w w' := by
  obtain ⟨W0, hW0⟩ : ∃ y, w.alloc p.box = y := ⟨_, rfl⟩
  have A0 := Lib.hid (p := Below w.heap.size w W0) (by rw [← hW0]; exact allocBP w p.box)
  have X0 : BkP W0 w.heap.size p.arr 27 := by rw [← hW0]; exact heapN w _
  have V0 := Lib.hid (hV.later A0.out)
  have HG := Lib.hid (hG.laterH A0.out)
  have KH := Lib.hid (heads_any HG.out)
  have KP := Lib.hid (fun W (b : Below W0.heap.size W0 W) => print_any (V0.out.later b) (HG.out.laterH b).rw_ (HG.out.laterH b).pw (HG.out.laterH b).md (lnG_of (HG.out.laterH b).ln))
  have KI := Lib.hid (fun W (b : Below W0.heap.size W0 W) i => printInstr_any (V0.out.later b) i (HG.out.laterH b).rw_ (HG.out.laterH b).pw (HG.out.laterH b).md)
  have HB := Lib.hid (p := ∀ W, Below W0.heap.size W0 W → BkP W w.heap.size p.arr 27) (fun W b => X0.laterP b)
  have DC := Lib.hid (fun W (b : Below W0.heap.size W0 W) i (hi : i < p.days.length) => day_cells (V0.out.later b) hi)
  have IC := Lib.hid (fun W (b : Below W0.heap.size W0 W) i k (hi : i < p.days.length) (hk : k < (p.days.getD i default).code.length) => ins_cells (V0.out.later b) hi hk)
  have hW0' := Lib.hid hW0
  obtain ⟨x0, x1, x2, x3, x4, x5, x6, x7⟩ := pcells X0
  by_cases hc : canP p
  · have LT := Lib.hid (lns_txt (RdP.of hV hc) (days_can hc))
    have TZ : (⟨(txtP p).toArray⟩ : ByteArray).size ≤ 16777216 := by
      show (txtP p).toArray.size ≤ _
      rw [List.size_toArray]; exact txt_small hV hc
    have LS := Lib.hid (p := ∀ (k : Nat) (x : ByteArray), (lnP p)[k]? = some x → x.size ≤ 16777216) (fun k x hx => by
      have m := List.mem_of_getElem? hx
      rw [← LT.out] at m
      exact Nat.le_trans (lnsR_bd _ _ rfl _ m) TZ)
    have KL := Lib.hid (fun W => linesP_any (p := p) ⟨(txtP p).toArray⟩ LT.out TZ W)
    have CL := Lib.hid (p := cntD p p.days.length ≤ 16777216) (by
      have := lns_len TZ
      rw [LT.out] at this
      rw [cntD_all]; exact this)
    have CN := Lib.hid (fun i (h : i < p.days.length) => cntD_next p h)
    have LD := Lib.hid (fun i (h : i < p.days.length) => ln_day p h)
    have LI := Lib.hid (fun i k (h : i < p.days.length) (hk : k < (p.days.getD i default).code.length) => ln_ins p h hk)
    have PT := Lib.hid (fun i k (h : i < p.days.length) (hk : k < (p.days.getD i default).code.length) => can_prT hc h hk)
    simp only [if_pos hc] at KP
    have DLen := Lib.hid (p := p.days.length ≤ 4398046510976) hV.days.2.2.1
    unfold Pg.agg at KP KI
    unfold Pg.agg
    unfold Pg.box at hW0
    clear hc LT TZ hV hG X0
    go_enter Tryz.func4, Tryz.ntmps4
    go_upto_region 1 with (fail)
    try rw [hW0]
    clear hW0
    go_upto_region 3 with (go_at_call 6; refine KH.out.mono ?_; rintro e w1 ⟨rfl, h1⟩; have B1 := Lib.hid h1; clear h1)
    have X1 := HB.out _ B1.out
    clear x0 x1 x2 x3 x4 x5 x6 x7
    obtain ⟨x0, x1, x2, x3, x4, x5, x6, x7⟩ := pcells X1
    clear X1
    go_upto_region 8 with (first
      | (go_at_call 9; refine (KP.out _ B1.out).mono ?_; rintro e w2 ⟨rfl, h2⟩; have B2 := Lib.hid (B1.out.trans (h2.mono B1.out.size)); clear h2 x0 x1 x2 x3 x4 x5 x6 x7)
      | (go_at_call 11; refine (KL.out w2).mono ?_; rintro e w3 ⟨al, cl, rfl, hl, h3⟩; have B3 := Lib.hid (B2.out.trans (h3.mono B2.out.size)); have LA := Lib.hid hl; clear h3 hl))
    obtain ⟨D, hD⟩ : ∃ D, p.days.length = D := ⟨_, rfl⟩
    have PX := Lib.hid (fun W (b : Below W0.heap.size W0 W) => pcells (HB.out W b))
    have LK := Lib.hid (p := ∀ k x, (lnP p)[k]? = some x → k < cntD p p.days.length) (fun k x hx => by rw [cntD_all]; exact (List.getElem?_eq_some_iff.1 hx).1)
    rw [hD] at CL DLen LK
    simp only [hD] at CN LD LI PT DC IC PX
    obtain ⟨x0, x1, x2, x3, x4, x5, x6, x7⟩ := PX.out _ B3.out
    rw [hD]
    have DL := DLen.out
    have cl := CL.out
    have wD : IntKind.i64.wrap ((D : Int) - 1) = (D : Int) - 1 := by simp [IntKind.wrap, IntKind.bits, IntKind.signed]; omega
    go_wp2
    clear x0 x1 x2 x3 x4 x5 x6 x7 wD
    go_loopw [6, 7] (fun t6 t7 W => ∃ (j : Nat) (x : Int), j ≤ D ∧ x + 1 = (j : Int) ∧ t7 = .int .i64 x ∧ t6 = .int .i64 ((cntD p j : Nat) : Int) ∧ cntD p j ≤ 16777216 ∧ RowKit.Hid (Below w3.heap.size w3 W)) (fun _ t _ => (intOf t + 1).toNat)
    case atStart => exact ⟨D, (D : Int) - 1, Nat.le_refl _, by omega, rfl, rfl, cl, Below.refl _ _⟩
    case round =>
      rename World => W
      obtain ⟨j, x, hj, hx, rfl, rfl, hcj, HBW⟩ := hrel
      have BW := Lib.hid (B3.out.trans (HBW.out.mono B3.out.size))
      by_cases h0 : j = 0
      · subst h0
        obtain rfl : x = -1 := by omega
        go_wp2
        go_ret
        exact ⟨rfl, A0.out.trans (BW.out.mono A0.out.size)⟩
      · obtain ⟨i, rfl⟩ : ∃ i, j = i + 1 := ⟨j - 1, by omega⟩
        obtain rfl : x = (i : Int) := by omega
        have hi : i < D := by omega
        have ic : (i : Int) < (D : Int) := by omega
        have cn := CN.out i hi
        obtain ⟨g, o, e, r1⟩ := DC.out W BW.out i hi
        obtain ⟨x0, x1, x2, x3, x4, x5, x6, x7⟩ := PX.out W BW.out
        have LI1 := Lib.hid (fun k h => LI.out i k hi h)
        have PT1 := Lib.hid (fun k h => PT.out i k hi h)
        have IC1 := Lib.hid (fun W b k h => IC.out W b i k hi h)
        have DC1 := Lib.hid (fun W b => DC.out W b i hi)
        have ld := LD.out i hi
        have PX1 := Lib.hid PX.out
        simp only [e] at PX1
        generalize p.days.getD i default = s at *
        obtain ⟨M, hM⟩ : ∃ M, s.code.length = M := ⟨_, rfl⟩
        rw [hM] at cn r1
        simp only [hM] at LI1 PT1 IC1 DC1
        rw [e] at x7
        have wM : IntKind.i64.wrap ((M : Int) - 1) = (M : Int) - 1 := by simp [IntKind.wrap, IntKind.bits, IntKind.signed]; omega
        rw [cn]
        rw [cn] at hcj
        generalize hC : cntD p i = C at *
        go_upto_region 12 with (fail)
        clear x0 x1 x2 x3 x4 x5 x6 x7 r1
        have MB := Lib.hid (p := C + 1 + M ≤ 16777216) hcj
        have wL : ∀ c : Nat, c ≤ 16777216 → IntKind.i64.wrap (((c + 1 : Nat) : Int) - 1) = (c : Int) := fun c hc => by simp [IntKind.wrap, IntKind.bits, IntKind.signed]; omega
        have WL1 := Lib.hid wL
        clear wL wM
        go_loopw [6, 8] (fun t6 t8 W' => ∃ (m : Nat) (x : Int), m ≤ M ∧ x + 1 = (m : Int) ∧ t8 = .int .i64 x ∧ t6 = .int .i64 ((C + 1 + m : Nat) : Int) ∧ RowKit.Hid (Below w3.heap.size w3 W')) (fun _ t _ => (intOf t + 1).toNat)
        case atStart => exact ⟨M, (M : Int) - 1, Nat.le_refl _, by omega, rfl, rfl, HBW⟩
        case round =>
          clear BW HBW
          rename World => W'
          obtain ⟨m, x, hm, hx, rfl, rfl, HBW⟩ := hrel
          have BW := Lib.hid (B3.out.trans (HBW.out.mono B3.out.size))
          by_cases h1 : m = 0
          · subst h1
            obtain rfl : x = -1 := by omega
            have w1 := WL1.out C (by have := MB.out; omega)
            have hCD := LK.out _ _ ld
            have sz := day_size s.day
            have ct := day_cut s.day
            obtain ⟨g2, o2, e2, g2l, r2⟩ := LA.out _ _ ld
            have r3 := (HBW.out.cell (p := ⟨g2, o2 + C, none⟩) g2l).trans r2
            generalize lnB false [lnA 7, txA s.day] = dl at *
            have sz1 : ¬ ((dl.size : Int) < 5) := by omega
            have sz2 : (4 : Int) ≤ (dl.size : Int) := by omega
            have hCD2 : (C : Int) < ((cntD p D : Nat) : Int) := by omega
            subst e2
            go_wp2
            go_roundw
            case rel => exact ⟨_, _, _, ⟨i, by omega, (i : Int) - 1, by omega, rfl, by rw [hC], by omega⟩, rfl, rfl, rfl⟩
            case measure => simp [intOf]; omega
          · obtain ⟨k, rfl⟩ : ∃ k, m = k + 1 := ⟨m - 1, by omega⟩
            obtain rfl : x = (k : Int) := by omega
            have hk : k < M := by omega
            have kc : (k : Int) < (M : Int) := by omega
            have hi' : i < D := by omega
            obtain ⟨g1, o1, e1, r1⟩ := DC1.out W' BW.out
            rw [e] at e1
            injection e1 with e1
            injection e1 with e1 e1'
            subst e1 e1'
            obtain ⟨x0, x1, x2, x3, x4, x5, x6, x7⟩ := PX1.out W' BW.out
            obtain ⟨g3, o3, e3, d0, d1, d2⟩ := IC1.out W' BW.out k hk
            obtain ⟨p1, p2⟩ := PT1.out k hk
            have KI1 := Lib.hid (p := ∀ W2, Below W'.heap.size W' W2 → _) (fun W2 (b : Below W'.heap.size W' W2) => KI.out W2 (BW.out.trans (b.mono BW.out.size)) (s.code.getD k default))
            rw [p1, p2] at KI1
            have li := LI1.out k hk
            rw [sumB] at li
            have hCD := LK.out _ _ li
            have lsz := LS.out _ _ li
            generalize jnA (wdsA p.names p.curs p.pool (s.code.getD k default)) = Wd at *
            generalize s.code.getD k default = I at *
            obtain ⟨io, ia, ib⟩ := I
            simp only at d0 d1 d2 KI1
            clear p1 p2
            obtain ⟨g2, o2, e2, g2l, r2⟩ := LA.out _ _ li
            have RL := Lib.hid (fun W2 (b : Below w3.heap.size w3 W2) => (b.cell (p := ⟨g2, o2 + (C + 1 + k), none⟩) g2l).trans r2)
            rw [e3] at r1
            rw [ByteArray.size_append] at lsz
            have l2 : (ByteArray.mk #[32, 32]).size = 2 := rfl
            rw [l2] at lsz
            have hc9 : ¬ 9223372036854775807 < 2 + Wd.size := by omega
            obtain ⟨q, hq⟩ : ∃ q : Nat, q = C + 1 + k := ⟨_, rfl⟩
            have w1 : IntKind.i64.wrap ((C : Int) + 1 + ((k : Int) + 1) - 1) = (q : Int) := by
              have := WL1.out q (by omega)
              rw [← this, hq]
              congr 1
            have hCD2 : (q : Int) < ((cntD p D : Nat) : Int) := by omega
            rw [← hq] at RL
            have HQ := Lib.hid hq
            clear hq
            subst e2
            have RR := Lib.hid (RL.out)
            have HC9 := Lib.hid hc9
            have HW1 := Lib.hid w1
            have HD2 := Lib.hid hCD2
            have HCJ := Lib.hid hcj
            clear r2 li hCD lsz l2 hc9 w1 hCD2 hcj cn ld hC RL LI1 PT1 IC1 DC1 PX1 hj g2l cl DL h1 hx h0
            have wl : w.heap.size < W'.heap.size := lt_of_cell x0
            clear PX KP KL KH LA LK LS LD LI PT CN CL DLen HG V0 HB hW0'
            generalize p.names.length = n0 at *
            generalize p.curs.length = n1 at *
            generalize p.pool.length = n2 at *
            generalize p.na = f0 at *
            generalize p.nc = f1 at *
            generalize p.ua = f2 at *
            generalize p.uc = f3 at *
            generalize p.pa = f4 at *
            generalize p.pc = f5 at *
            generalize p.hor = f6 at *
            generalize p.cells = f7 at *
            generalize p.slots = f8 at *
            generalize p.stack = f9 at *
            generalize p.dc = f10 at *
            go_upto_region 14 with (fail)
            rw [hD, e] at KI1
            have KI2 := Lib.hid (KI1.out W'.drew (drew1B _))
            clear KI1 KI
            have SC := Lib.hid (p := ∀ w', Below W'.heap.size W' w' → w'.cell? ⟨w.heap.size, 0, none⟩ = some (.slice f0 n0 f1) ∧ w'.cell? ⟨w.heap.size, 1, none⟩ = some (.slice f2 n1 f3) ∧ w'.cell? ⟨w.heap.size, 2, none⟩ = some (.slice f4 n2 f5) ∧ w'.cell? ⟨w.heap.size, 3, none⟩ = some (.int .i64 f6) ∧ w'.cell? ⟨w.heap.size, 4, none⟩ = some (.int .i64 f7) ∧ w'.cell? ⟨w.heap.size, 5, none⟩ = some (.int .i64 f8) ∧ w'.cell? ⟨w.heap.size, 6, none⟩ = some (.int .i64 f9) ∧ w'.cell? ⟨w.heap.size, 7, none⟩ = some (.slice (some ⟨g, o, none⟩) D f10) ∧ w'.cell? ⟨g, o + i * 2 + 1, none⟩ = some (.slice (some ⟨g3, o3, none⟩) M s.cc) ∧ w'.cell? ⟨g3, o3 + k * 3, none⟩ = some (.int .i64 io) ∧ w'.cell? ⟨g3, o3 + k * 3 + 1, none⟩ = some (.int .i64 ia) ∧ w'.cell? ⟨g3, o3 + k * 3 + 2, none⟩ = some (.int .i64 ib)) (fun w2 b => ⟨(b.cell (p := ⟨w.heap.size, 0, none⟩) wl).trans x0, (b.cell (p := ⟨w.heap.size, 1, none⟩) wl).trans x1, (b.cell (p := ⟨w.heap.size, 2, none⟩) wl).trans x2, (b.cell (p := ⟨w.heap.size, 3, none⟩) wl).trans x3, (b.cell (p := ⟨w.heap.size, 4, none⟩) wl).trans x4, (b.cell (p := ⟨w.heap.size, 5, none⟩) wl).trans x5, (b.cell (p := ⟨w.heap.size, 6, none⟩) wl).trans x6, (b.cell (p := ⟨w.heap.size, 7, none⟩) wl).trans x7, (b.cell (p := ⟨g, o + i * 2 + 1, none⟩) (lt_of_cell r1)).trans r1, (b.cell (p := ⟨g3, o3 + k * 3, none⟩) (lt_of_cell d0)).trans d0, (b.cell (p := ⟨g3, o3 + k * 3 + 1, none⟩) (lt_of_cell d1)).trans d1, (b.cell (p := ⟨g3, o3 + k * 3 + 2, none⟩) (lt_of_cell d2)).trans d2⟩)
            go_region_held3 (fun w' => (w'.cell? ⟨w.heap.size, 0, none⟩ = some (.slice f0 n0 f1)) ∧ (w'.cell? ⟨w.heap.size, 1, none⟩ = some (.slice f2 n1 f3)) ∧ (w'.cell? ⟨w.heap.size, 2, none⟩ = some (.slice f4 n2 f5)) ∧ (w'.cell? ⟨w.heap.size, 3, none⟩ = some (.int .i64 f6)) ∧ (w'.cell? ⟨w.heap.size, 4, none⟩ = some (.int .i64 f7)) ∧ (w'.cell? ⟨w.heap.size, 5, none⟩ = some (.int .i64 f8)) ∧ (w'.cell? ⟨w.heap.size, 6, none⟩ = some (.int .i64 f9)) ∧ (w'.cell? ⟨w.heap.size, 7, none⟩ = some (.slice (some ⟨g, o, none⟩) D f10)) ∧ (w'.cell? ⟨g, o + i * 2 + 1, none⟩ = some (.slice (some ⟨g3, o3, none⟩) M s.cc)) ∧ (w'.cell? ⟨g3, o3 + k * 3, none⟩ = some (.int .i64 io)) ∧ (w'.cell? ⟨g3, o3 + k * 3 + 1, none⟩ = some (.int .i64 ia)) ∧ (w'.cell? ⟨g3, o3 + k * 3 + 2, none⟩ = some (.int .i64 ib))) (first | exact ⟨x0, x1, x2, x3, x4, x5, x6, x7, r1, d0, d1, d2⟩ | exact SC.out _ ((drew1B _).trans (B5.out.mono (Nat.le_refl _)))) (first | (go_at_call 12; refine KI2.out.mono ?_; rintro e w5 ⟨rfl, h5⟩; have B5 := Lib.hid h5; clear h5))
            have hc9 := HC9.out
            have w1 := HW1.out
            have hCD2 := HD2.out
            have B6 := Lib.hid (p := Below W'.heap.size W' w5) ((drew1B W').trans (B5.out.mono (Nat.le_refl _)))
            have H6 := Lib.hid (HBW.out.trans (B6.out.mono HBW.out.size))
            have r3 := RR.out _ H6.out
            have hH6 := H6.out
            have wk : IntKind.i64.wrap ((k : Int) - 1) = (k : Int) - 1 := by have := MB.out; simp [IntKind.wrap, IntKind.bits, IntKind.signed]; omega
            clear SC KI2 HBW
            go_wp2
            go_roundw
            case rel =>
              simp only [e, e3]
              obtain rfl := HQ.out
              exact ⟨_, _, _, _, _, _, _, _, _, _, _, _, _, _, _, _, _, _, _, _, _, _, _, _, _, _, _, _, _, _, _, _, _, _, _, _, _, _, _, _, ⟨k, (k : Int) - 1, by omega, by omega, rfl, rfl, H6⟩, rfl⟩
            case measure => simp [intOf]
  · simp only [if_neg hc] at KP
    unfold Pg.agg at KP
    unfold Pg.agg
    unfold Pg.box at hW0
    clear hc hV hG X0 KI DC IC
    go_enter Tryz.func4, Tryz.ntmps4
    go_upto_region 1 with (fail)
    try rw [hW0]
    clear hW0
    go_upto_region 3 with (go_at_call 6; refine KH.out.mono ?_; rintro e w1 ⟨rfl, h1⟩; have B1 := Lib.hid h1; clear h1)
    have X1 := HB.out _ B1.out
    clear x0 x1 x2 x3 x4 x5 x6 x7
    obtain ⟨x0, x1, x2, x3, x4, x5, x6, x7⟩ := pcells X1
    clear X1
    go_wp2_with (go_at_call 9; refine (KP.out _ B1.out).mono ?_; rintro e w2 ⟨rfl, h2⟩; have B2 := Lib.hid (B1.out.trans (h2.mono B1.out.size)); clear h2 x0 x1 x2 x3 x4 x5 x6 x7)
    go_ret
    exact ⟨rfl, A0.out.trans (B2.out.mono A0.out.size)⟩
end Go.Proofs.YtccjeipkljdhdaaGreatDoor

namespace Go.Proofs.YtccjeipkljdhdaaGreatDoor
open Go.RowKit
set_option linter.unusedVariables false
set_option linter.unusedSimpArgs false

end Go.Proofs.YtccjeipkljdhdaaGreatDoor

namespace Go.Proofs.YtccjeipkljdhdaaGreatDoor
open Go.RowKit
set_option linter.unusedVariables false
set_option linter.unusedSimpArgs false
end Go.Proofs.YtccjeipkljdhdaaGreatDoor
