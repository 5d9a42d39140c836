/-
  WALK: LegsPlays.
-/
import Derived.Test.YtjlnbhmiahegmaaMGH
namespace Go.Proofs.Ytjlnbhmiahegmaa
open Go.RowKit
set_option linter.unusedVariables false
set_option linter.unusedSimpArgs false

theorem HAs.nn {w : World} {b : Nat} {al : List At} {CUR : Array Value} {A : Nat → At} (h : HAs w b al (al.length + 3) CUR A) (hN : ∀ a ∈ al, a.e.n ≤ 1048576 ∧ ∀ s ∈ a.ss, s.e.n ≤ 1048576) : ∀ a ∈ (List.range al.length).map A, a.e.n ≤ 1048576 ∧ ∀ s ∈ a.ss, s.e.n ≤ 1048576 := by
  intro a ha
  obtain ⟨i, hi, rfl⟩ := List.mem_map.1 ha
  have hi' := List.mem_range.1 hi
  have q := h.act i (by omega) hi'
  have qn := hN _ (getD_mem hi')
  obtain ⟨sb, cur, e1, e2⟩ := q.ss
  refine ⟨by rw [q.e]; exact qn.1, fun s hs => ?_⟩
  obtain ⟨k, hk, rfl⟩ := List.mem_iff_getElem.1 hs
  have hk' : k < (al.getD i default).ss.length := by rw [← q.sl]; exact hk
  have r := e2.st k (by omega) hk'
  rw [show (A i).ss.getD k default = (A i).ss[k] by simp [List.getD, hk]] at r
  rw [r.e]
  exact qn.2 _ (getD_mem hk')
theorem ro_rl {w0 w : World} {ra : Option Addr} {rn lo b : Nat} {rs : List Rw} (hR : RL w0 ra rn rs) (h : RO w lo b (Rws rs)) : ∃ ps, RL w (some ⟨b, 0, none⟩) rn ps ∧ Rws ps = Rws rs := by
  have hrn := hR.1
  subst hrn
  obtain ⟨_, Cur, bs, h2, h3, h4⟩ := h
  have hl : (Rws rs).length = rs.length := by simp [Rws]
  have hm : ∀ j, j < rs.length → ∃ r ∈ rs, (Rws rs).getD j [] = r.cs := fun j hj => ⟨rs[j], List.getElem_mem hj, by simp [Rws, List.getD, hj]⟩
  obtain ⟨ps, q1, q2⟩ := rl_blocks (n := rs.length) (fun j => (Rws rs).getD j []) h2 hR.2.1 (fun j hj => (h4 j (by omega)).2.2.1) (fun j hj => (h4 j (by omega)).2.2.2) (fun j hj => by
    obtain ⟨r, hr, e⟩ := hm j hj
    rw [e, (hR.2.2.1 r hr).1.1]; exact (hR.2.2.1 r hr).1.2.1) (fun j hj => by
    obtain ⟨r, hr, e⟩ := hm j hj
    rw [e]; exact (hR.2.2.1 r hr).1.2.2.1)
  exact ⟨ps, q1, q2.trans (rws_range rs)⟩
theorem Bk.three {w : World} {b : Nat} {v0 v1 v2 : Value} {t : TypeId} (h : Bk w b #[v0, v1, v2] t) : w.cell? ⟨b, 0, none⟩ = some v0 ∧ w.cell? ⟨b, 1, none⟩ = some v1 ∧ w.cell? ⟨b, 2, none⟩ = some v2 := ⟨h.cell 0, h.cell 1, h.cell 2⟩
/-- What the law holds once the three outcomes are there. -/
structure LQ (W : World) (lo ba bt bb : Nat) (av tv bv : Value) (F : List Fl) (f d : Int) (ta tb : Nat) : Prop where
  a : Bk W ba #[av, .int .i64 f, .int .i64 d] 44
  t : Bk W bt #[tv, .int .i64 f, .int .i64 d] 44
  b : Bk W bb #[bv, .int .i64 f, .int .i64 d] 44
  ot : W.ownsRow ta 51 3 tv F.length (fcs F)
  ob : W.ownsRow tb 51 3 bv F.length (fcs F)
theorem LQ.keep {W W' : World} {lo ba bt bb : Nat} {av tv bv : Value} {F : List Fl} {f d : Int} {ta tb : Nat} (h : LQ W lo ba bt bb av tv bv F f d ta tb) (ha : lo ≤ ba) (ht : lo ≤ bt) (hb : lo ≤ bb) (hta : lo ≤ ta) (htb : lo ≤ tb) (k : ∀ c, lo ≤ c → c < W.heap.size → W'.heap[c]? = W.heap[c]?) : LQ W' lo ba bt bb av tv bv F f d ta tb :=
  ⟨(k ba ha h.a.lt).trans h.a, (k bt ht h.t.lt).trans h.t, (k bb hb h.b.lt).trans h.b, own_keep h.ot (fun c hc => k c (Nat.le_trans hta (h.ot.lt c hc).1) (h.ot.lt c hc).2), own_keep h.ob (fun c hc => k c (Nat.le_trans htb (h.ob.lt c hc).1) (h.ob.lt c hc).2)⟩
theorem LQ.later {W W' : World} {lo ba bt bb : Nat} {av tv bv : Value} {F : List Fl} {f d : Int} {ta tb : Nat} (h : LQ W lo ba bt bb av tv bv F f d ta tb) (k : Below W.heap.size W W') : LQ W' lo ba bt bb av tv bv F f d ta tb :=
  ⟨h.a.below k h.a.lt, h.t.below k h.t.lt, h.b.below k h.b.lt, own_keep h.ot (fun c hc => k.block c (h.ot.lt c hc).2), own_keep h.ob (fun c hc => k.block c (h.ob.lt c hc).2)⟩
/-- What stays in the law from the three outcomes on. -/
structure PK (w3 : World) (lo : Nat) (W : World) (ba bt bb : Nat) (av tv bv : Value) (F : List Fl) (f d : Int) (ta tb : Nat) : Prop where
  q : LQ W lo ba bt bb av tv bv F f d ta tb
  bel : Below w3.heap.size w3 W
theorem PK.later {w3 W W' : World} {lo ba bt bb : Nat} {av tv bv : Value} {F : List Fl} {f d : Int} {ta tb : Nat} (h : PK w3 lo W ba bt bb av tv bv F f d ta tb) (k : Below W.heap.size W W') : PK w3 lo W' ba bt bb av tv bv F f d ta tb :=
  ⟨h.q.later k, h.bel.trans (k.mono h.bel.size)⟩
theorem PK.k1 {w3 W W' : World} {lo ba bt bb g : Nat} {av tv bv : Value} {F : List Fl} {f d : Int} {ta tb : Nat} (h : PK w3 lo W ba bt bb av tv bv F f d ta tb) (ha : lo ≤ ba) (ht : lo ≤ bt) (hb : lo ≤ bb) (hta : lo ≤ ta) (htb : lo ≤ tb) (k : K1 W W' g) (h3 : w3.heap.size ≤ g) (hg : g < lo ∨ W.heap.size ≤ g) : PK w3 lo W' ba bt bb av tv bv F f d ta tb :=
  ⟨h.q.keep ha ht hb hta htb (fun c h1 h2 => k.block c (by omega) h2), ⟨k.os.trans h.bel.os, k.tape.trans h.bel.tape, k.output.trans h.bel.output, Nat.le_trans h.bel.size k.size, fun c hc => (k.block c (by omega) (Nat.lt_of_lt_of_le hc h.bel.size)).trans (h.bel.block c hc)⟩⟩
theorem GV.later {W wr w' : World} {g B n k : Nat} {gv : Value} (h : GV W wr g B n k gv) (hgl : n = 0 ∨ g < W.heap.size) (b : Below wr.heap.size wr w') : GV W w' g B n k gv := by
  obtain ⟨xs, q1, q2, q3⟩ := h.row
  refine ⟨⟨b.os.trans h.k1.os, b.tape.trans h.k1.tape, b.output.trans h.k1.output, Nat.le_trans h.k1.size b.size, fun c hc hlt => (b.block c (Nat.lt_of_lt_of_le hlt h.k1.size)).trans (h.k1.block c hc hlt)⟩, fun j hj => ?_, h.at_, xs, own_keep q1 (fun c hc => b.block c (q1.lt c hc).2), q2, q3⟩
  have gl : g < wr.heap.size := by
    rcases hgl with q | q
    · omega
    · exact Nat.lt_of_lt_of_le q h.k1.size
  exact (b.cell (p := ⟨g, j * 3, none⟩) gl).trans (h.af j hj)
/-- Two lists of the same flows are the same outcome. -/
theorem same_any {w : World} {F : List Fl} {fa ga : Option Addr} {fc gc B C : Nat} (f d : Int) (hl : F.length ≤ 4398046511000) (h1 : w.ownsRow B 51 3 (.slice fa F.length fc) F.length (fcs F)) (h2 : w.ownsRow C 51 3 (.slice ga F.length gc) F.length (fcs F)) :
    Calls Try.prog 20 #[.agg #[.slice fa F.length fc, .int .i64 f, .int .i64 d], .agg #[.slice ga F.length gc, .int .i64 f, .int .i64 d]] w fun e w' => e = .returned (.bool true) ∧ Below w.heap.size w w' := by
  obtain ⟨a1, c1, e1, q1⟩ := fl_of_own h1 hl
  obtain ⟨a2, c2, e2, q2⟩ := fl_of_own h2 hl
  injection e1 with e1 _ _
  injection e2 with e2 _ _
  subst e1 e2
  exact sameOutcome_any q1 q2 f d
set_option maxRecDepth 100000 in
set_option maxHeartbeats 20000000 in
theorem legsPlays_walk {w : World} {al : List At} {pa : Option Addr} {n pc : Nat} (hn : al.length = n) (hA : AL w pa al) (cells : Int) {ra : Option Addr} {rn rc : Nat} {rs : List Rw} (hR : RL w ra rn rs) :
    Calls Try.prog 4 #[.slice pa n pc, .int .i64 cells, .slice ra rn rc] w fun e' w' => e' = .returned (.bool true) ∧ Below w.heap.size w w' := by
  have HA := Lib.hid hA
  have HR := Lib.hid hR
  have HL := Lib.hid hn
  have KF := Lib.hid (fewAll_any (pc := pc) hA)
  rw [hn] at KF
  clear hA hR hn
  go_enter Try.func4, Try.ntmps4
  go_wp2_with fail
  go_at_call 15
  refine KF.out.mono ?_
  rintro e' w1 ⟨hfw, b1⟩
  have B1 := Lib.hid b1
  clear b1 KF
  rcases hfw with rfl | ⟨rfl, hN⟩
  · go_wp2
    exact bodyPost_ret (v := .bool true) (by simp [results, Try.results4, go_sem]) rfl ⟨rfl, B1.out⟩
  · have HN := Lib.hid hN
    have KH := Lib.hid (handActions_any (pc := pc) (HA.out.later B1.out) hN)
    rw [HL.out] at KH
    clear hN
    go_wp2_with fail
    go_at_call 16
    refine KH.out.mono ?_
    rintro e' w2 ⟨⟨CUR, A, rfl, hH⟩, b2⟩
    have B2 := Lib.hid (B1.out.trans (b2.mono B1.out.size))
    rw [← HL.out] at hH
    have HH := Lib.hid hH
    have IN := Lib.hid (hH.al HA.out)
    have INN := Lib.hid (hH.nn HN.out)
    have INL := Lib.hid (show ((List.range al.length).map A).length = n from by simp [HL.out])
    clear b2 hH KH
    generalize (List.range al.length).map A = al' at *
    go_wp2_with fail
    go_at_call 7
    refine (handRows_any (HR.out.later B2.out)).mono ?_
    rintro e' w3 ⟨rb, rfl, hro, b3⟩
    have RO3 := Lib.hid hro
    have B3' := Lib.hid b3
    have B3 := Lib.hid (B2.out.trans (b3.mono B2.out.size))
    obtain ⟨ps, hps, hpr⟩ := ro_rl HR.out hro
    have HPS := Lib.hid hps
    have HPR := Lib.hid hpr
    have OE := Lib.hid (show outR (Rws ps) al' cells = outR (Rws rs) al cells from by rw [hpr, ← outR_er (Rws rs) al', IN.out.2, outR_er])
    have EE := Lib.hid (show oddR al' cells = oddR al cells from by rw [← oddR_er al', IN.out.2, oddR_er])
    obtain ⟨⟨F, f, d⟩, hout⟩ : ∃ r, outR (Rws rs) al cells = r := ⟨_, rfl⟩
    obtain ⟨er, her⟩ : ∃ r, oddR al cells = r := ⟨_, rfl⟩
    have FN := Lib.hid (show F.length ≤ 1256584717422 from by have := outR_len (Rws rs) al cells; rw [hout] at this; exact Nat.le_trans this HA.out.1)
    have DZ := Lib.hid (show f = 0 → d = 0 from by have := outR_day (Rws rs) al cells; rw [hout] at this; exact this)
    have HOUT := Lib.hid hout
    have HER := Lib.hid her
    -- Play of what was handed in, wherever it still lies
    have KP := Lib.hid (show ∀ (W : World) (p1 : List Rw), Below w2.heap.size w2 W → RL W (some ⟨rb, 0, none⟩) rn p1 → Calls Try.prog 17 #[.slice (some ⟨w1.heap.size, 0, none⟩) n (n + 3), .int .i64 cells, .slice (some ⟨rb, 0, none⟩) rn (rn + 3)] W fun e w' => PlE W.heap.size (outR (Rws p1) al' cells) er e w' ∧ Below W.heap.size W w' from fun W p1 hb hp => by
      have := lplay_any (pc := n + 3) (rc := rn + 3) (IN.out.1.later hb) hp INN.out cells
      rw [INL.out, EE.out, her] at this
      exact this)
    have KR := Lib.hid (show ∀ (W : World) (qa : Option Addr) (qc : Nat) (q1 : List Rw), Below w.heap.size w W → RL W qa rn q1 → Calls Try.prog 18 #[.slice pa n pc, .int .i64 cells, .slice qa rn qc] W fun e w' => PlE W.heap.size (outR (Rws q1) al cells) er e w' ∧ Below W.heap.size W w' from fun W qa qc q1 hb hq => by
      have := rplay_any (pc := pc) (rc := qc) (HA.out.later hb) hq cells
      rw [HL.out, her] at this
      exact this)
    clear b3 hro hps hpr hout her
    go_wp2_with fail
    go_at_call 17
    refine (KP.out w3 ps B3'.out HPS.out).mono ?_
    rintro e' w4 ⟨⟨av, rfl, ho4⟩, b4⟩
    rw [OE.out, HOUT.out] at ho4
    obtain ⟨fa, fc, hav⟩ := own_sl ho4
    subst hav
    have OA4 := Lib.hid ho4
    obtain ⟨u4, hu4⟩ : ∃ u, w4.alloc (.cells #[.slice fa F.length fc, .int .i64 f, .int .i64 d] 44) = u := ⟨_, rfl⟩
    have X4 := Lib.hid (NB.is hu4)
    have C4 := Lib.hid (show Below w3.heap.size w3 u4 from b4.trans (X4.out.1.mono b4.size))
    have Z4 := Lib.hid (show w3.heap.size ≤ w4.heap.size ∧ u4.heap.size = w4.heap.size + 1 from ⟨b4.size, by rw [← hu4]; simp⟩)
    clear b4 ho4
    rw [OE.out, HOUT.out]
    go_wp2_with fail
    clear hu4
    go_at_call 17
    refine (KP.out u4 ps (B3'.out.trans (C4.out.mono B3'.out.size)) (HPS.out.later C4.out)).mono ?_
    rintro e' w5 ⟨⟨tv, rfl, ho5⟩, b5⟩
    rw [OE.out, HOUT.out] at ho5
    obtain ⟨ga, gc, htv⟩ := own_sl ho5
    subst htv
    obtain ⟨u5, hu5⟩ : ∃ u, w5.alloc (.cells #[.slice ga F.length gc, .int .i64 f, .int .i64 d] 44) = u := ⟨_, rfl⟩
    have X5 := Lib.hid (NB.is hu5)
    have C5 := Lib.hid (show Below u4.heap.size u4 u5 from b5.trans (X5.out.1.mono b5.size))
    have Z5 := Lib.hid (show u4.heap.size ≤ w5.heap.size ∧ u5.heap.size = w5.heap.size + 1 from ⟨b5.size, by rw [← hu5]; simp⟩)
    have OT5 := Lib.hid (show u5.ownsRow u4.heap.size 51 3 (.slice ga F.length gc) F.length (fcs F) from own_keep ho5 (fun c hc => X5.out.1.block c (ho5.lt c hc).2))
    clear b5 ho5
    rw [OE.out, HOUT.out]
    go_wp2_with fail
    clear hu5
    have B5 := Lib.hid (show Below w.heap.size w u5 from (B3.out.trans (C4.out.mono B3.out.size)).trans (C5.out.mono (Nat.le_trans B3.out.size C4.out.size)))
    go_at_call 18
    refine (KR.out u5 ra rc rs B5.out (HR.out.later B5.out)).mono ?_
    rintro e' w6 ⟨⟨bv, rfl, ho6⟩, b6⟩
    rw [HOUT.out] at ho6
    obtain ⟨ha, hc, hbv⟩ := own_sl ho6
    subst hbv
    obtain ⟨u6, hu6⟩ : ∃ u, w6.alloc (.cells #[.slice ha F.length hc, .int .i64 f, .int .i64 d] 44) = u := ⟨_, rfl⟩
    have X6 := Lib.hid (NB.is hu6)
    have C6 := Lib.hid (show Below u5.heap.size u5 u6 from b6.trans (X6.out.1.mono b6.size))
    have Z6 := Lib.hid (show u5.heap.size ≤ w6.heap.size ∧ u6.heap.size = w6.heap.size + 1 from ⟨b6.size, by rw [← hu6]; simp⟩)
    have LQ6 := Lib.hid (show LQ u6 w4.heap.size w4.heap.size w5.heap.size w6.heap.size (.slice fa F.length fc) (.slice ga F.length gc) (.slice ha F.length hc) F f d u4.heap.size u5.heap.size from
      ⟨(X4.out.2.below C5.out X4.out.2.lt).below C6.out (Nat.lt_of_lt_of_le X4.out.2.lt C5.out.size), X5.out.2.below C6.out X5.out.2.lt, X6.out.2, own_keep OT5.out (fun c q => C6.out.block c (OT5.out.lt c q).2), own_keep ho6 (fun c q => X6.out.1.block c (ho6.lt c q).2)⟩)
    have OA6 := Lib.hid (show u6.ownsRow w3.heap.size 51 3 (.slice fa F.length fc) F.length (fcs F) from own_keep OA4.out (fun c q => by
      have l4 := (OA4.out.lt c q).2
      have := Z4.out.2
      have := C5.out.size
      rw [C6.out.block c (by omega), C5.out.block c (by omega), X4.out.1.block c l4]))
    have C36 := Lib.hid (show Below w3.heap.size w3 u6 from (C4.out.trans (C5.out.mono C4.out.size)).trans (C6.out.mono (Nat.le_trans C4.out.size C5.out.size)))
    clear b6 ho6
    rw [HOUT.out]
    go_wp2_with fail
    clear hu6
    have B6 := Lib.hid (show Below w.heap.size w u6 from B3.out.trans (C36.out.mono B3.out.size))
    go_at_call 19
    have KA := keptActions_any (pc := pc) (HA.out.later B6.out) ((HH.out.later B3'.out).later C36.out)
    rw [HL.out] at KA
    refine KA.mono ?_
    rintro e' w7 ⟨rfl, b7⟩
    have C7 := Lib.hid b7
    have B7 := Lib.hid (B6.out.trans (b7.mono B6.out.size))
    clear b7 KA
    go_wp2_with fail
    go_at_call 12
    refine (keptRows_any (HR.out.later B7.out) ((RO3.out.later C36.out).later C7.out)).mono ?_
    rintro e' w8 ⟨rfl, b8⟩
    have C68 := Lib.hid (show Below u6.heap.size u6 w8 from C7.out.trans (b8.mono C7.out.size))
    have B8 := Lib.hid (B7.out.trans (b8.mono B7.out.size))
    have LQ8 := Lib.hid (LQ6.out.later C68.out)
    have OA8 := Lib.hid (show w8.ownsRow w3.heap.size 51 3 (.slice fa F.length fc) F.length (fcs F) from own_keep OA6.out (fun c q => C68.out.block c (OA6.out.lt c q).2))
    have C38 := Lib.hid (show Below w3.heap.size w3 w8 from C36.out.trans (C68.out.mono C36.out.size))
    clear b8
    obtain ⟨a0, a1, a2⟩ := LQ8.out.a.three
    obtain ⟨t0, t1, t2⟩ := LQ8.out.t.three
    obtain ⟨b0, b1, b2⟩ := LQ8.out.b.three
    go_wp2_with fail
    have FL1 : F.length ≤ 4398046511000 := by have := FN.out; omega
    have SZ := Lib.hid (show w4.heap.size ≤ w5.heap.size ∧ w4.heap.size ≤ w6.heap.size ∧ w4.heap.size ≤ u4.heap.size ∧ w4.heap.size ≤ u5.heap.size from by
      have := Z4.out; have := Z5.out; have := Z6.out; omega)
    have PK8 := Lib.hid (show PK w3 w4.heap.size w8 w4.heap.size w5.heap.size w6.heap.size (.slice fa F.length fc) (.slice ga F.length gc) (.slice ha F.length hc) F f d u4.heap.size u5.heap.size from ⟨LQ8.out, C38.out⟩)
    go_at_call 20
    refine (same_any f d FL1 PK8.out.q.ot PK8.out.q.ob).mono ?_
    rintro e' w9 ⟨rfl, b9⟩
    have PK9 := Lib.hid (PK8.out.later b9)
    have OA9 := Lib.hid (own_keep OA8.out (fun c q => b9.block c (OA8.out.lt c q).2))
    clear a0 a1 a2 t0 t1 t2 b0 b1 b2 b9
    obtain ⟨a0, a1, a2⟩ := PK9.out.q.a.three
    obtain ⟨b0, b1, b2⟩ := PK9.out.q.b.three
    go_wp2_with fail
    go_at_call 20
    refine (same_any f d FL1 OA9.out PK9.out.q.ob).mono ?_
    rintro e' wT ⟨rfl, b9⟩
    have PKT := Lib.hid (PK9.out.later b9)
    have OAT := Lib.hid (own_keep OA9.out (fun c q => b9.block c (OA9.out.lt c q).2))
    clear a0 a1 a2 b0 b1 b2 b9
    obtain ⟨a0, a1, a2⟩ := PKT.out.q.a.three
    -- where the first list lies
    obtain ⟨g, hg3, hg4, hgf⟩ : ∃ g, w3.heap.size ≤ g ∧ (g < w4.heap.size ∨ wT.heap.size ≤ g) ∧ ((fa = none ∧ F.length = 0 ∧ fc = 0) ∨ (fa = some ⟨g, 0, none⟩ ∧ g < wT.heap.size ∧ fc ≤ maxLen ∧ ∃ cur, OV wT wT g fc F.length 0 cur)) := by
      rcases OA4.out.2 with ⟨e, e0⟩ | ⟨g, cap, cur, e, hb, hgg, _⟩
      · injection e with e1 e2 e3
        exact ⟨wT.heap.size, PKT.out.bel.size, .inr (Nat.le_refl _), .inl ⟨e1, e0, e3⟩⟩
      · injection e with e1 e2 e3
        have gl := (Array.getElem?_eq_some_iff.1 hgg).1
        rcases OAT.out.2 with ⟨e', _⟩ | ⟨g', cap', cur', e', hb', hgg', n1, n2, n3, _⟩
        · injection e' with e4; rw [e1] at e4; cases e4
        · injection e' with e4 e5 e6
          rw [e1] at e4; injection e4 with e4; injection e4 with e4
          subst e4 e6
          exact ⟨g, hb, .inl gl, .inr ⟨e1, (Array.getElem?_eq_some_iff.1 hgg').1, n2, cur', ⟨rfl, rfl, rfl, Nat.le_refl _, fun _ _ _ => rfl⟩, hgg', n3, n1, fun j hj => absurd hj (by omega)⟩⟩
    have HG3 := Lib.hid hg3
    have HG4 := Lib.hid hg4
    have HGF := Lib.hid hgf
    have HGL := Lib.hid (show F.length = 0 ∨ g < wT.heap.size from hgf.elim (fun q => .inl q.2.1) (fun q => .inr q.2.1))
    clear hg3 hg4 hgf
    obtain ⟨N, hN⟩ : ∃ N, F.length = N := ⟨_, rfl⟩
    have HNN := Lib.hid hN
    have PKK := Lib.hid (show ∀ W', K1 wT W' g → PK w3 w4.heap.size W' w4.heap.size w5.heap.size w6.heap.size (.slice fa F.length fc) (.slice ga F.length gc) (.slice ha F.length hc) F f d u4.heap.size u5.heap.size from fun W' k => PKT.out.k1 (Nat.le_refl _) SZ.out.1 SZ.out.2.1 SZ.out.2.2.1 SZ.out.2.2.2 k HG3.out HG4.out)
    have NL : N ≤ 1256584717422 := by rw [← hN]; exact FN.out
    rw [hN] at HGF HGL FL1 a0 ⊢
    have DAY := DZ.out
    clear hN
    have hz : ((f == 0) = true ∧ (d != 0) = false ∧ (d == 0) = true) ∨ (f == 0) = false := by
      by_cases zf : f = 0
      · have := DAY zf; exact .inl ⟨by simpa using zf, by simpa using this, by simpa using this⟩
      · exact .inr (by simpa using zf)
    clear DAY
    rcases hz with ⟨zf1, zd1, zd2⟩ | zf1
    all_goals go_wp2
    all_goals clear zf1
    all_goals
      go_loopw [17] (fun t wr => ∃ i : Nat, i ≤ N ∧ t = .int .i64 i ∧ K1 wT wr g ∧ RowKit.Hid ((fa = none ∧ N = 0 ∧ fc = 0) ∨ (fa = some ⟨g, 0, none⟩ ∧ ∃ cur, OV wT wr g fc N i cur))) (fun t _ => N - (intOf t).toNat)
      case atStart => exact ⟨0, by omega, rfl, ⟨rfl, rfl, rfl, Nat.le_refl _, fun _ _ _ => rfl⟩, HGF.out.elim (fun q => .inl q) (fun q => .inr ⟨q.1, q.2.2.2⟩)⟩
      case round =>
        clear a0 a1 a2
        obtain ⟨i, hi, rfl, hK, HO⟩ := hrel
        have HK := Lib.hid hK
        have PKR := Lib.hid (PKK.out _ hK)
        obtain ⟨a0, a1, a2⟩ := PKR.out.q.a.three
        rw [HNN.out] at a0
        clear hK
        by_cases il : i < N
        · have ic : (i : Int) < (N : Int) := by omega
          rcases HO.out with q | ⟨rfl, cur, hO⟩
          · omega
          have szz : i * 3 + 2 < cur.size := by have := hO.sz; have := hO.nc; omega
          obtain ⟨_, d0⟩ := hO.bk.some1 (i * 3) (by omega)
          obtain ⟨_, d1⟩ := hO.bk.some1 (i * 3 + 1) (by omega)
          obtain ⟨_, d2⟩ := hO.bk.some1 (i * 3 + 2) (by omega)
          have f0 := hO.bk.frozen (i * 3)
          have f1 := hO.bk.frozen (i * 3 + 1)
          have f2 := hO.bk.frozen (i * 3 + 2)
          have HOO := Lib.hid hO
          clear hO szz
          go_wp2
          go_roundw
          case rel =>
            obtain ⟨cur', q⟩ := HOO.out.next il (.string ⟨#[]⟩) (.int .i64 0)
            exact ⟨i + 1, by omega, by go_num, q.k1, .inr ⟨by first | rfl | trivial, cur', q⟩⟩
          case measure => simp [intOf]; omega
        · obtain rfl : i = N := by omega
          have GV0 := Lib.hid (show GV wT wr g w3.heap.size i 0 (.slice fa i fc) from by
            rcases HO.out with ⟨e1, e2, e3⟩ | ⟨e1, cur, hO⟩
            · subst e1 e2 e3
              exact ⟨HK.out, fun j hj => absurd hj (by omega), fun y hy => (by cases hy), [], World.ownsRow_nil _ _ _ _, fun j hj => absurd hj (by omega), fun j h1 h2 => absurd h2 (by omega)⟩
            · rw [e1]
              exact hO.gv HG3.out (HGF.out.elim (fun q => by rw [e1] at q; cases q.1) (fun q => q.2.2.1)))
          go_wp2
          clear a0 a1 a2
          go_loopw [18, 19] (fun gv t wr => ∃ k : Nat, k ≤ 70 ∧ t = .int .i64 k ∧ GV wT wr g w3.heap.size i k gv) (fun _ t _ => 70 - (intOf t).toNat)
          case atStart => exact ⟨0, by omega, rfl, GV0.out⟩
          case round =>
            clear GV0
            obtain ⟨k, hk, rfl, hG⟩ := hrel
            have GG := Lib.hid hG
            obtain ⟨xs, x1, x2, x3⟩ := hG.row
            have X1' := Lib.hid x1
            have X2' := Lib.hid x2
            have X3' := Lib.hid x3
            have PKR2 := Lib.hid (PKK.out _ hG.k1)
            obtain ⟨va, vc, hva⟩ := own_sl x1
            clear hG x1 x2 x3
            by_cases kl : k < 70
            · have kc : (k : Int) < 70 := by omega
              go_wp2_with (at_builtin; refine wp_grow _ rfl _ _ rfl w3.heap.size _ (i + k) xs rfl rfl X1'.out (by omega) PKR2.out.bel.size ?_; intro v' w' h1 h2 h3 h4; have G' := Lib.hid (GG.out.next X1'.out X2'.out X3'.out HGL.out h1 h2 h3 h4); clear h1 h2 h3 h4)
              go_roundw
              case rel => exact ⟨k + 1, by omega, by go_num, G'.out⟩
              case measure => simp [intOf]; omega
            · obtain rfl : k = 70 := by omega
              subst hva
              have BW2 := Lib.hid (show Below w2.heap.size w2 wr from B3'.out.trans (PKR2.out.bel.mono B3'.out.size))
              go_wp2_with fail
              go_at_call 17
              refine (KP.out wr ps BW2.out (HPS.out.later PKR2.out.bel)).mono ?_
              rintro e' wc ⟨⟨cv, rfl, hoc⟩, bc⟩
              rw [OE.out, HOUT.out] at hoc
              obtain ⟨ca, cc, hcv⟩ := own_sl hoc
              subst hcv
              obtain ⟨uc, huc⟩ : ∃ u, wc.alloc (.cells #[.slice ca F.length cc, .int .i64 f, .int .i64 d] 44) = u := ⟨_, rfl⟩
              have XC := Lib.hid (NB.is huc)
              have BC := Lib.hid (show Below wr.heap.size wr uc from bc.trans (XC.out.1.mono bc.size))
              have OC := Lib.hid (show uc.ownsRow wr.heap.size 51 3 (.slice ca F.length cc) F.length (fcs F) from own_keep hoc (fun c hc => XC.out.1.block c (hoc.lt c hc).2))
              have PKC := Lib.hid (PKR2.out.later BC.out)
              have GVC := Lib.hid (GG.out.later HGL.out BC.out)
              clear bc hoc
              rw [OE.out, HOUT.out]
              go_wp2
              clear huc
              obtain ⟨ys, z1, z2, z3⟩ := GVC.out.row
              have Y1 := Lib.hid z1
              have Y2 := Lib.hid z2
              have Y3 := Lib.hid z3
              obtain ⟨gg, hgg⟩ : ∃ gg, va = some ⟨gg, 0, none⟩ := by
                rcases z1.2 with ⟨_, e⟩ | ⟨gg, cap, cur, e, _⟩
                · omega
                · injection e with e; exact ⟨gg, e⟩
              subst hgg
              clear z1 z2 z3
              go_loopw [22] (fun t wz => ∃ j : Nat, j ≤ i + 70 ∧ t = .int .i64 j ∧ ∃ q, wz = uc.drewN q) (fun t _ => i + 70 - (intOf t).toNat)
              case atStart => exact ⟨0, by omega, rfl, 0, rfl⟩
              case round =>
                rename World => wz
                obtain ⟨j, hj, rfl, q, hq⟩ := hrel
                have HQ := Lib.hid hq
                have a0 : wz.cell? ⟨w4.heap.size, 0, none⟩ = some (.slice fa i fc) := by rw [hq, ← HNN.out]; exact PKC.out.q.a.cell 0
                by_cases jl : j < i + 70
                · have jc : (j : Int) < (i : Int) + 70 := by omega
                  have lx : ys.length = (i + 70) * 3 := Y1.out.1
                  have gc0 : wz.cell? ⟨gg, j * 3, none⟩ = ys[j * 3]? := by rw [hq]; exact Y1.out.cellAt (j * 3) (by omega)
                  by_cases ji : j < i
                  · have jic : (j : Int) < (i : Int) := by omega
                    have jid : decide (i ≤ j) = false := by simpa using ji
                    have jin : ¬ i ≤ j := by omega
                    rw [Y2.out j ji] at gc0
                    have ga0 : wz.cell? ⟨g, j * 3, none⟩ = some (.int .i64 (-1)) := by rw [hq]; exact GVC.out.af j ji
                    rcases HO.out with q | ⟨rfl, _⟩
                    · omega
                    clear hq
                    go_wp2
                    try go_quiet (fail)
                    all_goals try go_wp2
                    all_goals
                      go_roundw
                      case rel => exact ⟨j + 1, by omega, by go_num, by rw [HQ.out]; first | exact ⟨_, rfl⟩ | exact ⟨_, World.drewN_drewN _ _ _⟩⟩
                      case measure => simp [intOf]; omega
                  · have jic : ¬ (j : Int) < (i : Int) := by omega
                    have jid : decide (i ≤ j) = true := by simpa using ji
                    have jin : i ≤ j := by omega
                    rw [Y3.out j jin jl] at gc0
                    clear hq
                    go_wp2
                    try go_quiet (fail)
                    all_goals try go_wp2
                    all_goals
                      go_roundw
                      case rel => exact ⟨j + 1, by omega, by go_num, by rw [HQ.out]; first | exact ⟨_, rfl⟩ | exact ⟨_, World.drewN_drewN _ _ _⟩⟩
                      case measure => simp [intOf]; omega
                · obtain rfl : j = i + 70 := by omega
                  have BZ := Lib.hid (show Below uc.heap.size uc wz from by rw [hq]; exact xbelow_drewN (Below.refl _ _) _)
                  have PKZ := Lib.hid (PKC.out.later BZ.out)
                  have OCZ := Lib.hid (own_keep OC.out (fun c hc => BZ.out.block c (OC.out.lt c hc).2))
                  have XCZ := XC.out.2.below BZ.out XC.out.2.lt
                  obtain ⟨c0, c1, c2⟩ := XCZ.three
                  obtain ⟨b0, b1, b2⟩ := PKZ.out.q.b.three
                  have FL2 : F.length ≤ 4398046511000 := by have := FN.out; omega
                  clear hq a0 XCZ
                  go_wp2_with fail
                  go_at_call 20
                  refine (same_any f d FL2 OCZ.out PKZ.out.q.ob).mono ?_
                  rintro e' y1 ⟨rfl, by1⟩
                  have PKY := Lib.hid (PKZ.out.later by1)
                  clear c0 c1 c2 b0 b1 b2 by1
                  obtain ⟨t0, t1, t2⟩ := PKY.out.q.t.three
                  obtain ⟨b0, b1, b2⟩ := PKY.out.q.b.three
                  go_wp2_with fail
                  go_at_call 20
                  refine (same_any f d FL2 PKY.out.q.ot PKY.out.q.ob).mono ?_
                  rintro e' y2 ⟨rfl, by2⟩
                  have PKX := Lib.hid (PKY.out.later by2)
                  clear t0 t1 t2 b0 b1 b2 by2
                  go_wp2_with fail
                  have BY2 := Lib.hid (show Below w.heap.size w y2 from B3.out.trans (PKX.out.bel.mono B3.out.size))
                  obtain ⟨hb0, Cur, bs, hbk3, hsz3, hrow3⟩ := RO3.out
                  have HBK := Lib.hid (hbk3.below PKX.out.bel hbk3.lt)
                  have HROW := Lib.hid (show ∀ j, j < (Rws rs).length + 3 → rb < bs j ∧ (∀ i, i < j → bs i < bs j) ∧ Cur[j]? = some (.slice (some ⟨bs j, 0, none⟩) ((Rws rs).getD j []).length (((Rws rs).getD j []).length + 3)) ∧ HRw y2 (bs j) ((Rws rs).getD j []) from fun j hj => ⟨(hrow3 j hj).1, (hrow3 j hj).2.1, (hrow3 j hj).2.2.1, (hrow3 j hj).2.2.2.keep (PKX.out.bel.block _ (hrow3 j hj).2.2.2.lt)⟩)
                  have HB0 := Lib.hid (show w2.heap.size ≤ rb ∧ rb < w3.heap.size from ⟨hb0, hbk3.lt⟩)
                  have BSL := Lib.hid (show ∀ j, j < (Rws rs).length → rb < bs j ∧ bs j < w3.heap.size from fun j hj => ⟨(hrow3 j (by omega)).1, (hrow3 j (by omega)).2.2.2.lt⟩)
                  have RLn := Lib.hid (show (Rws rs).length = rn from by rw [← HR.out.1]; simp [Rws])
                  have RLL := Lib.hid (show ∀ j, j < rn → ((Rws rs).getD j []).length ≤ 8796093021952 from fun j hj => by
                    have hj' : j < rs.length := by rw [HR.out.1]; exact hj
                    rw [show (Rws rs).getD j [] = rs[j].cs by simp [Rws, List.getD, hj'], (HR.out.2.2.1 rs[j] (List.getElem_mem hj')).1.1]
                    exact (HR.out.2.2.1 rs[j] (List.getElem_mem hj')).1.2.1)
                  clear hb0 hbk3 hsz3 hrow3
                  go_at_call 14
                  refine (raised_any HR.out BY2.out (Nat.le_trans B2.out.size HB0.out.1) HBK.out HROW.out).mono ?_
                  rintro e' y3 ⟨v, qs, rfl, hrm⟩
                  obtain ⟨ma, mc, hma⟩ := own_sl hrm.l
                  subst hma
                  have KA3 := Lib.hid (show ∀ c, c < y2.heap.size → (∀ j, j < (Rws rs).length → c ≠ bs j) → y3.heap[c]? = y2.heap[c]? from hrm.block)
                  have BT3 := Lib.hid (show Below w2.heap.size w2 y3 from by
                    have q := B3'.out.trans (PKX.out.bel.mono B3'.out.size)
                    exact ⟨hrm.os.trans q.os, hrm.tape.trans q.tape, hrm.output.trans q.output, Nat.le_trans q.size hrm.size, fun c hc => (KA3.out c (Nat.lt_of_lt_of_le hc q.size) (fun j hj => by have := (BSL.out j hj).1; have := HB0.out.1; omega)).trans (q.block c hc)⟩)
                  have LQ3 := Lib.hid (PKX.out.q.keep (W' := y3) (Nat.le_refl _) SZ.out.1 SZ.out.2.1 SZ.out.2.2.1 SZ.out.2.2.2 (fun c h1 h2 => KA3.out c h2 (fun j hj => by have := (BSL.out j hj).2; have := Z4.out.1; omega)))
                  have BK3 := Lib.hid (show Bk y3 rb Cur 56 from (KA3.out rb HBK.out.lt (fun j hj => by have := (BSL.out j hj).1; omega)).trans HBK.out)
                  obtain ⟨ps', hps', hpr'⟩ : ∃ ps', RL y3 (some ⟨rb, 0, none⟩) rn ps' ∧ Rws ps' = upR (Rws rs) := by
                    obtain ⟨ps', q1, q2⟩ := rl_blocks (n := rn) (fun j => upRow j ((Rws rs).getD j [])) BK3.out (HR.out.1 ▸ HR.out.2.1)
                      (fun j hj => by rw [upRow_len]; exact (HROW.out j (by have := RLn.out; omega)).2.2.1)
                      (fun j hj => by have := hrm.inn j (by rw [RLn.out]; exact hj); rwa [if_pos hj] at this)
                      (fun j hj => by rw [upRow_len]; exact RLL.out j hj) (fun j hj => upRow_wf (by have := HR.out.2.1; omega) (RLL.out j hj))
                    exact ⟨ps', q1, by rw [q2]; simp only [upR, RLn.out]⟩
                  have HPS2 := Lib.hid hps'
                  have HPR2 := Lib.hid hpr'
                  have HRM := Lib.hid hrm
                  obtain ⟨⟨F2, f2, d2⟩, hout2⟩ : ∃ r, outR (upR (Rws rs)) al cells = r := ⟨_, rfl⟩
                  have HOUT2 := Lib.hid hout2
                  have OE2 := Lib.hid (show outR (Rws ps') al' cells = (F2, f2, d2) from by rw [hpr', ← outR_er _ al', IN.out.2, outR_er, hout2])
                  have FN2 : F2.length ≤ 4398046511000 := by have := outR_len (upR (Rws rs)) al cells; rw [hout2] at this; have := HA.out.1; simp only at *; omega
                  clear hrm hps' hpr' hout2
                  go_wp2_with fail
                  go_at_call 17
                  refine (KP.out y3 ps' BT3.out HPS2.out).mono ?_
                  rintro e' y4 ⟨⟨xv, rfl, hox⟩, bx4⟩
                  rw [OE2.out] at hox
                  obtain ⟨xa, xc, hxv⟩ := own_sl hox
                  subst hxv
                  obtain ⟨ux, hux⟩ : ∃ u, y4.alloc (.cells #[.slice xa F2.length xc, .int .i64 f2, .int .i64 d2] 44) = u := ⟨_, rfl⟩
                  have XX := Lib.hid (NB.is hux)
                  have BX3 := Lib.hid (show Below y3.heap.size y3 ux from bx4.trans (XX.out.1.mono bx4.size))
                  have OX := Lib.hid (show ux.ownsRow y3.heap.size 51 3 (.slice xa F2.length xc) F2.length (fcs F2) from own_keep hox (fun c hc => XX.out.1.block c (hox.lt c hc).2))
                  have LQX := Lib.hid (LQ3.out.later BX3.out)
                  have BWX := Lib.hid (show Below w.heap.size w ux from (B2.out.trans (BT3.out.mono B2.out.size)).trans (BX3.out.mono (Nat.le_trans B2.out.size BT3.out.size)))
                  have MORE := Lib.hid (HRM.out.rl (w' := ux) (fun c h1 h2 => BX3.out.block c h2) (HR.out.1 ▸ HR.out.2.1) RLn.out RLL.out)
                  clear bx4 hox
                  rw [OE2.out]
                  go_wp2_with fail
                  clear hux
                  go_at_call 18
                  refine (KR.out ux ma mc qs BWX.out MORE.out.1).mono ?_
                  rintro e' y5 ⟨⟨yv, rfl, hoy⟩, bx5⟩
                  rw [MORE.out.2, HOUT2.out] at hoy
                  obtain ⟨ya, yc, hyv⟩ := own_sl hoy
                  subst hyv
                  obtain ⟨uy, huy⟩ : ∃ u, y5.alloc (.cells #[.slice ya F2.length yc, .int .i64 f2, .int .i64 d2] 44) = u := ⟨_, rfl⟩
                  have XY := Lib.hid (NB.is huy)
                  have BY3 := Lib.hid (show Below ux.heap.size ux uy from bx5.trans (XY.out.1.mono bx5.size))
                  have OY := Lib.hid (show uy.ownsRow ux.heap.size 51 3 (.slice ya F2.length yc) F2.length (fcs F2) from own_keep hoy (fun c hc => XY.out.1.block c (hoy.lt c hc).2))
                  have OXY := Lib.hid (own_keep OX.out (fun c hc => BY3.out.block c (OX.out.lt c hc).2))
                  have LQY := Lib.hid (LQX.out.later BY3.out)
                  have BWY := Lib.hid (BWX.out.trans (BY3.out.mono BWX.out.size))
                  obtain ⟨c0, c1, c2⟩ := (XX.out.2.below BY3.out XX.out.2.lt).three
                  obtain ⟨e0, e1, e2⟩ := XY.out.2.three
                  clear bx5 hoy
                  rw [MORE.out.2, HOUT2.out]
                  go_wp2_with fail
                  clear huy
                  go_at_call 20
                  refine (same_any f2 d2 FN2 OXY.out OY.out).mono ?_
                  rintro e' y6 ⟨rfl, bx6⟩
                  have LQ6' := Lib.hid (LQY.out.later bx6)
                  have BW6 := Lib.hid (BWY.out.trans (bx6.mono BWY.out.size))
                  obtain ⟨t0, t1, t2⟩ := LQ6'.out.t.three
                  obtain ⟨b0, b1, b2⟩ := LQ6'.out.b.three
                  clear bx6 c0 c1 c2 e0 e1 e2
                  go_wp2_with fail
                  go_at_call 20
                  refine (same_any f d FL2 LQ6'.out.ot LQ6'.out.ob).mono ?_
                  rintro e' y7 ⟨rfl, bx7⟩
                  have BW7 := Lib.hid (BW6.out.trans (bx7.mono BW6.out.size))
                  clear bx7 t0 t1 t2 b0 b1 b2
                  go_wp2
                  exact bodyPost_ret (v := .bool true) (by simp [results, Try.results4, go_sem]) rfl ⟨rfl, BW7.out⟩
end Go.Proofs.Ytjlnbhmiahegmaa
