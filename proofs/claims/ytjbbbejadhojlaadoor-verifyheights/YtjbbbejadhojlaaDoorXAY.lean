import Derived.Test.YtjbbbejadhojlaaDoorXAX
import Derived.Test.YtjbbbejadhojlaaDoorXAP
import Derived.Deep.Cut
import Derived.Deep.CutBlock
namespace Go.Proofs.YtjbbbejadhojlaaDoor
open Go.RowKit
set_option linter.unusedVariables false
set_option linter.unusedSimpArgs false
theorem set_alloc0 (W : World) (cs : Array Value) (t : TypeId) (v : Value) : (W.alloc (.cells cs t)).setCell ⟨W.heap.size, 0, none⟩ v = W.alloc (.cells (cs.setIfInBounds 0 v) t) := by
  simp [go_sem]
theorem dSet_same {l : Nat → Option Ds} {k : Nat} : dSet l k (l k) = l := by
  funext j
  unfold dSet
  split
  · rename_i z; rw [z]
  · rfl
theorem dDo_ok {day : Int} {s : Ds} {i : In} (hz : (dDo day s i).1 = 0) : (dDo day s i).2 = dBe s i ∧ (dTk i.o.toNat).length ≤ s.st.length := by
  unfold dDo at hz ⊢
  simp only at hz ⊢
  split
  · rename_i c; rw [if_pos c] at hz; simp at hz
  · rename_i c
    rw [if_neg c] at hz
    have le : (dTk i.o.toNat).length ≤ s.st.length := by
      apply Classical.byContradiction
      intro z
      exact c (.inl (by omega))
    split
    · rename_i c; rw [if_pos c] at hz; simp at hz
    · rename_i c
      rw [if_neg c] at hz
      split
      · rename_i c; rw [if_pos c] at hz; simp at hz
      · rename_i c
        rw [if_neg c] at hz
        split
        · rename_i c; rw [if_pos c] at hz; simp at hz
        · exact ⟨rfl, le⟩
/-- A pass, by what wrong says. -/
theorem pass_wr {day : Int} {n : Nat} {i : In} {k : Nat} {l : Nat → Option Ds} (h : dWrO day (l k) i k n ≠ 0) : dPass day n i k l = (dWrO day (l k) i k n, l) := by
  unfold dPass
  cases e : l k with
  | none => rfl
  | some s =>
    rw [e] at h
    simp only [dWrO] at h ⊢
    unfold dWr at h ⊢
    by_cases c : (dDo day s i).1 ≠ 0
    · rw [if_pos c, if_pos c]
    · rw [if_neg c] at h ⊢
      rw [if_neg c]
      by_cases j : isJ i ∧ n ≤ k + 1 + i.a.toNat
      · unfold dOn
        rw [if_pos j, if_pos j]
      · rw [if_neg j] at h
        exact absurd rfl h
theorem pass_ok {day : Int} {n : Nat} {i : In} {k : Nat} {l : Nat → Option Ds} (h : dWrO day (l k) i k n = 0) : ∃ s, l k = some s ∧ (dTk i.o.toNat).length ≤ s.st.length ∧ (isJ i → k + 1 + i.a.toNat < n) ∧ dPass day n i k l = (if (dNx i (l (k + 1)) (dBe s i)).1 ≠ 0 then ((dNx i (l (k + 1)) (dBe s i)).1, l) else if isJ i then ((dHand (dSet l (k + 1) (dNx i (l (k + 1)) (dBe s i)).2 (k + 1 + i.a.toNat)) (dBe s i)).1, dSet (dSet l (k + 1) (dNx i (l (k + 1)) (dBe s i)).2) (k + 1 + i.a.toNat) (dHand (dSet l (k + 1) (dNx i (l (k + 1)) (dBe s i)).2 (k + 1 + i.a.toNat)) (dBe s i)).2) else (0, dSet l (k + 1) (dNx i (l (k + 1)) (dBe s i)).2)) := by
  unfold dPass
  cases e : l k with
  | none => rw [e] at h; simp [dWrO] at h
  | some s =>
    rw [e] at h
    simp only [dWrO] at h ⊢
    unfold dWr at h
    by_cases c : (dDo day s i).1 ≠ 0
    · rw [if_pos c] at h
      exact absurd h c
    · rw [if_neg c] at h
      have hz : (dDo day s i).1 = 0 := by simpa using c
      obtain ⟨e2, le⟩ := dDo_ok hz
      by_cases j : isJ i ∧ n ≤ k + 1 + i.a.toNat
      · rw [if_pos j] at h
        simp at h
      · refine ⟨s, rfl, le, fun q => ?_, ?_⟩
        · apply Classical.byContradiction
          intro z
          exact j ⟨q, by omega⟩
        · rw [if_neg c, e2]
          unfold dOn
          rw [if_neg j]
theorem ba_all : ∀ k, k < 29 → baA k ≤ 1000000000 := all29 (by decide)
theorem inst_bounds {i : In} (h : i.okP) : 0 ≤ i.o ∧ i.o < 29 ∧ 0 ≤ i.a ∧ i.a ≤ 1000000000 := by
  obtain ⟨h1, h2, h3, h4, _⟩ := h
  have := ba_all i.o.toNat (by omega)
  exact ⟨h1, h2, h3, by omega⟩
theorem SsI.far {w : World} {lb n : Nat} {sg : Array Value} {l : Nat → Option Ds} {W : World} (h : SsI w lb n sg l W) {sb : Nat} {cs : Array Value} (hb : BkP W sb cs 72) (n1 : sb ≠ lb) (n2 : w.heap.size < sb) {V : World} (q : ∀ u, u ≠ sb → V.heap[u]? = W.heap[u]?) (b : Below w.heap.size w V) : SsI w lb n sg l V := by
  obtain ⟨cur, k1, k2⟩ := h.bk
  refine ⟨b, h.og, (q _ (by omega)).trans h.pb, ⟨cur, (q _ (Ne.symm n1)).trans k1, k2⟩, fun j hj => ?_⟩
  obtain ⟨c0, c1, c2, t, e0, e1, e2⟩ := h.st j hj
  have qb := q lb (Ne.symm n1)
  exact ⟨c0, c1, c2, t.far hb q, (World.cell?_of_block (a := ⟨lb, j * 3, none⟩) qb).trans e0, (World.cell?_of_block (a := ⟨lb, j * 3 + 1, none⟩) qb).trans e1, (World.cell?_of_block (a := ⟨lb, j * 3 + 2, none⟩) qb).trans e2⟩
set_option maxRecDepth 100000 in
set_option maxHeartbeats 12800000 in
theorem states14_any {w : World} {s : Sg} (hg : GV w s) (ok : SgOk s) : Calls Tryd.prog 21 #[.agg #[.int .i64 s.day, .slice s.ca s.code.length s.cc]] w fun e w' => SsE w s.day s.code e w' := by
  obtain ⟨day, ca, cc, code⟩ := s
  obtain ⟨_, ir⟩ := hg
  obtain ⟨n2, nl, hok⟩ := ok
  simp only at *
  obtain ⟨W0, hW0⟩ : ∃ W, w.alloc (.cells #[.int .i64 day, .slice ca code.length cc] 43) = W := ⟨_, rfl⟩
  have B0 : Below w.heap.size w W0 := by rw [← hW0]; exact allocBP w _
  have P0 : BkP W0 w.heap.size #[.int .i64 day, .slice ca code.length cc] 43 := by rw [← hW0]; exact heapN w _
  have z0 : w.heap.size < W0.heap.size := P0.lt
  have S0 := Lib.hid (ss_start (n := code.length) (by omega) B0 z0 P0)
  rw [set_alloc0] at S0
  have p0 : W0.cell? ⟨w.heap.size, 0, none⟩ = some (.int .i64 day) := by rw [P0.cell]; rfl
  have p1 : W0.cell? ⟨w.heap.size, 1, none⟩ = some (.slice ca code.length cc) := by rw [P0.cell]; rfl
  have CI := Lib.hid (p := ∀ k, k < code.length → ∃ y u o a, ∃ b : Int, ca = some ⟨y, u, none⟩ ∧ code.getD k default = ⟨((o : Nat) : Int), ((a : Nat) : Int), b⟩ ∧ o < 29 ∧ a ≤ 1000000000 ∧ (o = 0 ↔ k + 1 = code.length) ∧ ∀ V, Below w.heap.size w V → V.cell? ⟨y, u + k * 3, none⟩ = some (.int .i64 (o : Int)) ∧ V.cell? ⟨y, u + k * 3 + 1, none⟩ = some (.int .i64 (a : Int)) ∧ V.cell? ⟨y, u + k * 3 + 2, none⟩ = some (.int .i64 b)) (fun k hk => by
    obtain ⟨k1, k2⟩ := hok k hk
    obtain ⟨q1, q2, q3, q4⟩ := inst_bounds k1
    rcases ir.2.2.2.2 with z | ⟨y, u, e, ly, hc⟩
    · omega
    · refine ⟨y, u, (code.getD k default).o.toNat, (code.getD k default).a.toNat, (code.getD k default).b, e, ?_, by omega, by omega, by omega, fun V bb => ?_⟩
      · have e1 : (((code.getD k default).o.toNat : Nat) : Int) = (code.getD k default).o := by omega
        have e2 : (((code.getD k default).a.toNat : Nat) : Int) = (code.getD k default).a := by omega
        rw [e1, e2]
      · have e1 : (((code.getD k default).o.toNat : Nat) : Int) = (code.getD k default).o := by omega
        have e2 : (((code.getD k default).a.toNat : Nat) : Int) = (code.getD k default).a := by omega
        rw [e1, e2]
        have h0 := hc k hk 0 (by omega)
        have h1 := hc k hk 1 (by omega)
        have h2 := hc k hk 2 (by omega)
        rw [Nat.add_zero] at h0
        exact ⟨(bb.cell (p := ⟨y, u + k * 3, none⟩) ly).trans h0, (bb.cell (p := ⟨y, u + k * 3 + 1, none⟩) ly).trans h1, (bb.cell (p := ⟨y, u + k * 3 + 2, none⟩) ly).trans h2⟩)
  obtain ⟨n, hn⟩ : ∃ n, code.length = n := ⟨_, rfl⟩
  have HN := Lib.hid hn
  have nl2 : n ≤ 262144 := by omega
  have n22 : 2 ≤ n := by omega
  have HW := Lib.hid hW0
  simp only [hn] at p1 S0 CI HW ⊢
  clear P0 B0 hW0 ir hok n2 nl hn
  have MK := make_st n (by omega)
  have RT := Lib.hid (p := ∀ (k : Nat) (V : World), k < n → (dRun day code k).1 = 0 → Below w.heap.size w V → (dPass day n (code.getD k default) k (dRun day code k).2.2).1 ≠ 0 → SsE w day code (.returned (.tuple #[.slice none 0 0, .int .i64 (k : Int), .int .i64 (dPass day n (code.getD k default) k (dRun day code k).2.2).1])) V) (fun k V hk h0 bb ne => by
    have e : dRun day code (k + 1) = ((dPass day n (code.getD k default) k (dRun day code k).2.2).1, k, (dPass day n (code.getD k default) k (dRun day code k).2.2).2) := by
      show (if (dRun day code k).1 ≠ 0 then dRun day code k else _) = _
      rw [if_neg (by simp [h0]), HN.out]
    have e2 := dRun_off (day := day) (code := code) (k := k + 1) (by rw [e]; exact ne) n (by omega)
    refine ⟨bb, .inl ?_⟩
    rw [HN.out, e2, e]
    exact ⟨ne, rfl⟩)
  have NX := Lib.hid (p := ∀ k, (dRun day code k).1 = 0 → (dPass day n (code.getD k default) k (dRun day code k).2.2).1 = 0 → (dRun day code (k + 1)).1 = 0 ∧ (dRun day code (k + 1)).2.2 = (dPass day n (code.getD k default) k (dRun day code k).2.2).2) (fun k h0 h1 => by
    have e : dRun day code (k + 1) = ((dPass day n (code.getD k default) k (dRun day code k).2.2).1, k, (dPass day n (code.getD k default) k (dRun day code k).2.2).2) := by
      show (if (dRun day code k).1 ≠ 0 then dRun day code k else _) = _
      rw [if_neg (by simp [h0]), HN.out]
    rw [e]
    exact ⟨h1, rfl⟩)
  have FE := Lib.hid (p := ∀ lb V, SsI w lb n #[.int .i64 day, .slice ca n cc] (dRun day code n).2.2 V → (dRun day code n).1 = 0 → SsE w day code (.returned (.tuple #[.slice (some ⟨lb, 0, none⟩) n n, .int .i64 0, .int .i64 0])) V) (fun lb V h h0 => ⟨h.bel, .inr (by rw [HN.out]; exact ⟨h0, lb, rfl, h.og, h.hts⟩)⟩)
  have DL := Lib.hid (p := ∀ k j d, j < n → (dRun day code k).2.2 j = some d → d.st.length ≤ 262144 ∧ d.sl.length ≤ 262144) (fun k j d hj e => by have := dRun_len day code k j d e; omega)
  have LD := Lib.hid (fun k => dRun_len day code k)
  obtain ⟨m0, hm0⟩ : ∃ m0, W0.heap.size = m0 := ⟨_, rfl⟩
  have c00 : (W0.alloc (.cells (madeCells #[.bool false, .slice none 0 0, .slice none 0 0] (n * 3)) 72)).cell? ⟨W0.heap.size, 0, none⟩ = some (.bool false) := by
    have b0 : BkP (W0.alloc (.cells (madeCells #[.bool false, .slice none 0 0, .slice none 0 0] (n * 3)) 72)) W0.heap.size _ 72 := heapN _ _
    rw [b0.cell]
    exact made_at (z := #[.bool false, .slice none 0 0, .slice none 0 0]) (n := n) (j := 0) rfl (by omega) (i := 0) (by omega)
  have c01 : (W0.alloc (.cells (madeCells #[.bool false, .slice none 0 0, .slice none 0 0] (n * 3)) 72)).frozen? ⟨W0.heap.size, 0, none⟩ = false := by
    have b0 : BkP (W0.alloc (.cells (madeCells #[.bool false, .slice none 0 0, .slice none 0 0] (n * 3)) 72)) W0.heap.size _ 72 := heapN _ _
    exact b0.frozen 0
  have n0 : (0 : Int) < (n : Int) := by omega
  clear hm0
  go_enter Tryd.func21, Tryd.ntmps21
  go_upto_region 1 with fail
  rw [HW.out]
  go_wp2
  generalize hlb : W0.heap.size = lb at *
  clear c00 c01 p0 p1
  go_loopw [7] (fun t wr => ∃ k : Nat, k ≤ n ∧ t = .int .i64 (k : Int) ∧ RowKit.Hid ((dRun day code k).1 = 0 ∧ SsI w lb n #[.int .i64 day, .slice ca n cc] (dRun day code k).2.2 wr)) (fun t _ => n - (intOf t).toNat)
  case atStart => exact ⟨0, by omega, rfl, rfl, S0.out⟩
  case round =>
    clear S0 MK
    rename World => wr
    obtain ⟨k, hk, rfl, hH⟩ := hrel
    obtain ⟨d0, hS⟩ := hH.out
    by_cases hlt : k < n
    · obtain ⟨y, u, o, a, b, rfl, ei, ho, ha, hend, hc⟩ := CI.out k hlt
      obtain ⟨c0, c1, c2⟩ := hc wr hS.bel
      have kc : (k : Int) < (n : Int) := by omega
      have k0 : ¬ (k : Int) < 0 := by omega
      have ks : IntKind.i64.wrap ((k : Int) + 1) = ((k + 1 : Nat) : Int) := by simp [IntKind.wrap, IntKind.bits, IntKind.signed]; omega
      have rt := RT.out k
      have nx := NX.out k d0
      have dl := DL.out k
      have ld := LD.out k
      rw [ei] at rt nx
      obtain ⟨l, hl⟩ : ∃ l, (dRun day code k).2.2 = l := ⟨_, rfl⟩
      rw [hl] at rt nx dl ld hS
      have RT2 := Lib.hid (fun V bb ne => rt V hlt d0 bb ne)
      have NX2 := Lib.hid nx
      have DL2 := Lib.hid dl
      have LD2 := Lib.hid ld
      have p1 : wr.cell? ⟨w.heap.size, 1, none⟩ = some (.slice (some ⟨y, u, none⟩) n cc) := by rw [hS.pb.cell]; rfl
      obtain ⟨W1, hW1⟩ : ∃ W, wr.alloc (.cells #[.int .i64 (o : Int), .int .i64 (a : Int), .int .i64 b] 51) = W := ⟨_, rfl⟩
      obtain ⟨ib, hib⟩ : ∃ ib, wr.heap.size = ib := ⟨_, rfl⟩
      have S1 : SsI w lb n #[.int .i64 day, .slice (some ⟨y, u, none⟩) n cc] l W1 := by rw [← hW1]; exact hS.lat (allocBP _ _)
      have I1 : BkP W1 ib #[.int .i64 (o : Int), .int .i64 (a : Int), .int .i64 b] 51 := by rw [← hW1, ← hib]; exact heapN _ _
      have IG : lb < ib := by
        obtain ⟨cur, k1, _⟩ := hS.bk
        rw [← hib]
        exact k1.lt
      have H1 := Lib.hid hW1
      have H2 := Lib.hid hib
      clear hH rt nx dl ld hS hW1 hib hl
      go_upto_region 8 with fail
      rw [H1.out, H2.out]
      clear c0 c1 c2 p1
      go_cut [9] (fun ev wx => ev = .int .i64 (dWrO day (l k) ⟨(o : Int), (a : Int), b⟩ k n) ∧ RowKit.Hid (SsI w lb n #[.int .i64 day, .slice (some ⟨y, u, none⟩) n cc] l wx ∧ BkP wx ib #[.int .i64 (o : Int), .int .i64 (a : Int), .int .i64 b] 51))
      case first =>
        obtain ⟨c0, c1, c2, tv, e0, e1, e2⟩ := S1.st k hlt
        have CS := Lib.hid (p := ∀ V, Below W1.heap.size W1 V → (V.cell? ⟨lb, k * 3, none⟩ = some c0 ∧ V.cell? ⟨lb, k * 3 + 1, none⟩ = some c1 ∧ V.cell? ⟨lb, k * 3 + 2, none⟩ = some c2) ∧ (V.cell? ⟨ib, 0, none⟩ = some (.int .i64 (o : Int)) ∧ V.cell? ⟨ib, 1, none⟩ = some (.int .i64 (a : Int)) ∧ V.cell? ⟨ib, 2, none⟩ = some (.int .i64 b)) ∧ V.cell? ⟨w.heap.size, 0, none⟩ = some (.int .i64 day)) (fun V bb => ⟨⟨(bb.cell (p := ⟨lb, k * 3, none⟩) (cell_ltR e0)).trans e0, (bb.cell (p := ⟨lb, k * 3 + 1, none⟩) (cell_ltR e1)).trans e1, (bb.cell (p := ⟨lb, k * 3 + 2, none⟩) (cell_ltR e2)).trans e2⟩, box_3R (I1.lat bb), by rw [(S1.pb.lat bb).cell]; rfl⟩)
        have KW := Lib.hid (p := ∀ V, Below W1.heap.size W1 V → Calls Tryd.prog 32 #[.agg #[c0, c1, c2], .agg #[.int .i64 (o : Int), .int .i64 (a : Int), .int .i64 b], .int .i64 day, .int .i64 (k : Int), .int .i64 (n : Int)] V fun e w' => e = .returned (.int .i64 (dWrO day (l k) ⟨(o : Int), (a : Int), b⟩ k n)) ∧ Below V.heap.size V w') (fun V bb => wrong14_all (tv.lat bb) (fun d q => by have := DL2.out k d hlt q; omega) ho ha day (by omega) (by omega))
        have LT := Lib.hid (p := ∀ V, Below W1.heap.size W1 V → SsI w lb n #[.int .i64 day, .slice (some ⟨y, u, none⟩) n cc] l V ∧ BkP V ib #[.int .i64 (o : Int), .int .i64 (a : Int), .int .i64 b] 51) (fun V bb => ⟨S1.lat bb, I1.lat bb⟩)
        obtain ⟨⟨x0, x1, x2⟩, ⟨y0, y1, y2⟩, z0⟩ := CS.out W1 (Below.refl _ _)
        clear S1 I1 tv e0 e1 e2
        generalize dWrO day (l k) ⟨(o : Int), (a : Int), b⟩ k n = er at *
        go_region_held3 (fun w' => (w'.cell? ⟨lb, k * 3, none⟩ = some c0 ∧ w'.cell? ⟨lb, k * 3 + 1, none⟩ = some c1 ∧ w'.cell? ⟨lb, k * 3 + 2, none⟩ = some c2) ∧ (w'.cell? ⟨ib, 0, none⟩ = some (.int .i64 (o : Int)) ∧ w'.cell? ⟨ib, 1, none⟩ = some (.int .i64 (a : Int)) ∧ w'.cell? ⟨ib, 2, none⟩ = some (.int .i64 b)) ∧ w'.cell? ⟨w.heap.size, 0, none⟩ = some (.int .i64 day))
          (go_keep)
          (first | (go_at_call 32; refine (KW.out _ (by first | exact drew1R _ | exact Below.refl _ _)).mono ?_; rintro e w6 ⟨rfl, h2⟩; have B6 := Lib.hid (p := Below W1.heap.size W1 w6) (by first | exact (drew1R W1).trans h2 | exact h2); obtain ⟨⟨v0, v1, v2⟩, ⟨v3, v4, v5⟩, v6⟩ := CS.out w6 B6.out; clear h2))
        all_goals
          go_wp2
          go_meet
          case rel => exact ⟨rfl, LT.out _ (by first | exact B6.out | exact B6.out.trans ⟨rfl, rfl, rfl, Nat.le_refl _, fun _ _ => rfl⟩)⟩
      case rest =>
        obtain ⟨hcv, hcut⟩ := hcut
        subst hcv
        obtain ⟨S2, I2⟩ := hcut.out
        clear S1 I1 hcut H1
        by_cases we : dWrO day (l k) ⟨(o : Int), (a : Int), b⟩ k n ≠ 0
        · have pw := pass_wr (day := day) (n := n) (i := ⟨(o : Int), (a : Int), b⟩) (k := k) (l := l) we
          have R := RT2.out wc S2.bel (by rw [pw]; exact we)
          rw [pw] at R
          have R3 := Lib.hid R
          clear R pw S2 I2
          generalize dWrO day (l k) ⟨(o : Int), (a : Int), b⟩ k n = er at *
          have we2 : (er != 0) = true := by simpa using we
          go_wp2
          go_ret3
          exact R3.out
        · have we : dWrO day (l k) ⟨(o : Int), (a : Int), b⟩ k n = 0 := by simpa using we
          obtain ⟨s, es, tkl, jlt, pe⟩ := pass_ok (day := day) (n := n) (i := ⟨(o : Int), (a : Int), b⟩) (k := k) (l := l) we
          have ls := DL2.out k s hlt es
          have ls2 := LD2.out k s es
          rw [we]
          clear we
          have eo : (⟨(o : Int), (a : Int), b⟩ : In).o.toNat = o := rfl
          have ea : (⟨(o : Int), (a : Int), b⟩ : In).a.toNat = a := rfl
          obtain ⟨s', hs'⟩ : ∃ s', dBe s ⟨(o : Int), (a : Int), b⟩ = s' := ⟨_, rfl⟩
          have lb' : s'.st.length ≤ 300000 ∧ s'.sl.length ≤ 300000 ∧ s'.st.length ≤ k + 1 ∧ s'.sl.length ≤ k + 1 := by
            have := dBe_len s ⟨(o : Int), (a : Int), b⟩
            rw [hs'] at this
            omega
          obtain ⟨k1, hk1⟩ : ∃ k1, k + 1 = k1 := ⟨_, rfl⟩
          obtain ⟨tt, htt⟩ : ∃ tt, k1 + a = tt := ⟨_, rfl⟩
          simp only [eo, ea, hs', hk1, htt] at pe jlt tkl
          have HS := Lib.hid hs'
          have PE := Lib.hid pe
          have JL := Lib.hid jlt
          have HK := Lib.hid hk1
          have HT := Lib.hid htt
          have ks1 : IntKind.i64.wrap ((k : Int) + 1) = (k1 : Int) := by rw [ks, hk1]
          clear ks pe jlt
          go_upto_region 11 with fail
          go_cut [10] (fun sv wx => ∃ sb sa sc ka kc, sv = .pointer (some ⟨sb, 0, none⟩) ∧ RowKit.Hid (SsI w lb n #[.int .i64 day, .slice (some ⟨y, u, none⟩) n cc] l wx ∧ BkP wx ib #[.int .i64 (o : Int), .int .i64 (a : Int), .int .i64 b] 51 ∧ BkP wx sb #[.bool true, .slice sa s'.st.length sc, .slice ka s'.sl.length kc] 72 ∧ StV wx sa sc ka s' ∧ lb < sb))
          case first =>
            obtain ⟨c0, c1, c2, tv, e0, e1, e2⟩ := S2.st k hlt
            rw [es] at tv
            obtain ⟨a0, q0, ka0, kc0, hv0, rfl, rfl, rfl⟩ : ∃ a0 q0 ka0 kc0, StV wc a0 q0 ka0 s ∧ c0 = .bool true ∧ c1 = .slice a0 s.st.length q0 ∧ c2 = .slice ka0 s.sl.length kc0 := by
              rcases tv with ⟨z, _⟩ | ⟨d, a0, q0, ka0, kc0, z, e, hv⟩
              · cases z
              · simp only [Option.some.injEq] at z
                subst z
                simp only [List.cons.injEq, and_true] at e
                exact ⟨a0, q0, ka0, kc0, hv, e.1, e.2.1, e.2.2⟩
            have CS := Lib.hid (p := ∀ V, (∃ g, Below g wc V ∧ lb < g ∧ ib < g) → (V.cell? ⟨lb, k * 3, none⟩ = some (.bool true) ∧ V.cell? ⟨lb, k * 3 + 1, none⟩ = some (.slice a0 s.st.length q0) ∧ V.cell? ⟨lb, k * 3 + 2, none⟩ = some (.slice ka0 s.sl.length kc0)) ∧ (V.cell? ⟨ib, 0, none⟩ = some (.int .i64 (o : Int)) ∧ V.cell? ⟨ib, 1, none⟩ = some (.int .i64 (a : Int)) ∧ V.cell? ⟨ib, 2, none⟩ = some (.int .i64 b))) (fun V bb => by
              obtain ⟨g, bb, g1, g2⟩ := bb
              exact ⟨⟨(bb.cell (p := ⟨lb, k * 3, none⟩) g1).trans e0, (bb.cell (p := ⟨lb, k * 3 + 1, none⟩) g1).trans e1, (bb.cell (p := ⟨lb, k * 3 + 2, none⟩) g1).trans e2⟩, box_3R ((bb.block ib g2).trans I2)⟩)
            have gl : lb < wc.heap.size := cell_ltR e0
            have gi : ib < wc.heap.size := I2.lt
            have KB := Lib.hid (p := ∀ V, Below wc.heap.size wc V → Calls Tryd.prog 33 #[.agg #[.bool true, .slice a0 s.st.length q0, .slice ka0 s.sl.length kc0], .agg #[.int .i64 (o : Int), .int .i64 (a : Int), .int .i64 b]] V fun e w6 => ∃ xa xc xka xkc, e = .returned (.agg #[.bool true, .slice xa s'.st.length xc, .slice xka s'.sl.length xkc]) ∧ RowKit.Hid (StV w6 xa xc xka s' ∧ Below V.heap.size V w6)) (fun V bb => (behind14_any (hv0.lat bb) (by omega) (by omega) (a := a) (b := b) ho (by omega)).mono (fun e w6 z => by
              rw [HS.out] at z
              obtain ⟨xa, xc, xka, xkc, z1, z2, z3⟩ := z
              exact ⟨xa, xc, xka, xkc, z1, z2, z3⟩))
            have FA := Lib.hid (p := ∀ w6 xa xc xka xkc, Below wc.heap.size wc w6 → StV w6 xa xc xka s' → ∃ sb sa sc ka kc, Value.pointer (some ⟨w6.heap.size, 0, none⟩) = .pointer (some ⟨sb, 0, none⟩) ∧ RowKit.Hid (SsI w lb n #[.int .i64 day, .slice (some ⟨y, u, none⟩) n cc] l (w6.alloc (.cells #[.bool true, .slice xa s'.st.length xc, .slice xka s'.sl.length xkc] 72)) ∧ BkP (w6.alloc (.cells #[.bool true, .slice xa s'.st.length xc, .slice xka s'.sl.length xkc] 72)) ib #[.int .i64 (o : Int), .int .i64 (a : Int), .int .i64 b] 51 ∧ BkP (w6.alloc (.cells #[.bool true, .slice xa s'.st.length xc, .slice xka s'.sl.length xkc] 72)) sb #[.bool true, .slice sa s'.st.length sc, .slice ka s'.sl.length kc] 72 ∧ StV (w6.alloc (.cells #[.bool true, .slice xa s'.st.length xc, .slice xka s'.sl.length xkc] 72)) sa sc ka s' ∧ lb < sb)) (fun w6 xa xc xka xkc b6 hv => by
              have al := allocBP w6 (.cells #[.bool true, .slice xa s'.st.length xc, .slice xka s'.sl.length xkc] 72)
              exact ⟨w6.heap.size, xa, xc, xka, xkc, rfl, (S2.lat b6).lat al, (I2.lat b6).lat al, heapN _ _, hv.lat al, by have := b6.size; omega⟩)
            have FB := Lib.hid (p := ∀ w6 xa xc xka xkc, Below (wc.drew.alloc (.cells #[.bool false, .slice none 0 0, .slice none 0 0] 72)).heap.size (wc.drew.alloc (.cells #[.bool false, .slice none 0 0, .slice none 0 0] 72)) w6 → StV w6 xa xc xka s' → (BkP w6 wc.heap.size #[.bool false, .slice none 0 0, .slice none 0 0] 72 ∧ Below wc.heap.size wc (set3 w6 wc.heap.size 0 (.bool true) (.slice xa s'.st.length xc) (.slice xka s'.sl.length xkc))) ∧ ∃ sb sa sc ka kc, Value.pointer (some ⟨wc.heap.size, 0, none⟩) = .pointer (some ⟨sb, 0, none⟩) ∧ RowKit.Hid (SsI w lb n #[.int .i64 day, .slice (some ⟨y, u, none⟩) n cc] l (set3 w6 wc.heap.size 0 (.bool true) (.slice xa s'.st.length xc) (.slice xka s'.sl.length xkc)) ∧ BkP (set3 w6 wc.heap.size 0 (.bool true) (.slice xa s'.st.length xc) (.slice xka s'.sl.length xkc)) ib #[.int .i64 (o : Int), .int .i64 (a : Int), .int .i64 b] 51 ∧ BkP (set3 w6 wc.heap.size 0 (.bool true) (.slice xa s'.st.length xc) (.slice xka s'.sl.length xkc)) sb #[.bool true, .slice sa s'.st.length sc, .slice ka s'.sl.length kc] 72 ∧ StV (set3 w6 wc.heap.size 0 (.bool true) (.slice xa s'.st.length xc) (.slice xka s'.sl.length xkc)) sa sc ka s' ∧ lb < sb)) (fun w6 xa xc xka xkc b6 hv => by
              have al : Below wc.heap.size wc (wc.drew.alloc (.cells #[.bool false, .slice none 0 0, .slice none 0 0] 72)) := (drew1R wc).trans (allocBP wc.drew _)
              have b6' : Below wc.heap.size wc w6 := al.trans (b6.mono al.size)
              have zb : BkP w6 wc.heap.size #[.bool false, .slice none 0 0, .slice none 0 0] 72 := BkP.lat (heapN wc.drew _) b6
              have bs : Below wc.heap.size wc (set3 w6 wc.heap.size 0 (.bool true) (.slice xa s'.st.length xc) (.slice xka s'.sl.length xkc)) := by
                unfold set3
                exact ((b6'.setCell (Nat.le_refl _) _).setCell (Nat.le_refl _) _).setCell (Nat.le_refl _) _
              have s6 := S2.lat b6'
              have fr : ∀ v, v ≠ wc.heap.size → (set3 w6 wc.heap.size 0 (.bool true) (.slice xa s'.st.length xc) (.slice xka s'.sl.length xkc)).heap[v]? = w6.heap[v]? := fun v hv => set3_far hv
              have sv := TV.far (t := some s') (cs := [.bool true, .slice xa s'.st.length xc, .slice xka s'.sl.length xkc]) (.inr ⟨s', xa, xc, xka, xkc, rfl, rfl, hv⟩) zb fr
              have hv2 : StV (set3 w6 wc.heap.size 0 (.bool true) (.slice xa s'.st.length xc) (.slice xka s'.sl.length xkc)) xa xc xka s' := by
                rcases sv with ⟨z, _⟩ | ⟨d, a2, c2, ka2, kc2, z, e, h2⟩
                · cases z
                · simp only [Option.some.injEq] at z
                  subst z
                  simp only [List.cons.injEq, Value.slice.injEq, and_true, true_and] at e
                  obtain ⟨⟨e1, e2⟩, e3, e4⟩ := e
                  subst e1 e2 e3
                  exact h2
              refine ⟨⟨zb, bs⟩, wc.heap.size, xa, xc, xka, xkc, rfl, s6.far zb (by omega) (by have := S2.og; omega) fr (S2.bel.trans (bs.mono S2.bel.size)), (fr ib (by omega)).trans (I2.lat b6'), ?_, hv2, gl⟩
              have := set3_blk (o := 0) (d0 := .bool true) (d1 := .slice xa s'.st.length xc) (d2 := .slice xka s'.sl.length xkc) zb (by simp)
              simpa using this)
            obtain ⟨⟨x0, x1, x2⟩, ⟨y0, y1, y2⟩⟩ := CS.out wc ⟨_, Below.refl _ _, gl, gi⟩
            clear S2 I2 tv e0 e1 e2 hv0
            refine wp_region_held_drew (S := (fun w' => (w'.cell? ⟨lb, k * 3, none⟩ = some (.bool true) ∧ w'.cell? ⟨lb, k * 3 + 1, none⟩ = some (.slice a0 s.st.length q0) ∧ w'.cell? ⟨lb, k * 3 + 2, none⟩ = some (.slice ka0 s.sl.length kc0)) ∧ (w'.cell? ⟨ib, 0, none⟩ = some (.int .i64 (o : Int)) ∧ w'.cell? ⟨ib, 1, none⟩ = some (.int .i64 (a : Int)) ∧ w'.cell? ⟨ib, 2, none⟩ = some (.int .i64 b)))) (by kernel_rfl) ?_ (fun hHeld => ?_)
            · (try dsimp only)
              exact ⟨⟨x0, x1, x2⟩, ⟨y0, y1, y2⟩⟩
            refine wpAnyH_take (i := 0) (oi := { dst := some 44, op := Op.move (Operand.tmp 6), type := 66, pos := "ref.go:178", after := #[], guard := none }) (v := ?_) rfl (by kernel_rfl) (by kernel_rfl) (by kernel_rfl) (fun _ _ _ h => h) (Or.inl ⟨by rfl, ?_⟩) (by assumption) ?_
            rotate_left 1
            · intro w' hSw; (try dsimp only at hSw); go_simp; try with_reducible rfl
            (try simp only [Act.put, List.setIfInBounds_toArray, List.set_cons_zero, List.set_cons_succ])
            refine wpAnyH_take (i := 1) (oi := { dst := some 45, op := Op.move (Operand.tmp 7), type := 3, pos := "ref.go:178", after := #[], guard := none }) (v := ?_) rfl (by kernel_rfl) (by kernel_rfl) (by kernel_rfl) (fun _ _ _ h => h) (Or.inl ⟨by rfl, ?_⟩) (by assumption) ?_
            rotate_left 1
            · intro w' hSw; (try dsimp only at hSw); go_simp; try with_reducible rfl
            (try simp only [Act.put, List.setIfInBounds_toArray, List.set_cons_zero, List.set_cons_succ])
            refine wpAnyH_take (i := 2) (oi := { dst := some 46, op := Op.indexAddr 66 (Operand.tmp 44) (Operand.tmp 45), type := 0, pos := "ref.go:178", after := #[{ on := 0, ground := Ground.data }, { on := 1, ground := Ground.data }], guard := none }) (v := ?_) rfl (by kernel_rfl) (by kernel_rfl) (by kernel_rfl) (fun _ _ _ h => h) (Or.inl ⟨by rfl, ?_⟩) (by assumption) ?_
            rotate_left 1
            · intro w' hSw; (try dsimp only at hSw); go_simp; try with_reducible rfl
            (try simp only [Act.put, List.setIfInBounds_toArray, List.set_cons_zero, List.set_cons_succ])
            refine wpAnyH_take (i := 3) (oi := { dst := some 47, op := Op.load 72 (Operand.tmp 46), type := 72, pos := "ref.go:178", after := #[{ on := 2, ground := Ground.data }], guard := none }) (v := ?_) rfl (by kernel_rfl) (by kernel_rfl) (by kernel_rfl) (fun _ _ _ h => h) (Or.inl ⟨by rfl, ?_⟩) (by assumption) ?_
            rotate_left 1
            · intro w' hSw; (try dsimp only at hSw); go_simp; try with_reducible rfl
            (try simp only [Act.put, List.setIfInBounds_toArray, List.set_cons_zero, List.set_cons_succ])
            refine wpAnyH_take (i := 4) (oi := { dst := some 48, op := Op.load 51 (Operand.tmp 8), type := 51, pos := "ref.go:178", after := #[], guard := none }) (v := ?_) rfl (by kernel_rfl) (by kernel_rfl) (by kernel_rfl) (fun _ _ _ h => h) (Or.inl ⟨by rfl, ?_⟩) (by assumption) ?_
            rotate_left 1
            · intro w' hSw; (try dsimp only at hSw); go_simp; try with_reducible rfl
            (try simp only [Act.put, List.setIfInBounds_toArray, List.set_cons_zero, List.set_cons_succ])
            refine wpAnyH_ready (rs := [5, 6]) (by kernel_rfl) (by simp) ?_
            refine AllReadyH.cons (o := { dst := some 49, op := Op.call { callee := Callee.value (Operand.func 33), args := #[Operand.tmp 47, Operand.tmp 48], argTypes := #[72, 51] }, type := 72, pos := "ref.go:178", after := #[{ on := 3, ground := Ground.data }, { on := 4, ground := Ground.data }], guard := none }) rfl (fun K' hK => ?_) (AllReadyH.cons (o := { dst := some 10, op := Op.alloc 72, type := 0, pos := "ref.go:178", after := #[], guard := none }) rfl (fun K' hK => ?_) AllReadyH.nil)
            · go_simp
              go_at_call 33; refine (KB.out _ (drew1R wc)).mono ?_; rintro e w6 ⟨xa, xc, xka, xkc, rfl, o6⟩; have b6 : Below wc.heap.size wc w6 := Below.trans (drew1R wc) (Below.mono o6.out.2 (Below.size (drew1R wc))); have FX := FA.out w6 xa xc xka xkc b6 o6.out.1
              (try go_wp2_with fail)
              refine hK.out _ _ ?_ (fun hHeld => ?_)
              · (try dsimp only)
                exact CS.out w6 ⟨_, b6, gl, gi⟩
              clear hK K'
              (try simp only [Act.put, List.setIfInBounds_toArray, List.set_cons_zero, List.set_cons_succ])
              refine wpAnyH_ready (rs := [6]) (by kernel_rfl) (by simp) ?_
              refine AllReadyH.cons (o := { dst := some 10, op := Op.alloc 72, type := 0, pos := "ref.go:178", after := #[], guard := none }) rfl (fun K' hK => ?_) AllReadyH.nil
              go_simp
              refine hK.out _ _ ?_ (fun hHeld => ?_)
              · (try dsimp only)
                exact CS.out _ ⟨_, b6.trans ((allocBP w6 _).mono b6.size), gl, gi⟩
              clear hK K'
              (try simp only [Act.put, List.setIfInBounds_toArray, List.set_cons_zero, List.set_cons_succ])
              refine wpAnyH_ready (rs := [7]) (by kernel_rfl) (by simp) ?_
              refine AllReadyH.cons (o := { dst := none, op := Op.store 72 (Operand.tmp 10) (Operand.tmp 49), type := 0, pos := "ref.go:178", after := #[{ on := 6, ground := Ground.data }, { on := 5, ground := Ground.data }, { on := 5, ground := Ground.chain }, { on := 0, ground := Ground.phase }, { on := 1, ground := Ground.phase }, { on := 2, ground := Ground.phase }, { on := 3, ground := Ground.phase }, { on := 4, ground := Ground.phase }, { on := 5, ground := Ground.phase }, { on := 6, ground := Ground.phase }], guard := none }) rfl (fun K' hK => ?_) AllReadyH.nil
              go_simp
              refine hK.out _ _ ?_ (fun hHeld => ?_)
              · (try dsimp only)
                exact CS.out _ ⟨_, b6.trans ((allocBP w6 _).mono b6.size), gl, gi⟩
              clear hK K'
              (try simp only [Act.put, List.setIfInBounds_toArray, List.set_cons_zero, List.set_cons_succ])
              refine wpAnyH_done (by kernel_rfl) ?_ _
              go_wp2
              go_meet
              case rel => exact FX
            · go_simp
              refine hK.out _ _ ?_ (fun hHeld => ?_)
              · (try dsimp only)
                exact CS.out _ ⟨_, ((drew1R wc).trans (allocBP wc.drew (.cells #[.bool false, .slice none 0 0, .slice none 0 0] 72))), gl, gi⟩
              clear hK K'
              (try simp only [Act.put, List.setIfInBounds_toArray, List.set_cons_zero, List.set_cons_succ])
              refine wpAnyH_ready (rs := [5]) (by kernel_rfl) (by simp) ?_
              refine AllReadyH.cons (o := { dst := some 49, op := Op.call { callee := Callee.value (Operand.func 33), args := #[Operand.tmp 47, Operand.tmp 48], argTypes := #[72, 51] }, type := 72, pos := "ref.go:178", after := #[{ on := 3, ground := Ground.data }, { on := 4, ground := Ground.data }], guard := none }) rfl (fun K' hK => ?_) AllReadyH.nil
              go_simp
              go_at_call 33; refine (KB.out _ ((drew1R wc).trans (allocBP wc.drew (.cells #[.bool false, .slice none 0 0, .slice none 0 0] 72)))).mono ?_; rintro e w6 ⟨xa, xc, xka, xkc, rfl, o6⟩; have b6 : Below wc.heap.size wc w6 := Below.trans ((drew1R wc).trans (allocBP wc.drew (.cells #[.bool false, .slice none 0 0, .slice none 0 0] 72))) (Below.mono o6.out.2 (Below.size ((drew1R wc).trans (allocBP wc.drew (.cells #[.bool false, .slice none 0 0, .slice none 0 0] 72))))); obtain ⟨⟨zb6, bs6⟩, FX⟩ := FB.out w6 xa xc xka xkc o6.out.2 o6.out.1; obtain ⟨m0, m1, m2⟩ := box_3R zb6; have fz0 := zb6.frozen 0; have fz1 := zb6.frozen 1; have fz2 := zb6.frozen 2
              (try go_wp2_with fail)
              refine hK.out _ _ ?_ (fun hHeld => ?_)
              · (try dsimp only)
                exact CS.out w6 ⟨_, b6, gl, gi⟩
              clear hK K'
              (try simp only [Act.put, List.setIfInBounds_toArray, List.set_cons_zero, List.set_cons_succ])
              refine wpAnyH_ready (rs := [7]) (by kernel_rfl) (by simp) ?_
              refine AllReadyH.cons (o := { dst := none, op := Op.store 72 (Operand.tmp 10) (Operand.tmp 49), type := 0, pos := "ref.go:178", after := #[{ on := 6, ground := Ground.data }, { on := 5, ground := Ground.data }, { on := 5, ground := Ground.chain }, { on := 0, ground := Ground.phase }, { on := 1, ground := Ground.phase }, { on := 2, ground := Ground.phase }, { on := 3, ground := Ground.phase }, { on := 4, ground := Ground.phase }, { on := 5, ground := Ground.phase }, { on := 6, ground := Ground.phase }], guard := none }) rfl (fun K' hK => ?_) AllReadyH.nil
              go_simp
              refine hK.out _ _ ?_ (fun hHeld => ?_)
              · (try dsimp only)
                exact CS.out _ ⟨_, bs6, gl, gi⟩
              clear hK K'
              (try simp only [Act.put, List.setIfInBounds_toArray, List.set_cons_zero, List.set_cons_succ])
              refine wpAnyH_done (by kernel_rfl) ?_ _
              go_wp2
              go_meet
              case rel => exact FX
          case rest =>
            obtain ⟨sb, sa, sc, ka, kc, rfl, hq⟩ := hcut
            obtain ⟨S3, I3, B3, V3, lsb⟩ := hq.out
            obtain ⟨i0, i1, i2⟩ := box_3R I3
            have ibn : ib ≠ sb := fun z => by
              rw [z] at I3
              exact bk_ne I3 B3 (by decide) rfl
            have kl1 : k1 < n ∨ o = 0 := by
              by_cases z : o = 0
              · exact .inr z
              · exact .inl (by
                  have : ¬ k + 1 = n := fun q => z (hend.2 q)
                  omega)
            clear hq S2 I2
            have R0 := Lib.hid (p := SsI w lb n #[.int .i64 day, .slice (some ⟨y, u, none⟩) n cc] l wc ∧ BkP wc ib #[.int .i64 (o : Int), .int .i64 (a : Int), .int .i64 b] 51 ∧ BkP wc sb #[.bool true, .slice sa s'.st.length sc, .slice ka s'.sl.length kc] 72 ∧ StV wc sa sc ka s') ⟨S3, I3, B3, V3⟩
            go_upto_region 12 with fail
            go_cut [57] (fun tv wx => tv = .bool (!(decide (o = 26 ∨ o = 0))) ∧ RowKit.Hid (SsI w lb n #[.int .i64 day, .slice (some ⟨y, u, none⟩) n cc] l wx ∧ BkP wx ib #[.int .i64 (o : Int), .int .i64 (a : Int), .int .i64 b] 51 ∧ BkP wx sb #[.bool true, .slice sa s'.st.length sc, .slice ka s'.sl.length kc] 72 ∧ StV wx sa sc ka s'))
            case first =>
              clear S3 I3 B3 V3
              by_cases o26 : o = 26
              · subst o26
                go_wp2
                go_meet
                case rel => exact ⟨by simp, R0.out⟩
              · have n26 : ¬ (o : Int) = 26 := by omega
                by_cases o0 : o = 0
                · subst o0
                  go_wp2
                  go_meet
                  case rel => exact ⟨by simp, R0.out⟩
                · have n0' : ¬ (o : Int) = 0 := by omega
                  have e26 : (o != 26) = true := by simpa using o26
                  have e0' : (o != 0) = true := by simpa using o0
                  go_wp2
                  go_meet
                  case rel => exact ⟨by simp [o26, o0, n26, n0'], R0.out⟩
            case rest =>
            clear S3 I3 B3 V3 i0 i1 i2 R0
            obtain ⟨hcv, hcut⟩ := hcut
            subst hcv
            obtain ⟨S3, I3, B3, V3⟩ := hcut.out
            obtain ⟨i0, i1, i2⟩ := box_3R I3
            clear hcut
            go_upto_if 57 with fail
            go_cut [] (fun wx => (dNx ⟨(o : Int), (a : Int), b⟩ (l k1) s').1 = 0 ∧ RowKit.Hid (SsI w lb n #[.int .i64 day, .slice (some ⟨y, u, none⟩) n cc] (dSet l k1 (dNx ⟨(o : Int), (a : Int), b⟩ (l k1) s').2) wx ∧ BkP wx ib #[.int .i64 (o : Int), .int .i64 (a : Int), .int .i64 b] 51 ∧ BkP wx sb #[.bool true, .slice sa s'.st.length sc, .slice ka s'.sl.length kc] 72 ∧ StV wx sa sc ka s'))
            case first =>
              by_cases oo : o = 26 ∨ o = 0
              · have en : dNx ⟨(o : Int), (a : Int), b⟩ (l k1) s' = (0, l k1) := by
                  unfold dNx
                  rw [if_pos (by simp only; omega)]
                have RE := Lib.hid (p := (dNx ⟨(o : Int), (a : Int), b⟩ (l k1) s').1 = 0 ∧ RowKit.Hid (SsI w lb n #[.int .i64 day, .slice (some ⟨y, u, none⟩) n cc] (dSet l k1 (dNx ⟨(o : Int), (a : Int), b⟩ (l k1) s').2) wc ∧ BkP wc ib #[.int .i64 (o : Int), .int .i64 (a : Int), .int .i64 b] 51 ∧ BkP wc sb #[.bool true, .slice sa s'.st.length sc, .slice ka s'.sl.length kc] 72 ∧ StV wc sa sc ka s')) (by rw [en, dSet_same]; exact ⟨rfl, S3, I3, B3, V3⟩)
                clear S3 B3 V3
                rw [show (!(decide (o = 26 ∨ o = 0))) = false by simp [oo]]
                go_wp2
                go_meet
                case rel => exact RE.out
              · have en : dNx ⟨(o : Int), (a : Int), b⟩ (l k1) s' = dHand (l k1) s' := by
                  unfold dNx
                  rw [if_neg (by simp only; omega)]
                have hix : k1 < n := by omega
                have o26 : ¬ (o : Int) = 26 := by omega
                have o0 : ¬ (o : Int) = 0 := by omega
                have m26 : ¬ o = 26 := by omega
                have m0' : ¬ o = 0 := by omega
                have d26 : ((o : Int) != 26) = true := by simpa using o26
                have d0' : ((o : Int) != 0) = true := by simpa using o0
                have e26 : (o != 26) = true := by simpa using m26
                have e0' : (o != 0) = true := by simpa using m0'
                have kk : (k1 : Int) < (n : Int) := by omega
                have kz : ¬ (k1 : Int) < 0 := by omega
                rw [show (!(decide (o = 26 ∨ o = 0))) = true by simp [oo]]
                go_upto_region 13 with fail
                go_cut [9] (fun ev wx => ev = .int .i64 (dHand (l k1) s').1 ∧ RowKit.Hid (SsI w lb n #[.int .i64 day, .slice (some ⟨y, u, none⟩) n cc] (dSet (l) k1 (dHand (l k1) s').2) wx ∧ BkP wx ib #[.int .i64 (o : Int), .int .i64 (a : Int), .int .i64 b] 51 ∧ BkP wx sb #[.bool true, .slice sa s'.st.length sc, .slice ka s'.sl.length kc] 72 ∧ StV wx sa sc ka s'))
                case first =>
                  obtain ⟨c0, c1, c2, tv, e0, e1, e2⟩ := S3.st k1 hix
                  have KH := Lib.hid (p := ∀ V, Below wc.heap.size wc V → Calls Tryd.prog 34 #[.agg #[c0, c1, c2], .agg #[.bool true, .slice sa s'.st.length sc, .slice ka s'.sl.length kc]] V fun e w' => ∃ (hb : Bool) (xa : Option Addr) (xn xc : Nat) (za : Option Addr) (zn zc : Nat), e = .returned (.tuple #[.agg #[.bool hb, .slice xa xn xc, .slice za zn zc], .int .i64 (dHand (l k1) s').1]) ∧ RowKit.Hid (TV w' (dHand (l k1) s').2 [.bool hb, .slice xa xn xc, .slice za zn zc] ∧ Below V.heap.size V w')) (fun V bb => hand14_any (tv.lat bb) (V3.lat bb) (fun d q => by have := DL2.out k1 d hix q; omega) ⟨by omega, by omega⟩)
                  have CS := Lib.hid (p := ∀ V, Below wc.heap.size wc V → V.cell? ⟨sb, 0, none⟩ = some (.bool true) ∧ V.cell? ⟨sb, 1, none⟩ = some (.slice sa s'.st.length sc) ∧ V.cell? ⟨sb, 2, none⟩ = some (.slice ka s'.sl.length kc)) (fun V bb => box_3R (B3.lat bb))
                  have FX := Lib.hid (p := ∀ w6 d0 d1 d2, Below wc.heap.size wc w6 → TV w6 (dHand (l k1) s').2 [d0, d1, d2] → (w6.cell? ⟨lb, k1 * 3, none⟩ = some c0 ∧ w6.cell? ⟨lb, k1 * 3 + 1, none⟩ = some c1 ∧ w6.cell? ⟨lb, k1 * 3 + 2, none⟩ = some c2) ∧ (w6.frozen? ⟨lb, k1 * 3, none⟩ = false ∧ w6.frozen? ⟨lb, k1 * 3 + 1, none⟩ = false ∧ w6.frozen? ⟨lb, k1 * 3 + 2, none⟩ = false) ∧ ((set3 w6 lb (k1 * 3) d0 d1 d2).cell? ⟨sb, 0, none⟩ = some (.bool true) ∧ (set3 w6 lb (k1 * 3) d0 d1 d2).cell? ⟨sb, 1, none⟩ = some (.slice sa s'.st.length sc) ∧ (set3 w6 lb (k1 * 3) d0 d1 d2).cell? ⟨sb, 2, none⟩ = some (.slice ka s'.sl.length kc)) ∧ RowKit.Hid (SsI w lb n #[.int .i64 day, .slice (some ⟨y, u, none⟩) n cc] (dSet (l) k1 (dHand (l k1) s').2) (set3 w6 lb (k1 * 3) d0 d1 d2) ∧ BkP (set3 w6 lb (k1 * 3) d0 d1 d2) ib #[.int .i64 (o : Int), .int .i64 (a : Int), .int .i64 b] 51 ∧ BkP (set3 w6 lb (k1 * 3) d0 d1 d2) sb #[.bool true, .slice sa s'.st.length sc, .slice ka s'.sl.length kc] 72 ∧ StV (set3 w6 lb (k1 * 3) d0 d1 d2) sa sc ka s')) (fun w6 d0 d1 d2 b6 hv => by
                    have s6 := S3.lat b6
                    obtain ⟨cur, k1', _⟩ := s6.bk
                    have fr : ∀ v, v ≠ lb → (set3 w6 lb (k1 * 3) d0 d1 d2).heap[v]? = w6.heap[v]? := fun v hv => set3_far hv
                    have sv := TV.far (t := some s') (cs := [.bool true, .slice sa s'.st.length sc, .slice ka s'.sl.length kc]) (.inr ⟨s', sa, sc, ka, kc, rfl, rfl, V3.lat b6⟩) k1' fr
                    have hv2 : StV (set3 w6 lb (k1 * 3) d0 d1 d2) sa sc ka s' := by
                      rcases sv with ⟨z, _⟩ | ⟨d, a2, c2, ka2, kc2, z, e, h2⟩
                      · cases z
                      · simp only [Option.some.injEq] at z
                        subst z
                        simp only [List.cons.injEq, Value.slice.injEq, and_true, true_and] at e
                        obtain ⟨⟨e1, e2⟩, e3, e4⟩ := e
                        subst e1 e2 e3
                        exact h2
                    have bx : BkP (set3 w6 lb (k1 * 3) d0 d1 d2) sb #[.bool true, .slice sa s'.st.length sc, .slice ka s'.sl.length kc] 72 := (fr sb (by omega)).trans (B3.lat b6)
                    exact ⟨⟨(b6.cell (p := ⟨lb, k1 * 3, none⟩) (cell_ltR e0)).trans e0, (b6.cell (p := ⟨lb, k1 * 3 + 1, none⟩) (cell_ltR e1)).trans e1, (b6.cell (p := ⟨lb, k1 * 3 + 2, none⟩) (cell_ltR e2)).trans e2⟩, ⟨s6.frozen _, s6.frozen _, s6.frozen _⟩, box_3R bx, s6.set hix hv, (fr ib (by omega)).trans (I3.lat b6), bx, hv2⟩)
                  obtain ⟨s0, s1, s2⟩ := CS.out wc (Below.refl _ _)
                  have g0 : wc.drew.cell? ⟨lb, k1 * 3, none⟩ = some c0 := e0
                  have g1 : wc.drew.cell? ⟨lb, k1 * 3 + 1, none⟩ = some c1 := e1
                  have g2 : wc.drew.cell? ⟨lb, k1 * 3 + 2, none⟩ = some c2 := e2
                  clear S3 B3 V3 I3 tv
                  generalize dHand (l k1) s' = hr at *
                  refine wp_region_held_drew (S := (fun w' => w'.cell? ⟨sb, 0, none⟩ = some (.bool true) ∧ w'.cell? ⟨sb, 1, none⟩ = some (.slice sa s'.st.length sc) ∧ w'.cell? ⟨sb, 2, none⟩ = some (.slice ka s'.sl.length kc))) (by kernel_rfl) ?_ (fun hHeld => ?_)
                  · (try dsimp only)
                    exact ⟨s0, s1, s2⟩
                  refine wpAnyH_take (i := 0) (oi := { dst := some 59, op := Op.move (Operand.tmp 6), type := 66, pos := "ref.go:180", after := #[], guard := none }) (v := ?_) rfl (by kernel_rfl) (by kernel_rfl) (by kernel_rfl) (fun _ _ _ h => h) (Or.inl ⟨by rfl, ?_⟩) (by assumption) ?_
                  rotate_left 1
                  · intro w' hSw; (try dsimp only at hSw); go_simp; try with_reducible rfl
                  (try simp only [Act.put, List.setIfInBounds_toArray, List.set_cons_zero, List.set_cons_succ])
                  refine wpAnyH_take (i := 1) (oi := { dst := some 60, op := Op.move (Operand.tmp 7), type := 3, pos := "ref.go:180", after := #[], guard := none }) (v := ?_) rfl (by kernel_rfl) (by kernel_rfl) (by kernel_rfl) (fun _ _ _ h => h) (Or.inl ⟨by rfl, ?_⟩) (by assumption) ?_
                  rotate_left 1
                  · intro w' hSw; (try dsimp only at hSw); go_simp; try with_reducible rfl
                  (try simp only [Act.put, List.setIfInBounds_toArray, List.set_cons_zero, List.set_cons_succ])
                  refine wpAnyH_take (i := 2) (oi := { dst := some 61, op := Op.binOp BinOp.add 3 (Operand.tmp 60) (Operand.const (Value.int IntKind.i64 1)) 3, type := 3, pos := "ref.go:180", after := #[{ on := 1, ground := Ground.data }], guard := none }) (v := ?_) rfl (by kernel_rfl) (by kernel_rfl) (by kernel_rfl) (fun _ _ _ h => h) (Or.inl ⟨by rfl, ?_⟩) (by assumption) ?_
                  rotate_left 1
                  · intro w' hSw; (try dsimp only at hSw); go_simp; try with_reducible rfl
                  (try simp only [Act.put, List.setIfInBounds_toArray, List.set_cons_zero, List.set_cons_succ])
                  refine wpAnyH_take (i := 3) (oi := { dst := some 62, op := Op.move (Operand.tmp 6), type := 66, pos := "ref.go:180", after := #[], guard := none }) (v := ?_) rfl (by kernel_rfl) (by kernel_rfl) (by kernel_rfl) (fun _ _ _ h => h) (Or.inl ⟨by rfl, ?_⟩) (by assumption) ?_
                  rotate_left 1
                  · intro w' hSw; (try dsimp only at hSw); go_simp; try with_reducible rfl
                  (try simp only [Act.put, List.setIfInBounds_toArray, List.set_cons_zero, List.set_cons_succ])
                  refine wpAnyH_take (i := 4) (oi := { dst := some 63, op := Op.move (Operand.tmp 7), type := 3, pos := "ref.go:180", after := #[], guard := none }) (v := ?_) rfl (by kernel_rfl) (by kernel_rfl) (by kernel_rfl) (fun _ _ _ h => h) (Or.inl ⟨by rfl, ?_⟩) (by assumption) ?_
                  rotate_left 1
                  · intro w' hSw; (try dsimp only at hSw); go_simp; try with_reducible rfl
                  (try simp only [Act.put, List.setIfInBounds_toArray, List.set_cons_zero, List.set_cons_succ])
                  refine wpAnyH_take (i := 5) (oi := { dst := some 64, op := Op.binOp BinOp.add 3 (Operand.tmp 63) (Operand.const (Value.int IntKind.i64 1)) 3, type := 3, pos := "ref.go:180", after := #[{ on := 4, ground := Ground.data }], guard := none }) (v := ?_) rfl (by kernel_rfl) (by kernel_rfl) (by kernel_rfl) (fun _ _ _ h => h) (Or.inl ⟨by rfl, ?_⟩) (by assumption) ?_
                  rotate_left 1
                  · intro w' hSw; (try dsimp only at hSw); go_simp; try with_reducible rfl
                  (try simp only [Act.put, List.setIfInBounds_toArray, List.set_cons_zero, List.set_cons_succ])
                  refine wpAnyH_take (i := 6) (oi := { dst := some 65, op := Op.indexAddr 66 (Operand.tmp 62) (Operand.tmp 64), type := 0, pos := "ref.go:180", after := #[{ on := 3, ground := Ground.data }, { on := 5, ground := Ground.data }], guard := none }) (v := ?_) rfl (by kernel_rfl) (by kernel_rfl) (by kernel_rfl) (fun _ _ _ h => h) (Or.inl ⟨by rfl, ?_⟩) (by assumption) ?_
                  rotate_left 1
                  · intro w' hSw; (try dsimp only at hSw); go_simp; try with_reducible rfl
                  (try simp only [Act.put, List.setIfInBounds_toArray, List.set_cons_zero, List.set_cons_succ])
                  refine wpAnyH_take (i := 8) (oi := { dst := some 67, op := Op.load 72 (Operand.tmp 10), type := 72, pos := "ref.go:180", after := #[], guard := none }) (v := ?_) rfl (by kernel_rfl) (by kernel_rfl) (by kernel_rfl) (fun _ _ _ h => h) (Or.inl ⟨by rfl, ?_⟩) (by assumption) ?_
                  rotate_left 1
                  · intro w' hSw; (try dsimp only at hSw); go_simp; try with_reducible rfl
                  (try simp only [Act.put, List.setIfInBounds_toArray, List.set_cons_zero, List.set_cons_succ])
                  refine wpAnyH_ready (rs := [7]) (by kernel_rfl) (by simp) ?_
                  refine AllReadyH.cons (o := { dst := some 66, op := Op.load 72 (Operand.tmp 65), type := 72, pos := "ref.go:180", after := #[{ on := 6, ground := Ground.data }], guard := none }) rfl (fun K' hK => ?_) AllReadyH.nil
                  go_simp
                  refine hK.out _ _ ?_ (fun hHeld => ?_)
                  · (try dsimp only)
                    exact hHeld
                  clear hK K'
                  (try simp only [Act.put, List.setIfInBounds_toArray, List.set_cons_zero, List.set_cons_succ])
                  refine wpAnyH_ready (rs := [9]) (by kernel_rfl) (by simp) ?_
                  refine AllReadyH.cons (o := { dst := some 68, op := Op.call { callee := Callee.value (Operand.func 34), args := #[Operand.tmp 66, Operand.tmp 67], argTypes := #[72, 72] }, type := 90, pos := "ref.go:180", after := #[{ on := 7, ground := Ground.data }, { on := 8, ground := Ground.data }], guard := none }) rfl (fun K' hK => ?_) AllReadyH.nil
                  go_simp
                  go_at_call 34; refine (KH.out _ (drew1R wc)).mono ?_; rintro e w6 ⟨hb, xa, xn, xc, za, zn, zc, rfl, o6⟩; have b6 : Below wc.heap.size wc w6 := (drew1R wc).trans o6.out.2; obtain ⟨⟨m0, m1, m2⟩, ⟨fz0, fz1, fz2⟩, sx6, RX⟩ := FX.out w6 _ _ _ b6 o6.out.1
                  (try go_wp2_with fail)
                  refine hK.out _ _ ?_ (fun hHeld => ?_)
                  · (try dsimp only)
                    exact CS.out w6 b6
                  clear hK K'
                  (try simp only [Act.put, List.setIfInBounds_toArray, List.set_cons_zero, List.set_cons_succ])
                  refine wpAnyH_take (i := 10) (oi := { dst := some 58, op := Op.move (Operand.tmp 68), type := 90, pos := "ref.go:180", after := #[{ on := 9, ground := Ground.data }], guard := none }) (v := ?_) rfl (by kernel_rfl) (by kernel_rfl) (by kernel_rfl) (fun _ _ _ h => h) (Or.inl ⟨by rfl, ?_⟩) (by assumption) ?_
                  rotate_left 1
                  · intro w' hSw; (try dsimp only at hSw); go_simp; try with_reducible rfl
                  (try simp only [Act.put, List.setIfInBounds_toArray, List.set_cons_zero, List.set_cons_succ])
                  refine wpAnyH_take (i := 11) (oi := { dst := some 69, op := Op.extract (Operand.tmp 58) 0, type := 72, pos := "ref.go:180", after := #[{ on := 10, ground := Ground.data }], guard := none }) (v := ?_) rfl (by kernel_rfl) (by kernel_rfl) (by kernel_rfl) (fun _ _ _ h => h) (Or.inl ⟨by rfl, ?_⟩) (by assumption) ?_
                  rotate_left 1
                  · intro w' hSw; (try dsimp only at hSw); go_simp; try with_reducible rfl
                  (try simp only [Act.put, List.setIfInBounds_toArray, List.set_cons_zero, List.set_cons_succ])
                  refine wpAnyH_take (i := 12) (oi := { dst := some 70, op := Op.extract (Operand.tmp 58) 1, type := 30, pos := "ref.go:180", after := #[{ on := 10, ground := Ground.data }, { on := 14, ground := Ground.gcOnly Departure.lateStores }], guard := none }) (v := ?_) rfl (by kernel_rfl) (by kernel_rfl) (by kernel_rfl) (fun _ _ _ h => h) (Or.inl ⟨by rfl, ?_⟩) (by assumption) ?_
                  rotate_left 1
                  · intro w' hSw; (try dsimp only at hSw); go_simp; try with_reducible rfl
                  (try simp only [Act.put, List.setIfInBounds_toArray, List.set_cons_zero, List.set_cons_succ])
                  refine wpAnyH_take (i := 13) (oi := { dst := some 71, op := Op.indexAddr 66 (Operand.tmp 59) (Operand.tmp 61), type := 0, pos := "ref.go:180", after := #[{ on := 0, ground := Ground.data }, { on := 2, ground := Ground.data }, { on := 0, ground := Ground.phase }, { on := 1, ground := Ground.phase }, { on := 2, ground := Ground.phase }, { on := 3, ground := Ground.phase }, { on := 4, ground := Ground.phase }, { on := 5, ground := Ground.phase }, { on := 6, ground := Ground.phase }, { on := 7, ground := Ground.phase }, { on := 8, ground := Ground.phase }, { on := 9, ground := Ground.phase }, { on := 10, ground := Ground.phase }, { on := 11, ground := Ground.phase }, { on := 12, ground := Ground.textOnly Departure.lateStores }], guard := none }) (v := ?_) rfl (by kernel_rfl) (by kernel_rfl) (by kernel_rfl) (fun _ _ _ h => h) (Or.inl ⟨by rfl, ?_⟩) (by assumption) ?_
                  rotate_left 1
                  · intro w' hSw; (try dsimp only at hSw); go_simp; try with_reducible rfl
                  (try simp only [Act.put, List.setIfInBounds_toArray, List.set_cons_zero, List.set_cons_succ])
                  refine wpAnyH_ready (rs := [14]) (by kernel_rfl) (by simp) ?_
                  refine AllReadyH.cons (o := { dst := none, op := Op.store 72 (Operand.tmp 71) (Operand.tmp 69), type := 0, pos := "ref.go:180", after := #[{ on := 13, ground := Ground.data }, { on := 11, ground := Ground.data }, { on := 9, ground := Ground.chain }, { on := 0, ground := Ground.phase }, { on := 1, ground := Ground.phase }, { on := 2, ground := Ground.phase }, { on := 3, ground := Ground.phase }, { on := 4, ground := Ground.phase }, { on := 5, ground := Ground.phase }, { on := 6, ground := Ground.phase }, { on := 7, ground := Ground.phase }, { on := 8, ground := Ground.phase }, { on := 9, ground := Ground.phase }, { on := 10, ground := Ground.phase }, { on := 11, ground := Ground.phase }, { on := 12, ground := Ground.textOnly Departure.lateStores }], guard := none }) rfl (fun K' hK => ?_) AllReadyH.nil
                  go_simp
                  refine hK.out _ _ ?_ (fun hHeld => ?_)
                  · (try dsimp only)
                    exact sx6
                  clear hK K'
                  (try simp only [Act.put, List.setIfInBounds_toArray, List.set_cons_zero, List.set_cons_succ])
                  refine wpAnyH_take (i := 15) (oi := { dst := some 9, op := Op.assign (Operand.tmp 70), type := 30, pos := "ref.go:180", after := #[{ on := 12, ground := Ground.data }, { on := 14, ground := Ground.chain }, { on := 0, ground := Ground.phase }, { on := 1, ground := Ground.phase }, { on := 2, ground := Ground.phase }, { on := 3, ground := Ground.phase }, { on := 4, ground := Ground.phase }, { on := 5, ground := Ground.phase }, { on := 6, ground := Ground.phase }, { on := 7, ground := Ground.phase }, { on := 8, ground := Ground.phase }, { on := 9, ground := Ground.phase }, { on := 10, ground := Ground.phase }, { on := 11, ground := Ground.phase }, { on := 12, ground := Ground.phase }, { on := 13, ground := Ground.phase }, { on := 14, ground := Ground.phase }], guard := none }) (v := ?_) rfl (by kernel_rfl) (by kernel_rfl) (by kernel_rfl) (fun _ _ _ h => h) (Or.inl ⟨by rfl, ?_⟩) (by assumption) ?_
                  rotate_left 1
                  · intro w' hSw; (try dsimp only at hSw); go_simp; try with_reducible rfl
                  (try simp only [Act.put, List.setIfInBounds_toArray, List.set_cons_zero, List.set_cons_succ])
                  refine wpAnyH_done (by kernel_rfl) ?_ _
                  go_wp2
                  go_meet
                  case rel => exact ⟨rfl, RX⟩

                case rest =>
                  obtain ⟨hcv, hcut⟩ := hcut
                  subst hcv
                  obtain ⟨S4, I4, B4, V4⟩ := hcut.out
                  by_cases er : (dHand (l k1) s').1 ≠ 0
                  · have pe := PE.out
                    rw [en, if_pos er] at pe
                    have R := RT2.out wc S4.bel (by rw [pe]; exact er)
                    rw [pe] at R
                    have R3 := Lib.hid R
                    clear R pe S4 I4 B4 V4 hcut S3 I3 B3 V3
                    generalize dHand (l k1) s' = hr at *
                    have we2 : (hr.1 != 0) = true := by simpa using er
                    go_wp2
                    go_ret3
                    exact R3.out
                  · have er : (dHand (l k1) s').1 = 0 := by simpa using er
                    have RE := Lib.hid (And.intro er (show RowKit.Hid (SsI w lb n #[.int .i64 day, .slice (some ⟨y, u, none⟩) n cc] (dSet l k1 (dHand (l k1) s').2) wc ∧ BkP wc ib #[.int .i64 (o : Int), .int .i64 (a : Int), .int .i64 b] 51 ∧ BkP wc sb #[.bool true, .slice sa s'.st.length sc, .slice ka s'.sl.length kc] 72 ∧ StV wc sa sc ka s') from ⟨S4, I4, B4, V4⟩))
                    rw [er]
                    clear S4 I4 B4 V4 hcut S3 I3 B3 V3
                    go_wp2
                    go_meet
                    case rel => rw [en]; exact RE.out
            case rest =>
              obtain ⟨dn0, hq⟩ := hcut
              obtain ⟨S4, I4, B4, V4⟩ := hq.out
              have pe := PE.out
              rw [if_neg (by simp [dn0])] at pe
              have ld3 : dLen (dSet l k1 (dNx ⟨(o : Int), (a : Int), b⟩ (l k1) s').2) := dSet_len LD2.out (dNx_len (fun d q => LD2.out k1 d q) (by have := HK.out; omega))
              obtain ⟨l', hl'⟩ : ∃ l', dSet l k1 (dNx ⟨(o : Int), (a : Int), b⟩ (l k1) s').2 = l' := ⟨_, rfl⟩
              rw [hl'] at pe S4 ld3
              have DL3 := Lib.hid (p := ∀ j d, j < n → l' j = some d → d.st.length ≤ 262144 ∧ d.sl.length ≤ 262144) (fun j d hj q => by have := ld3 j d q; omega)
              have PE3 := Lib.hid pe
              have hk1 := HK.out
              have htt := HT.out
              clear hl' ld3 hq pe dn0 S3 I3 B3 V3 i0 i1 i2 PE
              have R0 := Lib.hid (p := SsI w lb n #[.int .i64 day, .slice (some ⟨y, u, none⟩) n cc] l' wc ∧ BkP wc ib #[.int .i64 (o : Int), .int .i64 (a : Int), .int .i64 b] 51 ∧ BkP wc sb #[.bool true, .slice sa s'.st.length sc, .slice ka s'.sl.length kc] 72 ∧ StV wc sa sc ka s') ⟨S4, I4, B4, V4⟩
              obtain ⟨i0, i1, i2⟩ := box_3R I4
              go_upto_region 16 with fail
              go_cut [83] (fun tv wx => tv = .bool (decide (o = 26 ∨ o = 27)) ∧ RowKit.Hid (SsI w lb n #[.int .i64 day, .slice (some ⟨y, u, none⟩) n cc] l' wx ∧ BkP wx ib #[.int .i64 (o : Int), .int .i64 (a : Int), .int .i64 b] 51 ∧ BkP wx sb #[.bool true, .slice sa s'.st.length sc, .slice ka s'.sl.length kc] 72 ∧ StV wx sa sc ka s'))
              case first =>
                clear S4 I4 B4 V4
                by_cases o26 : o = 26
                · subst o26
                  go_wp2
                  go_meet
                  case rel => exact ⟨by simp, R0.out⟩
                · have n26 : ¬ (o : Int) = 26 := by omega
                  by_cases o27 : o = 27
                  · subst o27
                    go_wp2
                    go_meet
                    case rel => exact ⟨by simp, R0.out⟩
                  · have n27 : ¬ (o : Int) = 27 := by omega
                    have e26 : ((o : Int) == 26) = false := by simpa using n26
                    have e27 : ((o : Int) == 27) = false := by simpa using n27
                    go_wp2
                    go_meet
                    case rel => exact ⟨by simp [o26, o27, n26, n27], R0.out⟩
              case rest =>
              clear S4 I4 B4 V4 i0 i1 i2 R0
              obtain ⟨hcv, hcut⟩ := hcut
              subst hcv
              obtain ⟨S4, I4, B4, V4⟩ := hcut.out
              obtain ⟨i0, i1, i2⟩ := box_3R I4
              clear hcut
              by_cases jj : o = 26 ∨ o = 27
              · have ij : isJ (⟨(o : Int), (a : Int), b⟩ : In) := by
                  unfold isJ
                  simp only
                  omega
                have hix : tt < n := JL.out ij
                have kk : (tt : Int) < (n : Int) := by omega
                have kz : ¬ (tt : Int) < 0 := by omega
                have kt : IntKind.i64.wrap ((k1 : Int) + (a : Int)) = (tt : Int) := by simp [IntKind.wrap, IntKind.bits, IntKind.signed]; omega
                rw [show (decide (o = 26 ∨ o = 27)) = true by simp [jj]]
                go_upto_region 18 with fail
                go_cut [9] (fun ev wx => ev = .int .i64 (dHand (l' tt) s').1 ∧ RowKit.Hid (SsI w lb n #[.int .i64 day, .slice (some ⟨y, u, none⟩) n cc] (dSet (l') tt (dHand (l' tt) s').2) wx ∧ BkP wx ib #[.int .i64 (o : Int), .int .i64 (a : Int), .int .i64 b] 51 ∧ BkP wx sb #[.bool true, .slice sa s'.st.length sc, .slice ka s'.sl.length kc] 72 ∧ StV wx sa sc ka s'))
                case first =>
                  obtain ⟨c0, c1, c2, tv, e0, e1, e2⟩ := S4.st tt hix
                  have KH := Lib.hid (p := ∀ V, Below wc.heap.size wc V → Calls Tryd.prog 34 #[.agg #[c0, c1, c2], .agg #[.bool true, .slice sa s'.st.length sc, .slice ka s'.sl.length kc]] V fun e w' => ∃ (hb : Bool) (xa : Option Addr) (xn xc : Nat) (za : Option Addr) (zn zc : Nat), e = .returned (.tuple #[.agg #[.bool hb, .slice xa xn xc, .slice za zn zc], .int .i64 (dHand (l' tt) s').1]) ∧ RowKit.Hid (TV w' (dHand (l' tt) s').2 [.bool hb, .slice xa xn xc, .slice za zn zc] ∧ Below V.heap.size V w')) (fun V bb => hand14_any (tv.lat bb) (V4.lat bb) (fun d q => by have := DL3.out tt d hix q; omega) ⟨by omega, by omega⟩)
                  have CS := Lib.hid (p := ∀ V, Below wc.heap.size wc V → V.cell? ⟨sb, 0, none⟩ = some (.bool true) ∧ V.cell? ⟨sb, 1, none⟩ = some (.slice sa s'.st.length sc) ∧ V.cell? ⟨sb, 2, none⟩ = some (.slice ka s'.sl.length kc)) (fun V bb => box_3R (B4.lat bb))
                  have FX := Lib.hid (p := ∀ w6 d0 d1 d2, Below wc.heap.size wc w6 → TV w6 (dHand (l' tt) s').2 [d0, d1, d2] → (w6.cell? ⟨lb, tt * 3, none⟩ = some c0 ∧ w6.cell? ⟨lb, tt * 3 + 1, none⟩ = some c1 ∧ w6.cell? ⟨lb, tt * 3 + 2, none⟩ = some c2) ∧ (w6.frozen? ⟨lb, tt * 3, none⟩ = false ∧ w6.frozen? ⟨lb, tt * 3 + 1, none⟩ = false ∧ w6.frozen? ⟨lb, tt * 3 + 2, none⟩ = false) ∧ ((set3 w6 lb (tt * 3) d0 d1 d2).cell? ⟨sb, 0, none⟩ = some (.bool true) ∧ (set3 w6 lb (tt * 3) d0 d1 d2).cell? ⟨sb, 1, none⟩ = some (.slice sa s'.st.length sc) ∧ (set3 w6 lb (tt * 3) d0 d1 d2).cell? ⟨sb, 2, none⟩ = some (.slice ka s'.sl.length kc)) ∧ RowKit.Hid (SsI w lb n #[.int .i64 day, .slice (some ⟨y, u, none⟩) n cc] (dSet (l') tt (dHand (l' tt) s').2) (set3 w6 lb (tt * 3) d0 d1 d2) ∧ BkP (set3 w6 lb (tt * 3) d0 d1 d2) ib #[.int .i64 (o : Int), .int .i64 (a : Int), .int .i64 b] 51 ∧ BkP (set3 w6 lb (tt * 3) d0 d1 d2) sb #[.bool true, .slice sa s'.st.length sc, .slice ka s'.sl.length kc] 72 ∧ StV (set3 w6 lb (tt * 3) d0 d1 d2) sa sc ka s')) (fun w6 d0 d1 d2 b6 hv => by
                    have s6 := S4.lat b6
                    obtain ⟨cur, k1', _⟩ := s6.bk
                    have fr : ∀ v, v ≠ lb → (set3 w6 lb (tt * 3) d0 d1 d2).heap[v]? = w6.heap[v]? := fun v hv => set3_far hv
                    have sv := TV.far (t := some s') (cs := [.bool true, .slice sa s'.st.length sc, .slice ka s'.sl.length kc]) (.inr ⟨s', sa, sc, ka, kc, rfl, rfl, V4.lat b6⟩) k1' fr
                    have hv2 : StV (set3 w6 lb (tt * 3) d0 d1 d2) sa sc ka s' := by
                      rcases sv with ⟨z, _⟩ | ⟨d, a2, c2, ka2, kc2, z, e, h2⟩
                      · cases z
                      · simp only [Option.some.injEq] at z
                        subst z
                        simp only [List.cons.injEq, Value.slice.injEq, and_true, true_and] at e
                        obtain ⟨⟨e1, e2⟩, e3, e4⟩ := e
                        subst e1 e2 e3
                        exact h2
                    have bx : BkP (set3 w6 lb (tt * 3) d0 d1 d2) sb #[.bool true, .slice sa s'.st.length sc, .slice ka s'.sl.length kc] 72 := (fr sb (by omega)).trans (B4.lat b6)
                    exact ⟨⟨(b6.cell (p := ⟨lb, tt * 3, none⟩) (cell_ltR e0)).trans e0, (b6.cell (p := ⟨lb, tt * 3 + 1, none⟩) (cell_ltR e1)).trans e1, (b6.cell (p := ⟨lb, tt * 3 + 2, none⟩) (cell_ltR e2)).trans e2⟩, ⟨s6.frozen _, s6.frozen _, s6.frozen _⟩, box_3R bx, s6.set hix hv, (fr ib (by omega)).trans (I4.lat b6), bx, hv2⟩)
                  obtain ⟨s0, s1, s2⟩ := CS.out wc (Below.refl _ _)
                  have g0 : wc.drew.cell? ⟨lb, tt * 3, none⟩ = some c0 := e0
                  have g1 : wc.drew.cell? ⟨lb, tt * 3 + 1, none⟩ = some c1 := e1
                  have g2 : wc.drew.cell? ⟨lb, tt * 3 + 2, none⟩ = some c2 := e2
                  clear S4 B4 V4 I4 tv
                  generalize dHand (l' tt) s' = hr at *
                  refine wp_region_held_drew (S := (fun w' => w'.cell? ⟨sb, 0, none⟩ = some (.bool true) ∧ w'.cell? ⟨sb, 1, none⟩ = some (.slice sa s'.st.length sc) ∧ w'.cell? ⟨sb, 2, none⟩ = some (.slice ka s'.sl.length kc))) (by kernel_rfl) ?_ (fun hHeld => ?_)
                  · (try dsimp only)
                    exact ⟨s0, s1, s2⟩
                  refine wpAnyH_take (i := 0) (oi := { dst := some 90, op := Op.move (Operand.tmp 6), type := 66, pos := "ref.go:187", after := #[], guard := none }) (v := ?_) rfl (by kernel_rfl) (by kernel_rfl) (by kernel_rfl) (fun _ _ _ h => h) (Or.inl ⟨by rfl, ?_⟩) (by assumption) ?_
                  rotate_left 1
                  · intro w' hSw; (try dsimp only at hSw); go_simp; try with_reducible rfl
                  (try simp only [Act.put, List.setIfInBounds_toArray, List.set_cons_zero, List.set_cons_succ])
                  refine wpAnyH_take (i := 1) (oi := { dst := some 91, op := Op.move (Operand.tmp 11), type := 3, pos := "ref.go:187", after := #[], guard := none }) (v := ?_) rfl (by kernel_rfl) (by kernel_rfl) (by kernel_rfl) (fun _ _ _ h => h) (Or.inl ⟨by rfl, ?_⟩) (by assumption) ?_
                  rotate_left 1
                  · intro w' hSw; (try dsimp only at hSw); go_simp; try with_reducible rfl
                  (try simp only [Act.put, List.setIfInBounds_toArray, List.set_cons_zero, List.set_cons_succ])
                  refine wpAnyH_take (i := 2) (oi := { dst := some 92, op := Op.move (Operand.tmp 6), type := 66, pos := "ref.go:187", after := #[], guard := none }) (v := ?_) rfl (by kernel_rfl) (by kernel_rfl) (by kernel_rfl) (fun _ _ _ h => h) (Or.inl ⟨by rfl, ?_⟩) (by assumption) ?_
                  rotate_left 1
                  · intro w' hSw; (try dsimp only at hSw); go_simp; try with_reducible rfl
                  (try simp only [Act.put, List.setIfInBounds_toArray, List.set_cons_zero, List.set_cons_succ])
                  refine wpAnyH_take (i := 3) (oi := { dst := some 93, op := Op.move (Operand.tmp 11), type := 3, pos := "ref.go:187", after := #[], guard := none }) (v := ?_) rfl (by kernel_rfl) (by kernel_rfl) (by kernel_rfl) (fun _ _ _ h => h) (Or.inl ⟨by rfl, ?_⟩) (by assumption) ?_
                  rotate_left 1
                  · intro w' hSw; (try dsimp only at hSw); go_simp; try with_reducible rfl
                  (try simp only [Act.put, List.setIfInBounds_toArray, List.set_cons_zero, List.set_cons_succ])
                  refine wpAnyH_take (i := 4) (oi := { dst := some 94, op := Op.indexAddr 66 (Operand.tmp 92) (Operand.tmp 93), type := 0, pos := "ref.go:187", after := #[{ on := 2, ground := Ground.data }, { on := 3, ground := Ground.data }], guard := none }) (v := ?_) rfl (by kernel_rfl) (by kernel_rfl) (by kernel_rfl) (fun _ _ _ h => h) (Or.inl ⟨by rfl, ?_⟩) (by assumption) ?_
                  rotate_left 1
                  · intro w' hSw; (try dsimp only at hSw); go_simp; try with_reducible rfl
                  (try simp only [Act.put, List.setIfInBounds_toArray, List.set_cons_zero, List.set_cons_succ])
                  refine wpAnyH_take (i := 6) (oi := { dst := some 96, op := Op.load 72 (Operand.tmp 10), type := 72, pos := "ref.go:187", after := #[], guard := none }) (v := ?_) rfl (by kernel_rfl) (by kernel_rfl) (by kernel_rfl) (fun _ _ _ h => h) (Or.inl ⟨by rfl, ?_⟩) (by assumption) ?_
                  rotate_left 1
                  · intro w' hSw; (try dsimp only at hSw); go_simp; try with_reducible rfl
                  (try simp only [Act.put, List.setIfInBounds_toArray, List.set_cons_zero, List.set_cons_succ])
                  refine wpAnyH_ready (rs := [5]) (by kernel_rfl) (by simp) ?_
                  refine AllReadyH.cons (o := { dst := some 95, op := Op.load 72 (Operand.tmp 94), type := 72, pos := "ref.go:187", after := #[{ on := 4, ground := Ground.data }], guard := none }) rfl (fun K' hK => ?_) AllReadyH.nil
                  go_simp
                  refine hK.out _ _ ?_ (fun hHeld => ?_)
                  · (try dsimp only)
                    exact hHeld
                  clear hK K'
                  (try simp only [Act.put, List.setIfInBounds_toArray, List.set_cons_zero, List.set_cons_succ])
                  refine wpAnyH_ready (rs := [7]) (by kernel_rfl) (by simp) ?_
                  refine AllReadyH.cons (o := { dst := some 97, op := Op.call { callee := Callee.value (Operand.func 34), args := #[Operand.tmp 95, Operand.tmp 96], argTypes := #[72, 72] }, type := 90, pos := "ref.go:187", after := #[{ on := 5, ground := Ground.data }, { on := 6, ground := Ground.data }], guard := none }) rfl (fun K' hK => ?_) AllReadyH.nil
                  go_simp
                  go_at_call 34; refine (KH.out _ (drew1R wc)).mono ?_; rintro e w6 ⟨hb, xa, xn, xc, za, zn, zc, rfl, o6⟩; have b6 : Below wc.heap.size wc w6 := (drew1R wc).trans o6.out.2; obtain ⟨⟨m0, m1, m2⟩, ⟨fz0, fz1, fz2⟩, sx6, RX⟩ := FX.out w6 _ _ _ b6 o6.out.1
                  (try go_wp2_with fail)
                  refine hK.out _ _ ?_ (fun hHeld => ?_)
                  · (try dsimp only)
                    exact CS.out w6 b6
                  clear hK K'
                  (try simp only [Act.put, List.setIfInBounds_toArray, List.set_cons_zero, List.set_cons_succ])
                  refine wpAnyH_take (i := 8) (oi := { dst := some 89, op := Op.move (Operand.tmp 97), type := 90, pos := "ref.go:187", after := #[{ on := 7, ground := Ground.data }], guard := none }) (v := ?_) rfl (by kernel_rfl) (by kernel_rfl) (by kernel_rfl) (fun _ _ _ h => h) (Or.inl ⟨by rfl, ?_⟩) (by assumption) ?_
                  rotate_left 1
                  · intro w' hSw; (try dsimp only at hSw); go_simp; try with_reducible rfl
                  (try simp only [Act.put, List.setIfInBounds_toArray, List.set_cons_zero, List.set_cons_succ])
                  refine wpAnyH_take (i := 9) (oi := { dst := some 98, op := Op.extract (Operand.tmp 89) 0, type := 72, pos := "ref.go:187", after := #[{ on := 8, ground := Ground.data }], guard := none }) (v := ?_) rfl (by kernel_rfl) (by kernel_rfl) (by kernel_rfl) (fun _ _ _ h => h) (Or.inl ⟨by rfl, ?_⟩) (by assumption) ?_
                  rotate_left 1
                  · intro w' hSw; (try dsimp only at hSw); go_simp; try with_reducible rfl
                  (try simp only [Act.put, List.setIfInBounds_toArray, List.set_cons_zero, List.set_cons_succ])
                  refine wpAnyH_take (i := 10) (oi := { dst := some 99, op := Op.extract (Operand.tmp 89) 1, type := 30, pos := "ref.go:187", after := #[{ on := 8, ground := Ground.data }, { on := 12, ground := Ground.gcOnly Departure.lateStores }], guard := none }) (v := ?_) rfl (by kernel_rfl) (by kernel_rfl) (by kernel_rfl) (fun _ _ _ h => h) (Or.inl ⟨by rfl, ?_⟩) (by assumption) ?_
                  rotate_left 1
                  · intro w' hSw; (try dsimp only at hSw); go_simp; try with_reducible rfl
                  (try simp only [Act.put, List.setIfInBounds_toArray, List.set_cons_zero, List.set_cons_succ])
                  refine wpAnyH_take (i := 11) (oi := { dst := some 100, op := Op.indexAddr 66 (Operand.tmp 90) (Operand.tmp 91), type := 0, pos := "ref.go:187", after := #[{ on := 0, ground := Ground.data }, { on := 1, ground := Ground.data }, { on := 0, ground := Ground.phase }, { on := 1, ground := Ground.phase }, { on := 2, ground := Ground.phase }, { on := 3, ground := Ground.phase }, { on := 4, ground := Ground.phase }, { on := 5, ground := Ground.phase }, { on := 6, ground := Ground.phase }, { on := 7, ground := Ground.phase }, { on := 8, ground := Ground.phase }, { on := 9, ground := Ground.phase }, { on := 10, ground := Ground.textOnly Departure.lateStores }], guard := none }) (v := ?_) rfl (by kernel_rfl) (by kernel_rfl) (by kernel_rfl) (fun _ _ _ h => h) (Or.inl ⟨by rfl, ?_⟩) (by assumption) ?_
                  rotate_left 1
                  · intro w' hSw; (try dsimp only at hSw); go_simp; try with_reducible rfl
                  (try simp only [Act.put, List.setIfInBounds_toArray, List.set_cons_zero, List.set_cons_succ])
                  refine wpAnyH_ready (rs := [12]) (by kernel_rfl) (by simp) ?_
                  refine AllReadyH.cons (o := { dst := none, op := Op.store 72 (Operand.tmp 100) (Operand.tmp 98), type := 0, pos := "ref.go:187", after := #[{ on := 11, ground := Ground.data }, { on := 9, ground := Ground.data }, { on := 7, ground := Ground.chain }, { on := 0, ground := Ground.phase }, { on := 1, ground := Ground.phase }, { on := 2, ground := Ground.phase }, { on := 3, ground := Ground.phase }, { on := 4, ground := Ground.phase }, { on := 5, ground := Ground.phase }, { on := 6, ground := Ground.phase }, { on := 7, ground := Ground.phase }, { on := 8, ground := Ground.phase }, { on := 9, ground := Ground.phase }, { on := 10, ground := Ground.textOnly Departure.lateStores }], guard := none }) rfl (fun K' hK => ?_) AllReadyH.nil
                  go_simp
                  refine hK.out _ _ ?_ (fun hHeld => ?_)
                  · (try dsimp only)
                    exact sx6
                  clear hK K'
                  (try simp only [Act.put, List.setIfInBounds_toArray, List.set_cons_zero, List.set_cons_succ])
                  refine wpAnyH_take (i := 13) (oi := { dst := some 9, op := Op.assign (Operand.tmp 99), type := 30, pos := "ref.go:187", after := #[{ on := 10, ground := Ground.data }, { on := 12, ground := Ground.chain }, { on := 0, ground := Ground.phase }, { on := 1, ground := Ground.phase }, { on := 2, ground := Ground.phase }, { on := 3, ground := Ground.phase }, { on := 4, ground := Ground.phase }, { on := 5, ground := Ground.phase }, { on := 6, ground := Ground.phase }, { on := 7, ground := Ground.phase }, { on := 8, ground := Ground.phase }, { on := 9, ground := Ground.phase }, { on := 10, ground := Ground.phase }, { on := 11, ground := Ground.phase }, { on := 12, ground := Ground.phase }], guard := none }) (v := ?_) rfl (by kernel_rfl) (by kernel_rfl) (by kernel_rfl) (fun _ _ _ h => h) (Or.inl ⟨by rfl, ?_⟩) (by assumption) ?_
                  rotate_left 1
                  · intro w' hSw; (try dsimp only at hSw); go_simp; try with_reducible rfl
                  (try simp only [Act.put, List.setIfInBounds_toArray, List.set_cons_zero, List.set_cons_succ])
                  refine wpAnyH_done (by kernel_rfl) ?_ _
                  go_wp2
                  go_meet
                  case rel => exact ⟨rfl, RX⟩
                case rest =>
                  obtain ⟨hcv, hcut⟩ := hcut
                  subst hcv
                  obtain ⟨S5, I5, B5, V5⟩ := hcut.out
                  have pe := PE3.out
                  rw [if_pos ij] at pe
                  by_cases er : (dHand (l' tt) s').1 ≠ 0
                  · have R := RT2.out wc S5.bel (by rw [pe]; exact er)
                    rw [pe] at R
                    have R3 := Lib.hid R
                    clear R pe S5 I5 B5 V5 hcut S4 I4 B4 V4
                    generalize dHand (l' tt) s' = hr at *
                    have we2 : (hr.1 != 0) = true := by simpa using er
                    go_wp2
                    go_ret3
                    exact R3.out
                  · have er : (dHand (l' tt) s').1 = 0 := by simpa using er
                    have nx := NX2.out (by rw [pe]; exact er)
                    rw [pe, hk1] at nx
                    have RE := Lib.hid (p := (dRun day code k1).1 = 0 ∧ SsI w lb n #[.int .i64 day, .slice (some ⟨y, u, none⟩) n cc] (dRun day code k1).2.2 wc) ⟨nx.1, by rw [nx.2]; exact S5⟩
                    rw [er]
                    clear S5 I5 B5 V5 hcut S4 I4 B4 V4 nx pe
                    go_wp2
                    refine ⟨⟨k1, by omega, by simp, RE.out⟩, ?_⟩
                    simp [intOf]
                    omega
              · have ij : ¬ isJ (⟨(o : Int), (a : Int), b⟩ : In) := by
                  unfold isJ
                  simp only
                  omega
                have pe := PE3.out
                rw [if_neg ij] at pe
                have nx := NX2.out (by rw [pe])
                rw [pe, hk1] at nx
                have RE := Lib.hid (p := (dRun day code k1).1 = 0 ∧ SsI w lb n #[.int .i64 day, .slice (some ⟨y, u, none⟩) n cc] (dRun day code k1).2.2 wc) ⟨nx.1, by rw [nx.2]; exact S4⟩
                rw [show (decide (o = 26 ∨ o = 27)) = false by simp [jj]]
                clear S4 I4 B4 V4 nx pe
                go_wp2
                refine ⟨⟨k1, by omega, by simp, RE.out⟩, ?_⟩
                simp [intOf]
                omega
    · obtain rfl : k = n := by omega
      have E := Lib.hid (FE.out lb wr hS d0)
      clear hH hS d0
      go_wp2
      go_ret3
      exact E.out
end Go.Proofs.YtjbbbejadhojlaaDoor
