import Derived.Test.YtjbbbejadhojlaaDoorXAF
namespace Go.Proofs.YtjbbbejadhojlaaDoor
open Go.RowKit
set_option linter.unusedVariables false
set_option linter.unusedSimpArgs false
set_option maxRecDepth 100000 in
set_option maxHeartbeats 800000 in
theorem do_put3 {w : World} {B : Nat} {G : Tg} {x tb : Nat} {ps : Nat → Option Nat} {s : Vs} (hT : Tri w B G) (h0 : SvR w B G x tb ps s) (hs : s.ok) (k a b : Nat) (hk : k < 29) (ha : a < 262144) (hb : b < 262144) (day : Int) (hR : Rws w) (hU : Rul w) (gl : 0 < B) (hB : B ≤ w.heap.size) (hz : s.st.length ≤ 262143) (hl : tkA k ≤ s.st.length) (he : ¬ (k = 0 ∧ 0 < s.st.length)) (hw : wtA k = vTak (tkA k) s.st ∨ wtA k = [3, 0, 0]) (h6 : k ≠ 6) (h7 : k ≠ 7) (h3 : ¬ (k = 3 ∧ day < (b : Int))) (hp : psA k ≠ 0) (h33 : k = 3) :
    Calls Tryd.prog 26 #[.pointer (some ⟨x, 0, none⟩), .agg #[.int .i64 (k : Int), .int .i64 (a : Int), .int .i64 (b : Int)], .int .i64 day] w fun e w' => DoE w B G x day s ⟨k, a, b⟩ e w' := by
  have LB := Lib.hid hB
  have B0 := Lib.hid (allocBP w (ibx k a b))
  have KE := Lib.hid (effect_any (op := (k : Int)) ⟨.inl ⟨k, hk, rfl, rfl, rfl, rfl, rfl, rfl, rfl, rfl⟩⟩ (w.alloc (ibx k a b)) (hR.alloc _))
  have CI := Lib.hid (fun W (h : Chg (w.alloc (ibx k a b)) W B G G (fun z => z = x)) => chg_box h h0.box.lt)
  have F0 := Lib.hid (p := DoF w (w.alloc (ibx k a b)) B G x tb ps s k a b) ⟨Chg.refl (hT.later (allocBP _ _)), h0.later (allocBP _ _)⟩
  have hl := hl
  have hz0 := hz
  have hz := Nat.le_succ_of_le hz
  have KT := Lib.hid (p := ∀ W, DoF w W B G x tb ps s k a b → B ≤ W.heap.size → Calls Tryd.prog 40 #[.pointer (some ⟨x, 0, none⟩), .int .i64 (tkA k : Int)] W fun e w' => e = .returned (aggS (vTak (tkA k) s.st)) ∧ B ≤ w'.heap.size ∧ ∃ tb2, DoF w w' B G x tb2 ps ⟨s.st.drop (tkA k), s.sl⟩ k a b) (fun W hW hb => by
    refine (takeV_any hW.chg.tri hW.sta (tkA k) (tab_facts k hk).2.2.2.1 hl hz).mono ?_
    rintro e w' ⟨h1, ⟨tb2, h2⟩, h3⟩
    exact ⟨h1, Nat.le_trans hb h3.size, tb2, hW.chg.trans (Chg.ofGrown hW.chg.tri h3 hW.sta.box (by decide) hW.sta.low), h2⟩)
  obtain ⟨x0, x1, x2, hv⟩ := tak3 (tkA k) s.st
  have HV := Lib.hid hv
  have KA := Lib.hid (p := ∀ W tb2, DoF w W B G x tb2 ps ⟨s.st.drop (tkA k), s.sl⟩ k a b → ∀ V, Below W.heap.size W V → Calls Tryd.prog 41 #[.int .i64 (k : Int), aggS [x0, x1, x2]] V fun e w' => e = .returned (.bool (decide (wtA k = [x0, x1, x2] ∨ wtA k = [3, 0, 0]))) ∧ Below V.heap.size V w') (fun W tb2 hW V bV => takesAll_any ((rul_bel hU (chg_first hT hB hW.chg) gl).lat bV) k hk x0 x1 x2)
  have KU := Lib.hid (p := ∀ W tb2, DoF w W B G x tb2 ps ⟨s.st.drop (tkA k), s.sl⟩ k a b → ∀ V, Below W.heap.size W V → V.cell? ⟨0, k * 4 + 3, none⟩ = some (.int .u8 (psA k : Int))) (fun W tb2 hW V bV => (((rul_bel hU (chg_first hT hB hW.chg) gl).lat bV).2 k hk).2.2.2)
  have CF := Lib.hid (p := ∀ W G', Chg (w.alloc (ibx k a b)) W B G G' (fun z => z = x) → Chg w W B G G' (fun z => z = x)) (fun W G' h => chg_first hT hB h)
  have KP := Lib.hid (p := ∀ W G1 tb2 ps2 s2 (v : Nat), Chg (w.alloc (ibx k a b)) W B G G1 (fun z => z = x) → SvR W B G1 x tb2 ps2 s2 → (v = 1 ∨ v = 2) → s2.st.length ≤ 262144 → B ≤ W.heap.size → Calls Tryd.prog 44 #[.pointer (some ⟨x, 0, none⟩), .int .u8 (v : Int)] W fun e w' => e = .returned (.tuple #[]) ∧ ∃ G' tb3, Chg w w' B G G' (fun z => z = x) ∧ SvR w' B G' x tb3 ps2 ⟨v :: s2.st, s2.sl⟩) (fun W G1 tb2 ps2 s2 v c1 h1 h2 h3 h4 => by
    refine (put_any c1.tri h1 v h2 h3 h4).mono ?_
    rintro e w' ⟨p1, G', tb3, p2, p3⟩
    exact ⟨p1, G', tb3, chg_first hT hB (c1.trans p2), p3⟩)
  have n1 : ¬ (s.st.length < tkA k ∨ (k = 0 ∧ 0 < s.st.length)) := by omega
  have hw2 := hw
  rw [hv] at hw2
  have q1 : decide (wtA k = [x0, x1, x2] ∨ wtA k = [3, 0, 0]) = true := decide_eq_true hw2
  simp only [q1] at KA
  have nw : ¬ ¬ (wtA k = vTak (tkA k) s.st ∨ wtA k = [3, 0, 0]) := not_not_intro hw
  have l0 : ¬ (s.st.length : Int) < (tkA k : Int) := by omega
  have kn : ¬ (k : Int) < 0 := by omega
  have k29 : (k : Int) < 29 := by omega
  have V := Lib.hid (p := vDo day s ⟨k, a, b⟩ = (0, ⟨psA k :: s.st.drop (tkA k), s.sl⟩)) (by unfold vDo; simp only [Int.toNat_natCast]; rw [if_neg n1, if_neg nw, if_neg h6, if_neg h7, if_neg h3, if_neg hp])
  have b6 : ((k : Int) == 6) = false := by simp; omega
  have b7 : ((k : Int) == 7) = false := by simp; omega
  have b3 : ((k : Int) == 3) = true := by simp; omega
  have hk0 : k ≠ 0 := by intro e; subst e; exact hp rfl
  have e0 : ((k : Int) == 0) = false := by simp; omega
  have PV := Lib.hid (p := psA k = 1 ∨ psA k = 2) (by have := (wt_facts k hk).2.2; omega)
  have LZ := Lib.hid (p := (s.st.drop (tkA k)).length ≤ 262144) (by rw [List.length_drop]; omega)
  have pz : ((psA k : Int) != 0) = true := by simp; omega
  have l3 : ¬ day < (b : Int) := fun q => h3 ⟨h33, q⟩
  generalize psA k = pk at *
  clear hT h0 hs hk ha hb hR hU gl hB hz hz0 hl he n1 hw hw2 hv q1 nw h6 h7 h3 hp hk0 h33
  unfold ibx at *
  go_enter Tryd.func26, Tryd.ntmps26
  go_wp2_with (first | (go_at_call 39; refine KE.out.mono ?_; rintro e w1 ⟨rfl, h1⟩; have F1 := Lib.hid (F0.out.later (Nat.le_trans LB.out (allocBP w (ibx k a b)).size) h1); have S1 := Lib.hid (p := B ≤ w1.heap.size) (Nat.le_trans LB.out (Nat.le_trans (allocBP w (ibx k a b)).size h1.size)); have i1 := (CI.out w1 F1.out.chg).cell 0; have c1 := F1.out.sta.box.cell 1; rw [stA_ht] at c1; simp at i1; clear h1) | (go_at_call 40; refine (KT.out w1 F1.out S1.out).mono ?_; rintro e w2 ⟨rfl, h1, tb2, h2⟩; rw [HV.out]; have F2 := Lib.hid h2; have S2 := Lib.hid h1; clear h1 h2; have i2 := (CI.out _ (F2.out.later S2.out (allocBP w2 (.cells #[.int .u8 (x0 : Int), .int .u8 (x1 : Int), .int .u8 (x2 : Int)] 95))).chg).cell 0; simp at i2; unfold aggS; simp only [List.map_cons, List.map_nil]) | (go_at_call 41; refine (KA.out w2 tb2 F2.out _ (allocBP _ _)).mono ?_; rintro e w3 ⟨rfl, h1⟩; have B3 := Lib.hid (p := Below w2.heap.size w2 w3) ((allocBP w2 (.cells #[.int .u8 (x0 : Int), .int .u8 (x1 : Int), .int .u8 (x2 : Int)] 95)).trans (h1.mono (allocBP _ _).size)); have F3 := Lib.hid (F2.out.later S2.out B3.out); have S3 := Lib.hid (p := B ≤ w3.heap.size) (Nat.le_trans S2.out B3.out.size); have i30 := (CI.out w3 F3.out.chg).cell 0; have i31 := (CI.out w3 F3.out.chg).cell 1; have i32 := (CI.out w3 F3.out.chg).cell 2; have r3 := KU.out w2 tb2 F2.out w3 B3.out; have t3 := BkP.cell (BkP.lat (heapN w2 (.cells #[.int .u8 (x0 : Int), .int .u8 (x1 : Int), .int .u8 (x2 : Int)] 95)) h1) 0; simp at i30 i31 i32 t3; clear h1) | (go_at_call 44; refine (KP.out _ _ _ _ _ _ F3.out.chg F3.out.sta PV.out LZ.out S3.out).mono ?_; rintro e w5 ⟨rfl, G5, tb5, c5, s5⟩; have C5 := Lib.hid c5; have S5 := Lib.hid s5; clear c5 s5))
  go_ret
  exact ⟨by rw [V.out]; rfl, G5, C5.out, fun e => by rw [V.out]; exact ⟨tb5, ps, S5.out⟩⟩
set_option maxRecDepth 100000 in
set_option maxHeartbeats 800000 in
theorem do_put1 {w : World} {B : Nat} {G : Tg} {x tb : Nat} {ps : Nat → Option Nat} {s : Vs} (hT : Tri w B G) (h0 : SvR w B G x tb ps s) (hs : s.ok) (k a b : Nat) (hk : k < 29) (ha : a < 262144) (hb : b < 262144) (day : Int) (hR : Rws w) (hU : Rul w) (gl : 0 < B) (hB : B ≤ w.heap.size) (hz : s.st.length ≤ 262143) (hl : tkA k ≤ s.st.length) (he : ¬ (k = 0 ∧ 0 < s.st.length)) (hw : wtA k = vTak (tkA k) s.st ∨ wtA k = [3, 0, 0]) (h6 : k ≠ 6) (h7 : k ≠ 7) (h3 : ¬ (k = 3 ∧ day < (b : Int))) (hp : psA k ≠ 0) (h33 : k ≠ 3) :
    Calls Tryd.prog 26 #[.pointer (some ⟨x, 0, none⟩), .agg #[.int .i64 (k : Int), .int .i64 (a : Int), .int .i64 (b : Int)], .int .i64 day] w fun e w' => DoE w B G x day s ⟨k, a, b⟩ e w' := by
  have LB := Lib.hid hB
  have B0 := Lib.hid (allocBP w (ibx k a b))
  have KE := Lib.hid (effect_any (op := (k : Int)) ⟨.inl ⟨k, hk, rfl, rfl, rfl, rfl, rfl, rfl, rfl, rfl⟩⟩ (w.alloc (ibx k a b)) (hR.alloc _))
  have CI := Lib.hid (fun W (h : Chg (w.alloc (ibx k a b)) W B G G (fun z => z = x)) => chg_box h h0.box.lt)
  have F0 := Lib.hid (p := DoF w (w.alloc (ibx k a b)) B G x tb ps s k a b) ⟨Chg.refl (hT.later (allocBP _ _)), h0.later (allocBP _ _)⟩
  have hl := hl
  have hz0 := hz
  have hz := Nat.le_succ_of_le hz
  have KT := Lib.hid (p := ∀ W, DoF w W B G x tb ps s k a b → B ≤ W.heap.size → Calls Tryd.prog 40 #[.pointer (some ⟨x, 0, none⟩), .int .i64 (tkA k : Int)] W fun e w' => e = .returned (aggS (vTak (tkA k) s.st)) ∧ B ≤ w'.heap.size ∧ ∃ tb2, DoF w w' B G x tb2 ps ⟨s.st.drop (tkA k), s.sl⟩ k a b) (fun W hW hb => by
    refine (takeV_any hW.chg.tri hW.sta (tkA k) (tab_facts k hk).2.2.2.1 hl hz).mono ?_
    rintro e w' ⟨h1, ⟨tb2, h2⟩, h3⟩
    exact ⟨h1, Nat.le_trans hb h3.size, tb2, hW.chg.trans (Chg.ofGrown hW.chg.tri h3 hW.sta.box (by decide) hW.sta.low), h2⟩)
  obtain ⟨x0, x1, x2, hv⟩ := tak3 (tkA k) s.st
  have HV := Lib.hid hv
  have KA := Lib.hid (p := ∀ W tb2, DoF w W B G x tb2 ps ⟨s.st.drop (tkA k), s.sl⟩ k a b → ∀ V, Below W.heap.size W V → Calls Tryd.prog 41 #[.int .i64 (k : Int), aggS [x0, x1, x2]] V fun e w' => e = .returned (.bool (decide (wtA k = [x0, x1, x2] ∨ wtA k = [3, 0, 0]))) ∧ Below V.heap.size V w') (fun W tb2 hW V bV => takesAll_any ((rul_bel hU (chg_first hT hB hW.chg) gl).lat bV) k hk x0 x1 x2)
  have KU := Lib.hid (p := ∀ W tb2, DoF w W B G x tb2 ps ⟨s.st.drop (tkA k), s.sl⟩ k a b → ∀ V, Below W.heap.size W V → V.cell? ⟨0, k * 4 + 3, none⟩ = some (.int .u8 (psA k : Int))) (fun W tb2 hW V bV => (((rul_bel hU (chg_first hT hB hW.chg) gl).lat bV).2 k hk).2.2.2)
  have CF := Lib.hid (p := ∀ W G', Chg (w.alloc (ibx k a b)) W B G G' (fun z => z = x) → Chg w W B G G' (fun z => z = x)) (fun W G' h => chg_first hT hB h)
  have KP := Lib.hid (p := ∀ W G1 tb2 ps2 s2 (v : Nat), Chg (w.alloc (ibx k a b)) W B G G1 (fun z => z = x) → SvR W B G1 x tb2 ps2 s2 → (v = 1 ∨ v = 2) → s2.st.length ≤ 262144 → B ≤ W.heap.size → Calls Tryd.prog 44 #[.pointer (some ⟨x, 0, none⟩), .int .u8 (v : Int)] W fun e w' => e = .returned (.tuple #[]) ∧ ∃ G' tb3, Chg w w' B G G' (fun z => z = x) ∧ SvR w' B G' x tb3 ps2 ⟨v :: s2.st, s2.sl⟩) (fun W G1 tb2 ps2 s2 v c1 h1 h2 h3 h4 => by
    refine (put_any c1.tri h1 v h2 h3 h4).mono ?_
    rintro e w' ⟨p1, G', tb3, p2, p3⟩
    exact ⟨p1, G', tb3, chg_first hT hB (c1.trans p2), p3⟩)
  have n1 : ¬ (s.st.length < tkA k ∨ (k = 0 ∧ 0 < s.st.length)) := by omega
  have hw2 := hw
  rw [hv] at hw2
  have q1 : decide (wtA k = [x0, x1, x2] ∨ wtA k = [3, 0, 0]) = true := decide_eq_true hw2
  simp only [q1] at KA
  have nw : ¬ ¬ (wtA k = vTak (tkA k) s.st ∨ wtA k = [3, 0, 0]) := not_not_intro hw
  have l0 : ¬ (s.st.length : Int) < (tkA k : Int) := by omega
  have kn : ¬ (k : Int) < 0 := by omega
  have k29 : (k : Int) < 29 := by omega
  have V := Lib.hid (p := vDo day s ⟨k, a, b⟩ = (0, ⟨psA k :: s.st.drop (tkA k), s.sl⟩)) (by unfold vDo; simp only [Int.toNat_natCast]; rw [if_neg n1, if_neg nw, if_neg h6, if_neg h7, if_neg h3, if_neg hp])
  have b6 : ((k : Int) == 6) = false := by simp; omega
  have b7 : ((k : Int) == 7) = false := by simp; omega
  have b3 : ((k : Int) == 3) = false := by simp; omega
  have hk0 : k ≠ 0 := by intro e; subst e; exact hp rfl
  have e0 : ((k : Int) == 0) = false := by simp; omega
  have PV := Lib.hid (p := psA k = 1 ∨ psA k = 2) (by have := (wt_facts k hk).2.2; omega)
  have LZ := Lib.hid (p := (s.st.drop (tkA k)).length ≤ 262144) (by rw [List.length_drop]; omega)
  have pz : ((psA k : Int) != 0) = true := by simp; omega
  generalize psA k = pk at *
  clear hT h0 hs hk ha hb hR hU gl hB hz hz0 hl he n1 hw hw2 hv q1 nw h6 h7 h3 hp hk0 h33
  unfold ibx at *
  go_enter Tryd.func26, Tryd.ntmps26
  go_wp2_with (first | (go_at_call 39; refine KE.out.mono ?_; rintro e w1 ⟨rfl, h1⟩; have F1 := Lib.hid (F0.out.later (Nat.le_trans LB.out (allocBP w (ibx k a b)).size) h1); have S1 := Lib.hid (p := B ≤ w1.heap.size) (Nat.le_trans LB.out (Nat.le_trans (allocBP w (ibx k a b)).size h1.size)); have i1 := (CI.out w1 F1.out.chg).cell 0; have c1 := F1.out.sta.box.cell 1; rw [stA_ht] at c1; simp at i1; clear h1) | (go_at_call 40; refine (KT.out w1 F1.out S1.out).mono ?_; rintro e w2 ⟨rfl, h1, tb2, h2⟩; rw [HV.out]; have F2 := Lib.hid h2; have S2 := Lib.hid h1; clear h1 h2; have i2 := (CI.out _ (F2.out.later S2.out (allocBP w2 (.cells #[.int .u8 (x0 : Int), .int .u8 (x1 : Int), .int .u8 (x2 : Int)] 95))).chg).cell 0; simp at i2; unfold aggS; simp only [List.map_cons, List.map_nil]) | (go_at_call 41; refine (KA.out w2 tb2 F2.out _ (allocBP _ _)).mono ?_; rintro e w3 ⟨rfl, h1⟩; have B3 := Lib.hid (p := Below w2.heap.size w2 w3) ((allocBP w2 (.cells #[.int .u8 (x0 : Int), .int .u8 (x1 : Int), .int .u8 (x2 : Int)] 95)).trans (h1.mono (allocBP _ _).size)); have F3 := Lib.hid (F2.out.later S2.out B3.out); have S3 := Lib.hid (p := B ≤ w3.heap.size) (Nat.le_trans S2.out B3.out.size); have i30 := (CI.out w3 F3.out.chg).cell 0; have i31 := (CI.out w3 F3.out.chg).cell 1; have i32 := (CI.out w3 F3.out.chg).cell 2; have r3 := KU.out w2 tb2 F2.out w3 B3.out; have t3 := BkP.cell (BkP.lat (heapN w2 (.cells #[.int .u8 (x0 : Int), .int .u8 (x1 : Int), .int .u8 (x2 : Int)] 95)) h1) 0; simp at i30 i31 i32 t3; clear h1) | (go_at_call 44; refine (KP.out _ _ _ _ _ _ F3.out.chg F3.out.sta PV.out LZ.out S3.out).mono ?_; rintro e w5 ⟨rfl, G5, tb5, c5, s5⟩; have C5 := Lib.hid c5; have S5 := Lib.hid s5; clear c5 s5))
  go_ret
  exact ⟨by rw [V.out]; rfl, G5, C5.out, fun e => by rw [V.out]; exact ⟨tb5, ps, S5.out⟩⟩
set_option maxRecDepth 100000 in
set_option maxHeartbeats 800000 in
theorem do_keep {w : World} {B : Nat} {G : Tg} {x tb : Nat} {ps : Nat → Option Nat} {s : Vs} (hT : Tri w B G) (h0 : SvR w B G x tb ps s) (hs : s.ok) (k a b : Nat) (hk : k < 29) (ha : a < 262144) (hb : b < 262144) (day : Int) (hR : Rws w) (hU : Rul w) (gl : 0 < B) (hB : B ≤ w.heap.size) (hz : s.st.length ≤ 262143) (hl : tkA k ≤ s.st.length) (he : ¬ (k = 0 ∧ 0 < s.st.length)) (hw : wtA k = vTak (tkA k) s.st ∨ wtA k = [3, 0, 0]) (h6 : k = 6) (ha6 : a < 16384) :
    Calls Tryd.prog 26 #[.pointer (some ⟨x, 0, none⟩), .agg #[.int .i64 (k : Int), .int .i64 (a : Int), .int .i64 (b : Int)], .int .i64 day] w fun e w' => DoE w B G x day s ⟨k, a, b⟩ e w' := by
  have LB := Lib.hid hB
  have B0 := Lib.hid (allocBP w (ibx k a b))
  have KE := Lib.hid (effect_any (op := (k : Int)) ⟨.inl ⟨k, hk, rfl, rfl, rfl, rfl, rfl, rfl, rfl, rfl⟩⟩ (w.alloc (ibx k a b)) (hR.alloc _))
  have CI := Lib.hid (fun W (h : Chg (w.alloc (ibx k a b)) W B G G (fun z => z = x)) => chg_box h h0.box.lt)
  have F0 := Lib.hid (p := DoF w (w.alloc (ibx k a b)) B G x tb ps s k a b) ⟨Chg.refl (hT.later (allocBP _ _)), h0.later (allocBP _ _)⟩
  have hl := hl
  have hz0 := hz
  have hz := Nat.le_succ_of_le hz
  have KT := Lib.hid (p := ∀ W, DoF w W B G x tb ps s k a b → B ≤ W.heap.size → Calls Tryd.prog 40 #[.pointer (some ⟨x, 0, none⟩), .int .i64 (tkA k : Int)] W fun e w' => e = .returned (aggS (vTak (tkA k) s.st)) ∧ B ≤ w'.heap.size ∧ ∃ tb2, DoF w w' B G x tb2 ps ⟨s.st.drop (tkA k), s.sl⟩ k a b) (fun W hW hb => by
    refine (takeV_any hW.chg.tri hW.sta (tkA k) (tab_facts k hk).2.2.2.1 hl hz).mono ?_
    rintro e w' ⟨h1, ⟨tb2, h2⟩, h3⟩
    exact ⟨h1, Nat.le_trans hb h3.size, tb2, hW.chg.trans (Chg.ofGrown hW.chg.tri h3 hW.sta.box (by decide) hW.sta.low), h2⟩)
  obtain ⟨x0, x1, x2, hv⟩ := tak3 (tkA k) s.st
  have HV := Lib.hid hv
  have KA := Lib.hid (p := ∀ W tb2, DoF w W B G x tb2 ps ⟨s.st.drop (tkA k), s.sl⟩ k a b → ∀ V, Below W.heap.size W V → Calls Tryd.prog 41 #[.int .i64 (k : Int), aggS [x0, x1, x2]] V fun e w' => e = .returned (.bool (decide (wtA k = [x0, x1, x2] ∨ wtA k = [3, 0, 0]))) ∧ Below V.heap.size V w') (fun W tb2 hW V bV => takesAll_any ((rul_bel hU (chg_first hT hB hW.chg) gl).lat bV) k hk x0 x1 x2)
  have KU := Lib.hid (p := ∀ W tb2, DoF w W B G x tb2 ps ⟨s.st.drop (tkA k), s.sl⟩ k a b → ∀ V, Below W.heap.size W V → V.cell? ⟨0, k * 4 + 3, none⟩ = some (.int .u8 (psA k : Int))) (fun W tb2 hW V bV => (((rul_bel hU (chg_first hT hB hW.chg) gl).lat bV).2 k hk).2.2.2)
  have CF := Lib.hid (p := ∀ W G', Chg (w.alloc (ibx k a b)) W B G G' (fun z => z = x) → Chg w W B G G' (fun z => z = x)) (fun W G' h => chg_first hT hB h)
  have KP := Lib.hid (p := ∀ W G1 tb2 ps2 s2 (v : Nat), Chg (w.alloc (ibx k a b)) W B G G1 (fun z => z = x) → SvR W B G1 x tb2 ps2 s2 → (v = 1 ∨ v = 2) → s2.st.length ≤ 262144 → B ≤ W.heap.size → Calls Tryd.prog 44 #[.pointer (some ⟨x, 0, none⟩), .int .u8 (v : Int)] W fun e w' => e = .returned (.tuple #[]) ∧ ∃ G' tb3, Chg w w' B G G' (fun z => z = x) ∧ SvR w' B G' x tb3 ps2 ⟨v :: s2.st, s2.sl⟩) (fun W G1 tb2 ps2 s2 v c1 h1 h2 h3 h4 => by
    refine (put_any c1.tri h1 v h2 h3 h4).mono ?_
    rintro e w' ⟨p1, G', tb3, p2, p3⟩
    exact ⟨p1, G', tb3, chg_first hT hB (c1.trans p2), p3⟩)
  have n1 : ¬ (s.st.length < tkA k ∨ (k = 0 ∧ 0 < s.st.length)) := by omega
  have hw2 := hw
  rw [hv] at hw2
  have q1 : decide (wtA k = [x0, x1, x2] ∨ wtA k = [3, 0, 0]) = true := decide_eq_true hw2
  simp only [q1] at KA
  have nw : ¬ ¬ (wtA k = vTak (tkA k) s.st ∨ wtA k = [3, 0, 0]) := not_not_intro hw
  have l0 : ¬ (s.st.length : Int) < (tkA k : Int) := by omega
  have kn : ¬ (k : Int) < 0 := by omega
  have k29 : (k : Int) < 29 := by omega
  have ht : tkA k = 1 := by rw [h6]; decide
  have e00 : x0 = s.st.getD 0 0 := by
    rw [ht] at hv
    injection hv with q
    exact q.symm
  have hx0 : x0 = 1 ∨ x0 = 2 := by
    rw [e00]
    exact getD_sort hs.1 (by omega)
  have KK := Lib.hid (p := ∀ W tb2, DoF w W B G x tb2 ps ⟨s.st.drop (tkA k), s.sl⟩ k a b → B ≤ W.heap.size → Calls Tryd.prog 42 #[.pointer (some ⟨x, 2, none⟩), .int .i64 (a : Int), .int .u8 (x0 : Int)] W fun e w' => e = .returned (.tuple #[]) ∧ B ≤ w'.heap.size ∧ ∃ tb4 ps4, Chg (w.alloc (ibx k a b)) w' B G G (fun z => z = x) ∧ SvR w' B G x tb4 ps4 ⟨s.st.drop (tkA k), vKeep s.sl a x0⟩) (fun W tb2 hW hb => by
    refine (keep_any hW.chg.tri hW.sta a ha6 x0 hx0 hb).mono ?_
    rintro e w' ⟨p1, p2, tb4, ps4, p3⟩
    exact ⟨p1, Nat.le_trans hb p2.bel.size, tb4, ps4, hW.chg.trans p2, p3⟩)
  have V := Lib.hid (p := vDo day s ⟨k, a, b⟩ = (0, ⟨x0 :: s.st.drop (tkA k), vKeep s.sl a x0⟩)) (by unfold vDo; simp only [Int.toNat_natCast]; rw [if_neg n1, if_neg nw, if_pos h6, ht, e00])
  have b6 : ((k : Int) == 6) = true := by simp; omega
  have e0 : ((k : Int) == 0) = false := by simp; omega
  have PV := Lib.hid (p := x0 = 1 ∨ x0 = 2) hx0
  have LZ := Lib.hid (p := (s.st.drop (tkA k)).length ≤ 262144) (by rw [List.length_drop]; omega)
  have pz : ((x0 : Int) != 0) = true := by simp; omega
  clear hT h0 hs hk ha hb hR hU gl hB hz hz0 hl he n1 hw hw2 hv q1 nw h6 ha6 ht e00 hx0
  unfold ibx at *
  go_enter Tryd.func26, Tryd.ntmps26
  go_wp2_with (first | (go_at_call 39; refine KE.out.mono ?_; rintro e w1 ⟨rfl, h1⟩; have F1 := Lib.hid (F0.out.later (Nat.le_trans LB.out (allocBP w (ibx k a b)).size) h1); have S1 := Lib.hid (p := B ≤ w1.heap.size) (Nat.le_trans LB.out (Nat.le_trans (allocBP w (ibx k a b)).size h1.size)); have i1 := (CI.out w1 F1.out.chg).cell 0; have c1 := F1.out.sta.box.cell 1; rw [stA_ht] at c1; simp at i1; clear h1) | (go_at_call 40; refine (KT.out w1 F1.out S1.out).mono ?_; rintro e w2 ⟨rfl, h1, tb2, h2⟩; rw [HV.out]; have F2 := Lib.hid h2; have S2 := Lib.hid h1; clear h1 h2; have i2 := (CI.out _ (F2.out.later S2.out (allocBP w2 (.cells #[.int .u8 (x0 : Int), .int .u8 (x1 : Int), .int .u8 (x2 : Int)] 95))).chg).cell 0; simp at i2; unfold aggS; simp only [List.map_cons, List.map_nil]) | (go_at_call 41; refine (KA.out w2 tb2 F2.out _ (allocBP _ _)).mono ?_; rintro e w3 ⟨rfl, h1⟩; have B3 := Lib.hid (p := Below w2.heap.size w2 w3) ((allocBP w2 (.cells #[.int .u8 (x0 : Int), .int .u8 (x1 : Int), .int .u8 (x2 : Int)] 95)).trans (h1.mono (allocBP _ _).size)); have F3 := Lib.hid (F2.out.later S2.out B3.out); have S3 := Lib.hid (p := B ≤ w3.heap.size) (Nat.le_trans S2.out B3.out.size); have i30 := (CI.out w3 F3.out.chg).cell 0; have i31 := (CI.out w3 F3.out.chg).cell 1; have i32 := (CI.out w3 F3.out.chg).cell 2; have r3 := KU.out w2 tb2 F2.out w3 B3.out; have t3 := BkP.cell (BkP.lat (heapN w2 (.cells #[.int .u8 (x0 : Int), .int .u8 (x1 : Int), .int .u8 (x2 : Int)] 95)) h1) 0; simp at i30 i31 i32 t3; clear h1))
  go_region_with (go_at_call 42; refine (KK.out _ _ (by first | exact F3.out | exact F3.out.later S3.out (drew1B _)) (by exact S3.out)).mono ?_; rintro e w4 ⟨rfl, h1, tb4, ps4, h2, h3⟩; have S4 := Lib.hid h1; have C4 := Lib.hid h2; have T4 := Lib.hid h3; clear h1 h2 h3)
  all_goals
    go_wp2_with (go_at_call 44; refine (KP.out _ _ _ _ _ _ (by first | exact C4.out | exact C4.out.later S4.out (drew1B _)) (by first | exact T4.out | exact T4.out.later (drew1B _)) PV.out LZ.out (by exact S4.out)).mono ?_; rintro e w5 ⟨rfl, G5, tb5, c5, s5⟩; have C5 := Lib.hid c5; have S5 := Lib.hid s5; clear c5 s5)
    go_ret
    exact ⟨by rw [V.out]; rfl, G5, C5.out, fun e => by rw [V.out]; exact ⟨tb5, ps4, S5.out⟩⟩
set_option maxRecDepth 100000 in
set_option maxHeartbeats 800000 in
theorem do_get0 {w : World} {B : Nat} {G : Tg} {x tb : Nat} {ps : Nat → Option Nat} {s : Vs} (hT : Tri w B G) (h0 : SvR w B G x tb ps s) (hs : s.ok) (k a b : Nat) (hk : k < 29) (ha : a < 262144) (hb : b < 262144) (day : Int) (hR : Rws w) (hU : Rul w) (gl : 0 < B) (hB : B ≤ w.heap.size) (hz : s.st.length ≤ 262143) (hl : tkA k ≤ s.st.length) (he : ¬ (k = 0 ∧ 0 < s.st.length)) (hw : wtA k = vTak (tkA k) s.st ∨ wtA k = [3, 0, 0]) (h7 : k = 7) (ha6 : a < 16384) (hg : s.sl a = 0) :
    Calls Tryd.prog 26 #[.pointer (some ⟨x, 0, none⟩), .agg #[.int .i64 (k : Int), .int .i64 (a : Int), .int .i64 (b : Int)], .int .i64 day] w fun e w' => DoE w B G x day s ⟨k, a, b⟩ e w' := by
  have LB := Lib.hid hB
  have B0 := Lib.hid (allocBP w (ibx k a b))
  have KE := Lib.hid (effect_any (op := (k : Int)) ⟨.inl ⟨k, hk, rfl, rfl, rfl, rfl, rfl, rfl, rfl, rfl⟩⟩ (w.alloc (ibx k a b)) (hR.alloc _))
  have CI := Lib.hid (fun W (h : Chg (w.alloc (ibx k a b)) W B G G (fun z => z = x)) => chg_box h h0.box.lt)
  have F0 := Lib.hid (p := DoF w (w.alloc (ibx k a b)) B G x tb ps s k a b) ⟨Chg.refl (hT.later (allocBP _ _)), h0.later (allocBP _ _)⟩
  have hl := hl
  have hz0 := hz
  have hz := Nat.le_succ_of_le hz
  have KT := Lib.hid (p := ∀ W, DoF w W B G x tb ps s k a b → B ≤ W.heap.size → Calls Tryd.prog 40 #[.pointer (some ⟨x, 0, none⟩), .int .i64 (tkA k : Int)] W fun e w' => e = .returned (aggS (vTak (tkA k) s.st)) ∧ B ≤ w'.heap.size ∧ ∃ tb2, DoF w w' B G x tb2 ps ⟨s.st.drop (tkA k), s.sl⟩ k a b) (fun W hW hb => by
    refine (takeV_any hW.chg.tri hW.sta (tkA k) (tab_facts k hk).2.2.2.1 hl hz).mono ?_
    rintro e w' ⟨h1, ⟨tb2, h2⟩, h3⟩
    exact ⟨h1, Nat.le_trans hb h3.size, tb2, hW.chg.trans (Chg.ofGrown hW.chg.tri h3 hW.sta.box (by decide) hW.sta.low), h2⟩)
  obtain ⟨x0, x1, x2, hv⟩ := tak3 (tkA k) s.st
  have HV := Lib.hid hv
  have KA := Lib.hid (p := ∀ W tb2, DoF w W B G x tb2 ps ⟨s.st.drop (tkA k), s.sl⟩ k a b → ∀ V, Below W.heap.size W V → Calls Tryd.prog 41 #[.int .i64 (k : Int), aggS [x0, x1, x2]] V fun e w' => e = .returned (.bool (decide (wtA k = [x0, x1, x2] ∨ wtA k = [3, 0, 0]))) ∧ Below V.heap.size V w') (fun W tb2 hW V bV => takesAll_any ((rul_bel hU (chg_first hT hB hW.chg) gl).lat bV) k hk x0 x1 x2)
  have KU := Lib.hid (p := ∀ W tb2, DoF w W B G x tb2 ps ⟨s.st.drop (tkA k), s.sl⟩ k a b → ∀ V, Below W.heap.size W V → V.cell? ⟨0, k * 4 + 3, none⟩ = some (.int .u8 (psA k : Int))) (fun W tb2 hW V bV => (((rul_bel hU (chg_first hT hB hW.chg) gl).lat bV).2 k hk).2.2.2)
  have CF := Lib.hid (p := ∀ W G', Chg (w.alloc (ibx k a b)) W B G G' (fun z => z = x) → Chg w W B G G' (fun z => z = x)) (fun W G' h => chg_first hT hB h)
  have KP := Lib.hid (p := ∀ W G1 tb2 ps2 s2 (v : Nat), Chg (w.alloc (ibx k a b)) W B G G1 (fun z => z = x) → SvR W B G1 x tb2 ps2 s2 → (v = 1 ∨ v = 2) → s2.st.length ≤ 262144 → B ≤ W.heap.size → Calls Tryd.prog 44 #[.pointer (some ⟨x, 0, none⟩), .int .u8 (v : Int)] W fun e w' => e = .returned (.tuple #[]) ∧ ∃ G' tb3, Chg w w' B G G' (fun z => z = x) ∧ SvR w' B G' x tb3 ps2 ⟨v :: s2.st, s2.sl⟩) (fun W G1 tb2 ps2 s2 v c1 h1 h2 h3 h4 => by
    refine (put_any c1.tri h1 v h2 h3 h4).mono ?_
    rintro e w' ⟨p1, G', tb3, p2, p3⟩
    exact ⟨p1, G', tb3, chg_first hT hB (c1.trans p2), p3⟩)
  have n1 : ¬ (s.st.length < tkA k ∨ (k = 0 ∧ 0 < s.st.length)) := by omega
  have hw2 := hw
  rw [hv] at hw2
  have q1 : decide (wtA k = [x0, x1, x2] ∨ wtA k = [3, 0, 0]) = true := decide_eq_true hw2
  simp only [q1] at KA
  have nw : ¬ ¬ (wtA k = vTak (tkA k) s.st ∨ wtA k = [3, 0, 0]) := not_not_intro hw
  have l0 : ¬ (s.st.length : Int) < (tkA k : Int) := by omega
  have kn : ¬ (k : Int) < 0 := by omega
  have k29 : (k : Int) < 29 := by omega
  have KG := Lib.hid (p := ∀ W tb2, DoF w W B G x tb2 ps ⟨s.st.drop (tkA k), s.sl⟩ k a b → Calls Tryd.prog 43 #[.pointer (some ⟨x, 2, none⟩), .int .i64 (a : Int)] W fun e w' => e = .returned (.int .u8 ((s.sl a : Nat) : Int)) ∧ Below W.heap.size W w') (fun W tb2 hW => kept_any hW.sta a ha6)
  have V := Lib.hid (p := vDo day s ⟨k, a, b⟩ = (144, s)) (by unfold vDo; simp only [Int.toNat_natCast]; rw [if_neg n1, if_neg nw, if_neg (by omega), if_pos h7, if_pos hg])
  have pz : (((s.sl a : Nat) : Int) == 0) = true := by simp; omega
  have b6 : ((k : Int) == 6) = false := by simp; omega
  have b7 : ((k : Int) == 7) = true := by simp; omega
  have e0 : ((k : Int) == 0) = false := by simp; omega
  generalize s.sl a = v at *
  clear hT h0 hs hk ha hb hR hU gl hB hz hz0 hl he n1 hw hw2 hv q1 nw h7 ha6 hg
  unfold ibx at *
  go_enter Tryd.func26, Tryd.ntmps26
  go_wp2_with (first | (go_at_call 39; refine KE.out.mono ?_; rintro e w1 ⟨rfl, h1⟩; have F1 := Lib.hid (F0.out.later (Nat.le_trans LB.out (allocBP w (ibx k a b)).size) h1); have S1 := Lib.hid (p := B ≤ w1.heap.size) (Nat.le_trans LB.out (Nat.le_trans (allocBP w (ibx k a b)).size h1.size)); have i1 := (CI.out w1 F1.out.chg).cell 0; have c1 := F1.out.sta.box.cell 1; rw [stA_ht] at c1; simp at i1; clear h1) | (go_at_call 40; refine (KT.out w1 F1.out S1.out).mono ?_; rintro e w2 ⟨rfl, h1, tb2, h2⟩; rw [HV.out]; have F2 := Lib.hid h2; have S2 := Lib.hid h1; clear h1 h2; have i2 := (CI.out _ (F2.out.later S2.out (allocBP w2 (.cells #[.int .u8 (x0 : Int), .int .u8 (x1 : Int), .int .u8 (x2 : Int)] 95))).chg).cell 0; simp at i2; unfold aggS; simp only [List.map_cons, List.map_nil]) | (go_at_call 41; refine (KA.out w2 tb2 F2.out _ (allocBP _ _)).mono ?_; rintro e w3 ⟨rfl, h1⟩; have B3 := Lib.hid (p := Below w2.heap.size w2 w3) ((allocBP w2 (.cells #[.int .u8 (x0 : Int), .int .u8 (x1 : Int), .int .u8 (x2 : Int)] 95)).trans (h1.mono (allocBP _ _).size)); have F3 := Lib.hid (F2.out.later S2.out B3.out); have S3 := Lib.hid (p := B ≤ w3.heap.size) (Nat.le_trans S2.out B3.out.size); have i30 := (CI.out w3 F3.out.chg).cell 0; have i31 := (CI.out w3 F3.out.chg).cell 1; have i32 := (CI.out w3 F3.out.chg).cell 2; have r3 := KU.out w2 tb2 F2.out w3 B3.out; have t3 := BkP.cell (BkP.lat (heapN w2 (.cells #[.int .u8 (x0 : Int), .int .u8 (x1 : Int), .int .u8 (x2 : Int)] 95)) h1) 0; simp at i30 i31 i32 t3; clear h1))
  go_region_with (go_at_call 43; refine (KG.out _ _ (by first | exact F3.out | exact F3.out.later S3.out (drew1B _))).mono ?_; rintro e w4 ⟨rfl, h1⟩; have F4 := Lib.hid (F3.out.later S3.out (by first | exact h1 | exact (drew1B _).trans h1)); have S4 := Lib.hid (p := B ≤ w4.heap.size) (Nat.le_trans S3.out h1.size); clear h1)
  all_goals
    go_wp2
    go_ret
    exact ⟨by rw [V.out]; rfl, G, CF.out _ _ (by first | exact F4.out.chg | exact F4.out.chg.later S4.out (drew1B _)), fun e => by rw [V.out] at e; cases e⟩
set_option maxRecDepth 100000 in
set_option maxHeartbeats 800000 in
theorem do_get1 {w : World} {B : Nat} {G : Tg} {x tb : Nat} {ps : Nat → Option Nat} {s : Vs} (hT : Tri w B G) (h0 : SvR w B G x tb ps s) (hs : s.ok) (k a b : Nat) (hk : k < 29) (ha : a < 262144) (hb : b < 262144) (day : Int) (hR : Rws w) (hU : Rul w) (gl : 0 < B) (hB : B ≤ w.heap.size) (hz : s.st.length ≤ 262143) (hl : tkA k ≤ s.st.length) (he : ¬ (k = 0 ∧ 0 < s.st.length)) (hw : wtA k = vTak (tkA k) s.st ∨ wtA k = [3, 0, 0]) (h7 : k = 7) (ha6 : a < 16384) (hg : s.sl a ≠ 0) :
    Calls Tryd.prog 26 #[.pointer (some ⟨x, 0, none⟩), .agg #[.int .i64 (k : Int), .int .i64 (a : Int), .int .i64 (b : Int)], .int .i64 day] w fun e w' => DoE w B G x day s ⟨k, a, b⟩ e w' := by
  have LB := Lib.hid hB
  have B0 := Lib.hid (allocBP w (ibx k a b))
  have KE := Lib.hid (effect_any (op := (k : Int)) ⟨.inl ⟨k, hk, rfl, rfl, rfl, rfl, rfl, rfl, rfl, rfl⟩⟩ (w.alloc (ibx k a b)) (hR.alloc _))
  have CI := Lib.hid (fun W (h : Chg (w.alloc (ibx k a b)) W B G G (fun z => z = x)) => chg_box h h0.box.lt)
  have F0 := Lib.hid (p := DoF w (w.alloc (ibx k a b)) B G x tb ps s k a b) ⟨Chg.refl (hT.later (allocBP _ _)), h0.later (allocBP _ _)⟩
  have hl := hl
  have hz0 := hz
  have hz := Nat.le_succ_of_le hz
  have KT := Lib.hid (p := ∀ W, DoF w W B G x tb ps s k a b → B ≤ W.heap.size → Calls Tryd.prog 40 #[.pointer (some ⟨x, 0, none⟩), .int .i64 (tkA k : Int)] W fun e w' => e = .returned (aggS (vTak (tkA k) s.st)) ∧ B ≤ w'.heap.size ∧ ∃ tb2, DoF w w' B G x tb2 ps ⟨s.st.drop (tkA k), s.sl⟩ k a b) (fun W hW hb => by
    refine (takeV_any hW.chg.tri hW.sta (tkA k) (tab_facts k hk).2.2.2.1 hl hz).mono ?_
    rintro e w' ⟨h1, ⟨tb2, h2⟩, h3⟩
    exact ⟨h1, Nat.le_trans hb h3.size, tb2, hW.chg.trans (Chg.ofGrown hW.chg.tri h3 hW.sta.box (by decide) hW.sta.low), h2⟩)
  obtain ⟨x0, x1, x2, hv⟩ := tak3 (tkA k) s.st
  have HV := Lib.hid hv
  have KA := Lib.hid (p := ∀ W tb2, DoF w W B G x tb2 ps ⟨s.st.drop (tkA k), s.sl⟩ k a b → ∀ V, Below W.heap.size W V → Calls Tryd.prog 41 #[.int .i64 (k : Int), aggS [x0, x1, x2]] V fun e w' => e = .returned (.bool (decide (wtA k = [x0, x1, x2] ∨ wtA k = [3, 0, 0]))) ∧ Below V.heap.size V w') (fun W tb2 hW V bV => takesAll_any ((rul_bel hU (chg_first hT hB hW.chg) gl).lat bV) k hk x0 x1 x2)
  have KU := Lib.hid (p := ∀ W tb2, DoF w W B G x tb2 ps ⟨s.st.drop (tkA k), s.sl⟩ k a b → ∀ V, Below W.heap.size W V → V.cell? ⟨0, k * 4 + 3, none⟩ = some (.int .u8 (psA k : Int))) (fun W tb2 hW V bV => (((rul_bel hU (chg_first hT hB hW.chg) gl).lat bV).2 k hk).2.2.2)
  have CF := Lib.hid (p := ∀ W G', Chg (w.alloc (ibx k a b)) W B G G' (fun z => z = x) → Chg w W B G G' (fun z => z = x)) (fun W G' h => chg_first hT hB h)
  have KP := Lib.hid (p := ∀ W G1 tb2 ps2 s2 (v : Nat), Chg (w.alloc (ibx k a b)) W B G G1 (fun z => z = x) → SvR W B G1 x tb2 ps2 s2 → (v = 1 ∨ v = 2) → s2.st.length ≤ 262144 → B ≤ W.heap.size → Calls Tryd.prog 44 #[.pointer (some ⟨x, 0, none⟩), .int .u8 (v : Int)] W fun e w' => e = .returned (.tuple #[]) ∧ ∃ G' tb3, Chg w w' B G G' (fun z => z = x) ∧ SvR w' B G' x tb3 ps2 ⟨v :: s2.st, s2.sl⟩) (fun W G1 tb2 ps2 s2 v c1 h1 h2 h3 h4 => by
    refine (put_any c1.tri h1 v h2 h3 h4).mono ?_
    rintro e w' ⟨p1, G', tb3, p2, p3⟩
    exact ⟨p1, G', tb3, chg_first hT hB (c1.trans p2), p3⟩)
  have n1 : ¬ (s.st.length < tkA k ∨ (k = 0 ∧ 0 < s.st.length)) := by omega
  have hw2 := hw
  rw [hv] at hw2
  have q1 : decide (wtA k = [x0, x1, x2] ∨ wtA k = [3, 0, 0]) = true := decide_eq_true hw2
  simp only [q1] at KA
  have nw : ¬ ¬ (wtA k = vTak (tkA k) s.st ∨ wtA k = [3, 0, 0]) := not_not_intro hw
  have l0 : ¬ (s.st.length : Int) < (tkA k : Int) := by omega
  have kn : ¬ (k : Int) < 0 := by omega
  have k29 : (k : Int) < 29 := by omega
  have KG := Lib.hid (p := ∀ W tb2, DoF w W B G x tb2 ps ⟨s.st.drop (tkA k), s.sl⟩ k a b → Calls Tryd.prog 43 #[.pointer (some ⟨x, 2, none⟩), .int .i64 (a : Int)] W fun e w' => e = .returned (.int .u8 ((s.sl a : Nat) : Int)) ∧ Below W.heap.size W w') (fun W tb2 hW => kept_any hW.sta a ha6)
  have ht : tkA k = 0 := by rw [h7]; decide
  have V := Lib.hid (p := vDo day s ⟨k, a, b⟩ = (0, ⟨s.sl a :: s.st.drop (tkA k), s.sl⟩)) (by unfold vDo; simp only [Int.toNat_natCast]; rw [if_neg n1, if_neg nw, if_neg (by omega), if_pos h7, if_neg hg, ht]; rfl)
  have PV := Lib.hid (p := s.sl a = 1 ∨ s.sl a = 2) (by have := hs.2.1 a; omega)
  have LZ := Lib.hid (p := (s.st.drop (tkA k)).length ≤ 262144) (by rw [List.length_drop]; omega)
  have pz : (((s.sl a : Nat) : Int) == 0) = false := by simp; omega
  have pz2 : (((s.sl a : Nat) : Int) != 0) = true := by simp; omega
  clear ht
  have b6 : ((k : Int) == 6) = false := by simp; omega
  have b7 : ((k : Int) == 7) = true := by simp; omega
  have e0 : ((k : Int) == 0) = false := by simp; omega
  generalize s.sl a = v at *
  clear hT h0 hs hk ha hb hR hU gl hB hz hz0 hl he n1 hw hw2 hv q1 nw h7 ha6 hg
  unfold ibx at *
  go_enter Tryd.func26, Tryd.ntmps26
  go_wp2_with (first | (go_at_call 39; refine KE.out.mono ?_; rintro e w1 ⟨rfl, h1⟩; have F1 := Lib.hid (F0.out.later (Nat.le_trans LB.out (allocBP w (ibx k a b)).size) h1); have S1 := Lib.hid (p := B ≤ w1.heap.size) (Nat.le_trans LB.out (Nat.le_trans (allocBP w (ibx k a b)).size h1.size)); have i1 := (CI.out w1 F1.out.chg).cell 0; have c1 := F1.out.sta.box.cell 1; rw [stA_ht] at c1; simp at i1; clear h1) | (go_at_call 40; refine (KT.out w1 F1.out S1.out).mono ?_; rintro e w2 ⟨rfl, h1, tb2, h2⟩; rw [HV.out]; have F2 := Lib.hid h2; have S2 := Lib.hid h1; clear h1 h2; have i2 := (CI.out _ (F2.out.later S2.out (allocBP w2 (.cells #[.int .u8 (x0 : Int), .int .u8 (x1 : Int), .int .u8 (x2 : Int)] 95))).chg).cell 0; simp at i2; unfold aggS; simp only [List.map_cons, List.map_nil]) | (go_at_call 41; refine (KA.out w2 tb2 F2.out _ (allocBP _ _)).mono ?_; rintro e w3 ⟨rfl, h1⟩; have B3 := Lib.hid (p := Below w2.heap.size w2 w3) ((allocBP w2 (.cells #[.int .u8 (x0 : Int), .int .u8 (x1 : Int), .int .u8 (x2 : Int)] 95)).trans (h1.mono (allocBP _ _).size)); have F3 := Lib.hid (F2.out.later S2.out B3.out); have S3 := Lib.hid (p := B ≤ w3.heap.size) (Nat.le_trans S2.out B3.out.size); have i30 := (CI.out w3 F3.out.chg).cell 0; have i31 := (CI.out w3 F3.out.chg).cell 1; have i32 := (CI.out w3 F3.out.chg).cell 2; have r3 := KU.out w2 tb2 F2.out w3 B3.out; have t3 := BkP.cell (BkP.lat (heapN w2 (.cells #[.int .u8 (x0 : Int), .int .u8 (x1 : Int), .int .u8 (x2 : Int)] 95)) h1) 0; simp at i30 i31 i32 t3; clear h1))
  go_region_with (go_at_call 43; refine (KG.out _ _ (by first | exact F3.out | exact F3.out.later S3.out (drew1B _))).mono ?_; rintro e w4 ⟨rfl, h1⟩; have F4 := Lib.hid (F3.out.later S3.out (by first | exact h1 | exact (drew1B _).trans h1)); have S4 := Lib.hid (p := B ≤ w4.heap.size) (Nat.le_trans S3.out h1.size); clear h1)
  all_goals
    go_wp2_with (go_at_call 44; refine (KP.out _ _ _ _ _ _ (by first | exact F4.out.chg | exact F4.out.chg.later S4.out (drew1B _)) (by first | exact F4.out.sta | exact F4.out.sta.later (drew1B _)) PV.out LZ.out (by exact S4.out)).mono ?_; rintro e w5 ⟨rfl, G5, tb5, c5, s5⟩; have C5 := Lib.hid c5; have S5 := Lib.hid s5; clear c5 s5)
    go_ret
    exact ⟨by rw [V.out]; rfl, G5, C5.out, fun e => by rw [V.out]; exact ⟨tb5, ps, S5.out⟩⟩
end Go.Proofs.YtjbbbejadhojlaaDoor

namespace Go.Proofs.YtjbbbejadhojlaaDoor
open Go.RowKit
set_option linter.unusedVariables false
set_option linter.unusedSimpArgs false
theorem do_any {w : World} {B : Nat} {G : Tg} {x tb : Nat} {ps : Nat → Option Nat} {s : Vs} (hT : Tri w B G) (h0 : SvR w B G x tb ps s) (hs : s.ok) (i : In) (hi : i.okP) (day : Int) (hR : Rws w) (hU : Rul w) (gl : 0 < B) (hB : B ≤ w.heap.size) (hz : s.st.length ≤ 262143) :
    Calls Tryd.prog 26 #[.pointer (some ⟨x, 0, none⟩), .agg #[.int .i64 i.o, .int .i64 i.a, .int .i64 i.b], .int .i64 day] w fun e w' => DoE w B G x day s i e w' := by
  obtain ⟨o, a, b⟩ := i
  have ho := hi.1
  have ho2 := hi.2.1
  have ha := hi.2.2.1
  have ha2 := hi.2.2.2.1
  have hb := hi.2.2.2.2.1
  have hb2 := hi.2.2.2.2.2
  have h6 := okP_a6 hi
  have h7 := okP_a7 hi
  have hm := tab_facts o.toNat (by simp at ho ho2 ⊢; omega)
  simp only at ho ho2 ha hb ha2 hm hb2 h6 h7
  obtain ⟨k, rfl⟩ : ∃ k : Nat, o = (k : Int) := ⟨o.toNat, by omega⟩
  obtain ⟨a, rfl⟩ : ∃ x : Nat, a = (x : Int) := ⟨a.toNat, by omega⟩
  obtain ⟨b, rfl⟩ : ∃ y : Nat, b = (y : Int) := ⟨b.toNat, by omega⟩
  simp only [Int.toNat_natCast] at hm ha2 hb2 h6 h7
  have hk : k < 29 := by omega
  have a1 : a < 262144 := by omega
  have b1 : b < 262144 := by omega
  clear hi
  by_cases c1 : s.st.length < tkA k
  · exact do_few hT h0 hs k a b hk a1 b1 day hR hU gl hB hz c1
  by_cases c2 : k = 0 ∧ 0 < s.st.length
  · exact do_end hT h0 hs k a b hk a1 b1 day hR hU gl hB hz c1 c2.1 c2.2
  by_cases c3 : wtA k = vTak (tkA k) s.st ∨ wtA k = [3, 0, 0]
  · by_cases e6 : k = 6
    · exact do_keep hT h0 hs k a b hk a1 b1 day hR hU gl hB hz (by omega) c2 c3 e6 (h6 e6)
    by_cases e7 : k = 7
    · by_cases g : s.sl a = 0
      · exact do_get0 hT h0 hs k a b hk a1 b1 day hR hU gl hB hz (by omega) c2 c3 e7 (h7 e7) g
      · exact do_get1 hT h0 hs k a b hk a1 b1 day hR hU gl hB hz (by omega) c2 c3 e7 (h7 e7) g
    by_cases c4 : k = 3 ∧ day < (b : Int)
    · exact do_back hT h0 hs k a b hk a1 b1 day hR hU gl hB hz (by omega) c2 c3 c4.1 c4.2
    by_cases p0 : psA k = 0
    · by_cases e0 : k = 0
      · exact do_none0 hT h0 hs k a b hk a1 b1 day hR hU gl hB hz (by omega) c2 c3 e6 e7 c4 p0 e0
      · exact do_none1 hT h0 hs k a b hk a1 b1 day hR hU gl hB hz (by omega) c2 c3 e6 e7 c4 p0 e0 (by intro q; subst q; revert p0; decide)
    · by_cases e3 : k = 3
      · exact do_put3 hT h0 hs k a b hk a1 b1 day hR hU gl hB hz (by omega) c2 c3 e6 e7 c4 p0 e3
      · exact do_put1 hT h0 hs k a b hk a1 b1 day hR hU gl hB hz (by omega) c2 c3 e6 e7 c4 p0 e3
  · exact do_sort hT h0 hs k a b hk a1 b1 day hR hU gl hB hz (by omega) c2 c3
def ahA (A : Nat → Option Nat) (n : Nat) : Array Value := ((List.range n).map (fun j => ptN (A j))).toArray
theorem ahA_size (A : Nat → Option Nat) (n : Nat) : (ahA A n).size = n := by simp [ahA]
theorem ahA_at (A : Nat → Option Nat) (n j : Nat) (hj : j < n) : (ahA A n)[j]? = some (ptN (A j)) := by
  unfold ahA
  simp [hj]
theorem ahA_set (A : Nat → Option Nat) (n j y : Nat) (hj : j < n) : (ahA A n).set! j (.pointer (some ⟨y, 0, none⟩)) = ahA (fun i => if i = j then some y else A i) n := by
  apply Array.ext_getElem?
  intro k
  rw [Array.set!_eq_setIfInBounds, Array.getElem?_setIfInBounds]
  by_cases hk : k < n
  · rw [ahA_at _ _ k hk, ahA_at _ _ k hk, ahA_size]
    by_cases e : k = j
    · subst e
      rw [if_pos rfl, if_pos hj, if_pos rfl]
      rfl
    · rw [if_neg (fun q => e q.symm), if_neg e]
  · rw [if_neg (by omega), Array.getElem?_eq_none (by rw [ahA_size]; omega), Array.getElem?_eq_none (by rw [ahA_size]; omega)]
/-- A walk in memory, its states ahead of the instructions. -/
structure WkR (W : World) (B wb ab : Nat) (day : Int) (ca : Option Addr) (cc n : Nat) (G : Tg) (A : Nat → Option Nat) (l : Nat → Option Vs) : Prop where
  tri : Tri W B G
  wk : BkP W wb #[.int .i64 day, .slice ca n cc, .slice (some ⟨ab, 0, none⟩) n n] 65
  ah : BkP W ab (ahA A n) 62
  st : ∀ j, j < n → (l j = none ∧ A j = none) ∨ ∃ x s tb ps, l j = some s ∧ A j = some x ∧ SvR W B G x tb ps s
  inj : ∀ i j x, i < n → j < n → A i = some x → A j = some x → i = j
  low : B ≤ wb ∧ B ≤ ab
  ok : Aok l
def chX (ab n : Nat) (A : Nat → Option Nat) : Nat → Prop := fun b => b = ab ∨ ∃ j, j < n ∧ A j = some b
theorem WkR.stt {W : World} {B wb ab : Nat} {day : Int} {ca : Option Addr} {cc n : Nat} {G : Tg} {A : Nat → Option Nat} {l : Nat → Option Vs} (h : WkR W B wb ab day ca cc n G A l) {j x : Nat} (hj : j < n) (e : A j = some x) : ∃ y, BkP W x y 61 := by
  rcases h.st j hj with ⟨_, h2⟩ | ⟨x', s, tb, ps, h1, h2, h3⟩
  · rw [h2] at e; cases e
  · rw [h2] at e
    injection e with e
    subst e
    exact ⟨_, h3.box⟩
theorem WkR.chg {W V : World} {B wb ab : Nat} {day : Int} {ca : Option Addr} {cc n : Nat} {G H : Tg} {A : Nat → Option Nat} {l : Nat → Option Vs} {X : Nat → Prop} (h : WkR W B wb ab day ca cc n G A l) (c : Chg W V B G H X) (hx : ∀ b y t, BkP W b y t → X b → (t = 61 ∧ ∀ j, j < n → A j ≠ some b)) : WkR V B wb ab day ca cc n H A l := by
  have no : ∀ {b y t}, BkP W b y t → t ≠ 61 → ¬ X b := fun k ht q => ht (hx _ _ _ k q).1
  refine ⟨c.tri, c.stay _ _ _ h.wk (no h.wk (by decide)) (by decide), c.stay _ _ _ h.ah (no h.ah (by decide)) (by decide), fun j hj => ?_, h.inj, h.low, h.ok⟩
  rcases h.st j hj with q | ⟨x, s, tb, ps, h1, h2, h3⟩
  · exact .inl q
  · exact .inr ⟨x, s, tb, ps, h1, h2, h3.chg c (fun z y hz => no hz (by decide)) (fun q => (hx _ _ _ h3.box q).2 j hj h2)⟩
theorem WkR.later {W V : World} {B wb ab : Nat} {day : Int} {ca : Option Addr} {cc n : Nat} {G : Tg} {A : Nat → Option Nat} {l : Nat → Option Vs} (h : WkR W B wb ab day ca cc n G A l) (b : Below W.heap.size W V) : WkR V B wb ab day ca cc n G A l :=
  ⟨h.tri.later b, h.wk.lat b, h.ah.lat b, fun j hj => (h.st j hj).imp id (fun ⟨x, s, tb, ps, h1, h2, h3⟩ => ⟨x, s, tb, ps, h1, h2, h3.later b⟩), h.inj, h.low, h.ok⟩
/-- What hand leaves. -/
structure HdE (W : World) (B wb ab : Nat) (day : Int) (ca : Option Addr) (cc n : Nat) (G : Tg) (A : Nat → Option Nat) (l : Nat → Option Vs) (t : Nat) (s : Vs) (e : Ending) (V : World) : Prop where
  ret : e = .returned (.int .i64 (vHand (l t) s).1)
  sta : ∃ A', WkR V B wb ab day ca cc n G A' (vSet l t (vHand (l t) s).2) ∧ ∀ j x, A' j = some x → A j = some x ∨ W.heap.size ≤ x
  chg : Chg W V B G G (chX ab n A)
theorem vSet_id {l : Nat → Option Vs} {t : Nat} {v : Option Vs} (h : l t = v) : vSet l t v = l := by
  funext j
  unfold vSet
  split
  · rename_i e; rw [e, h]
  · rfl
theorem hand_same {W V : World} {B wb ab : Nat} {day : Int} {ca : Option Addr} {cc n : Nat} {G : Tg} {A : Nat → Option Nat} {l : Nat → Option Vs} {t : Nat} {s u : Vs} {e : Int} (h : WkR W B wb ab day ca cc n G A l) (hB : B ≤ W.heap.size) (hl : l t = some u) (hv : vHand (l t) s = (e, some u)) (b : Below W.heap.size W V) : HdE W B wb ab day ca cc n G A l t s (.returned (.int .i64 e)) V := by
  refine ⟨by rw [hv], ⟨A, ?_, fun j x q => .inl q⟩, (Chg.refl h.tri).later hB b⟩
  rw [hv]
  simp only
  rw [vSet_id hl]
  exact h.later b
theorem eq_top (w : World) (a b : Nat) (ha : ∃ c u, BkP w a c u) (hb : ∃ c u, BkP w b c u) : (Op.equalIn 9999 54 (.pointer (some ⟨a, 0, none⟩)) (.pointer (some ⟨b, 0, none⟩))).run Tryd.prog w = .ok (decide (a = b)) w := by
  obtain ⟨i, hi⟩ := info_of_underlying (P := Tryd.prog) (t := 78) Tryd.underlying78
  have E := eq_ptr (P := Tryd.prog) (w := w) (d := 9998) (t := 54) (te := 78) (i := i) (by kernel_rfl) hi (by rw [show Tryd.prog.cellsOf 78 = 5 by kernel_rfl]; decide) (some a) (some b) (by intro z e; injection e with e; subst e; exact ha) (by intro z e; injection e with e; subst e; exact hb)
  simp only [ptN, Option.map_some, Nat.reduceAdd] at E
  have d : decide (some a = some b) = decide (a = b) := by by_cases q : a = b <;> simp [q]
  rw [d] at E
  exact E
end Go.Proofs.YtjbbbejadhojlaaDoor
