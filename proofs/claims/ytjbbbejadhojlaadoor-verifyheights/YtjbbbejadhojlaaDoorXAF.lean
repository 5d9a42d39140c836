import Derived.Test.YtjbbbejadhojlaaDoorXAE
namespace Go.Proofs.YtjbbbejadhojlaaDoor
open Go.RowKit
set_option linter.unusedVariables false
set_option linter.unusedSimpArgs false
/-- What 'do' leaves. -/
structure DoE (w : World) (B : Nat) (G : Tg) (x : Nat) (day : Int) (s : Vs) (i : In) (e : Ending) (w' : World) : Prop where
  ret : e = .returned (.int .i64 (vDo day s i).1)
  sta : ∃ G', Chg w w' B G G' (fun z => z = x) ∧ ((vDo day s i).1 = 0 → ∃ tb ps, SvR w' B G' x tb ps (vDo day s i).2)
def ibx (k a b : Nat) : Obj := .cells #[.int .i64 (k : Int), .int .i64 (a : Int), .int .i64 (b : Int)] 51
theorem tak3 (n : Nat) (st : List Nat) : ∃ x0 x1 x2, vTak n st = [x0, x1, x2] := by
  unfold vTak
  split <;> exact ⟨_, _, _, rfl⟩
theorem chg_box {w W : World} {B : Nat} {G G' : Tg} {x : Nat} {k a b : Nat} (h : Chg (w.alloc (ibx k a b)) W B G G' (fun z => z = x)) (hx : x < w.heap.size) : BkP W w.heap.size #[.int .i64 (k : Int), .int .i64 (a : Int), .int .i64 (b : Int)] 51 :=
  h.stay _ _ _ (heapN _ _) (by omega) (by decide)
/-- What is there behind the take. -/
structure DoF (w W : World) (B : Nat) (G : Tg) (x tb : Nat) (ps : Nat → Option Nat) (s : Vs) (k a b : Nat) : Prop where
  chg : Chg (w.alloc (ibx k a b)) W B G G (fun z => z = x)
  sta : SvR W B G x tb ps s
theorem DoF.later {w W V : World} {B : Nat} {G : Tg} {x tb : Nat} {ps : Nat → Option Nat} {s : Vs} {k a b : Nat} (h : DoF w W B G x tb ps s k a b) (hB : B ≤ W.heap.size) (c : Below W.heap.size W V) : DoF w V B G x tb ps s k a b := ⟨h.chg.later hB c, h.sta.later c⟩
theorem chg_first {w W : World} {B : Nat} {G G' : Tg} {X : Nat → Prop} {k a b : Nat} (hT : Tri w B G) (hB : B ≤ w.heap.size) (h : Chg (w.alloc (ibx k a b)) W B G G' X) : Chg w W B G G' X := ((Chg.refl hT).later hB (allocBP _ _)).trans h
theorem rul_bel {w W : World} {B : Nat} {G G' : Tg} {X : Nat → Prop} (hU : Rul w) (h : Chg w W B G G' X) (gl : 0 < B) : Rul W := hU.bel h.bel gl
set_option maxRecDepth 100000 in
set_option maxHeartbeats 800000 in
theorem do_few {w : World} {B : Nat} {G : Tg} {x tb : Nat} {ps : Nat → Option Nat} {s : Vs} (hT : Tri w B G) (h0 : SvR w B G x tb ps s) (hs : s.ok) (k a b : Nat) (hk : k < 29) (ha : a < 262144) (hb : b < 262144) (day : Int) (hR : Rws w) (hU : Rul w) (gl : 0 < B) (hB : B ≤ w.heap.size) (hz : s.st.length ≤ 262143) (hf : s.st.length < tkA k) :
    Calls Tryd.prog 26 #[.pointer (some ⟨x, 0, none⟩), .agg #[.int .i64 (k : Int), .int .i64 (a : Int), .int .i64 (b : Int)], .int .i64 day] w fun e w' => DoE w B G x day s ⟨k, a, b⟩ e w' := by
  have LB := Lib.hid hB
  have B0 := Lib.hid (allocBP w (ibx k a b))
  have KE := Lib.hid (effect_any (op := (k : Int)) ⟨.inl ⟨k, hk, rfl, rfl, rfl, rfl, rfl, rfl, rfl, rfl⟩⟩ (w.alloc (ibx k a b)) (hR.alloc _))
  have CI := Lib.hid (fun W (h : Chg (w.alloc (ibx k a b)) W B G G (fun z => z = x)) => chg_box h h0.box.lt)
  have F0 := Lib.hid (p := DoF w (w.alloc (ibx k a b)) B G x tb ps s k a b) ⟨Chg.refl (hT.later (allocBP _ _)), h0.later (allocBP _ _)⟩
  have V := Lib.hid (p := vDo day s ⟨k, a, b⟩ = (142, s)) (by unfold vDo; simp only [Int.toNat_natCast]; rw [if_pos (.inl hf)])
  have CF := Lib.hid (p := ∀ W G', Chg (w.alloc (ibx k a b)) W B G G' (fun z => z = x) → Chg w W B G G' (fun z => z = x)) (fun W G' h => chg_first hT hB h)
  have l0 : (s.st.length : Int) < (tkA k : Int) := by omega
  clear hT h0 hs hk ha hb hR hU gl hB hz hf
  unfold ibx at *
  go_enter Tryd.func26, Tryd.ntmps26
  go_wp2_with (go_at_call 39; refine KE.out.mono ?_; rintro e w1 ⟨rfl, h1⟩; have F1 := Lib.hid (F0.out.later (Nat.le_trans LB.out (allocBP w (ibx k a b)).size) h1); have S1 := Lib.hid (p := B ≤ w1.heap.size) (Nat.le_trans LB.out (Nat.le_trans (allocBP w (ibx k a b)).size h1.size)); have i1 := (CI.out w1 F1.out.chg).cell 0; have c1 := F1.out.sta.box.cell 1; rw [stA_ht] at c1; simp at i1; clear h1)
  go_ret
  exact ⟨by rw [V.out]; rfl, G, CF.out _ _ F1.out.chg, fun e => by rw [V.out] at e; cases e⟩
set_option maxRecDepth 100000 in
set_option maxHeartbeats 800000 in
theorem do_end {w : World} {B : Nat} {G : Tg} {x tb : Nat} {ps : Nat → Option Nat} {s : Vs} (hT : Tri w B G) (h0 : SvR w B G x tb ps s) (hs : s.ok) (k a b : Nat) (hk : k < 29) (ha : a < 262144) (hb : b < 262144) (day : Int) (hR : Rws w) (hU : Rul w) (gl : 0 < B) (hB : B ≤ w.heap.size) (hz : s.st.length ≤ 262143) (hl0 : ¬ s.st.length < tkA k) (hk0 : k = 0) (hf : 0 < s.st.length) :
    Calls Tryd.prog 26 #[.pointer (some ⟨x, 0, none⟩), .agg #[.int .i64 (k : Int), .int .i64 (a : Int), .int .i64 (b : Int)], .int .i64 day] w fun e w' => DoE w B G x day s ⟨k, a, b⟩ e w' := by
  have LB := Lib.hid hB
  have B0 := Lib.hid (allocBP w (ibx k a b))
  have KE := Lib.hid (effect_any (op := (k : Int)) ⟨.inl ⟨k, hk, rfl, rfl, rfl, rfl, rfl, rfl, rfl, rfl⟩⟩ (w.alloc (ibx k a b)) (hR.alloc _))
  have CI := Lib.hid (fun W (h : Chg (w.alloc (ibx k a b)) W B G G (fun z => z = x)) => chg_box h h0.box.lt)
  have F0 := Lib.hid (p := DoF w (w.alloc (ibx k a b)) B G x tb ps s k a b) ⟨Chg.refl (hT.later (allocBP _ _)), h0.later (allocBP _ _)⟩
  have V := Lib.hid (p := vDo day s ⟨k, a, b⟩ = (142, s)) (by unfold vDo; simp only [Int.toNat_natCast]; rw [if_pos (.inr ⟨hk0, hf⟩)])
  have CF := Lib.hid (p := ∀ W G', Chg (w.alloc (ibx k a b)) W B G G' (fun z => z = x) → Chg w W B G G' (fun z => z = x)) (fun W G' h => chg_first hT hB h)
  have l0 : ¬ (s.st.length : Int) < (tkA k : Int) := by omega
  have l1 : (0 : Int) < (s.st.length : Int) := by omega
  have e0 : ((k : Int) == 0) = true := by simp; omega
  clear hT h0 hs hk ha hb hR hU gl hB hz hf hk0 hl0
  unfold ibx at *
  go_enter Tryd.func26, Tryd.ntmps26
  go_wp2_with (go_at_call 39; refine KE.out.mono ?_; rintro e w1 ⟨rfl, h1⟩; have F1 := Lib.hid (F0.out.later (Nat.le_trans LB.out (allocBP w (ibx k a b)).size) h1); have S1 := Lib.hid (p := B ≤ w1.heap.size) (Nat.le_trans LB.out (Nat.le_trans (allocBP w (ibx k a b)).size h1.size)); have i1 := (CI.out w1 F1.out.chg).cell 0; have c1 := F1.out.sta.box.cell 1; rw [stA_ht] at c1; simp at i1; clear h1)
  go_ret
  exact ⟨by rw [V.out]; rfl, G, CF.out _ _ F1.out.chg, fun e => by rw [V.out] at e; cases e⟩
set_option maxRecDepth 100000 in
set_option maxHeartbeats 800000 in
theorem do_sort {w : World} {B : Nat} {G : Tg} {x tb : Nat} {ps : Nat → Option Nat} {s : Vs} (hT : Tri w B G) (h0 : SvR w B G x tb ps s) (hs : s.ok) (k a b : Nat) (hk : k < 29) (ha : a < 262144) (hb : b < 262144) (day : Int) (hR : Rws w) (hU : Rul w) (gl : 0 < B) (hB : B ≤ w.heap.size) (hz : s.st.length ≤ 262143) (hl : tkA k ≤ s.st.length) (he : ¬ (k = 0 ∧ 0 < s.st.length)) (hw : ¬ (wtA k = vTak (tkA k) s.st ∨ wtA k = [3, 0, 0])) :
    Calls Tryd.prog 26 #[.pointer (some ⟨x, 0, none⟩), .agg #[.int .i64 (k : Int), .int .i64 (a : Int), .int .i64 (b : Int)], .int .i64 day] w fun e w' => DoE w B G x day s ⟨k, a, b⟩ e w' := by
  have LB := Lib.hid hB
  have B0 := Lib.hid (allocBP w (ibx k a b))
  have KE := Lib.hid (effect_any (op := (k : Int)) ⟨.inl ⟨k, hk, rfl, rfl, rfl, rfl, rfl, rfl, rfl, rfl⟩⟩ (w.alloc (ibx k a b)) (hR.alloc _))
  have CI := Lib.hid (fun W (h : Chg (w.alloc (ibx k a b)) W B G G (fun z => z = x)) => chg_box h h0.box.lt)
  have F0 := Lib.hid (p := DoF w (w.alloc (ibx k a b)) B G x tb ps s k a b) ⟨Chg.refl (hT.later (allocBP _ _)), h0.later (allocBP _ _)⟩
  have hl := hl
  have hz := Nat.le_succ_of_le hz
  have KT := Lib.hid (p := ∀ W, DoF w W B G x tb ps s k a b → B ≤ W.heap.size → Calls Tryd.prog 40 #[.pointer (some ⟨x, 0, none⟩), .int .i64 (tkA k : Int)] W fun e w' => e = .returned (aggS (vTak (tkA k) s.st)) ∧ B ≤ w'.heap.size ∧ ∃ tb2, DoF w w' B G x tb2 ps ⟨s.st.drop (tkA k), s.sl⟩ k a b) (fun W hW hb => by
    refine (takeV_any hW.chg.tri hW.sta (tkA k) (tab_facts k hk).2.2.2.1 hl hz).mono ?_
    rintro e w' ⟨h1, ⟨tb2, h2⟩, h3⟩
    exact ⟨h1, Nat.le_trans hb h3.size, tb2, hW.chg.trans (Chg.ofGrown hW.chg.tri h3 hW.sta.box (by decide) hW.sta.low), h2⟩)
  obtain ⟨x0, x1, x2, hv⟩ := tak3 (tkA k) s.st
  have HV := Lib.hid hv
  have KA := Lib.hid (p := ∀ W tb2, DoF w W B G x tb2 ps ⟨s.st.drop (tkA k), s.sl⟩ k a b → ∀ V, Below W.heap.size W V → Calls Tryd.prog 41 #[.int .i64 (k : Int), aggS [x0, x1, x2]] V fun e w' => e = .returned (.bool (decide (wtA k = [x0, x1, x2] ∨ wtA k = [3, 0, 0]))) ∧ Below V.heap.size V w') (fun W tb2 hW V bV => takesAll_any ((rul_bel hU (chg_first hT hB hW.chg) gl).lat bV) k hk x0 x1 x2)
  have KU := Lib.hid (p := ∀ W tb2, DoF w W B G x tb2 ps ⟨s.st.drop (tkA k), s.sl⟩ k a b → ∀ V, Below W.heap.size W V → V.cell? ⟨0, k * 4 + 3, none⟩ = some (.int .u8 (psA k : Int))) (fun W tb2 hW V bV => (((rul_bel hU (chg_first hT hB hW.chg) gl).lat bV).2 k hk).2.2.2)
  have CF := Lib.hid (p := ∀ W G', Chg (w.alloc (ibx k a b)) W B G G' (fun z => z = x) → Chg w W B G G' (fun z => z = x)) (fun W G' h => chg_first hT hB h)
  have n1 : ¬ (s.st.length < tkA k ∨ (k = 0 ∧ 0 < s.st.length)) := by omega
  have V := Lib.hid (p := vDo day s ⟨k, a, b⟩ = (143, s)) (by unfold vDo; simp only [Int.toNat_natCast]; rw [if_neg n1, if_pos hw])
  have hk0 : k ≠ 0 := by
    intro e
    subst e
    exact hw (.inl rfl)
  rw [hv] at hw
  have q1 : decide (wtA k = [x0, x1, x2] ∨ wtA k = [3, 0, 0]) = false := decide_eq_false hw
  simp only [q1] at KA
  have l0 : ¬ (s.st.length : Int) < (tkA k : Int) := by omega
  have kn : ¬ (k : Int) < 0 := by omega
  have k29 : (k : Int) < 29 := by omega
  have e0 : ((k : Int) == 0) = false := by simp; omega
  clear hT h0 hs hk ha hb hR hU gl hB hz hk0 hl he n1 hw hv q1
  unfold ibx at *
  go_enter Tryd.func26, Tryd.ntmps26
  go_wp2_with (first | (go_at_call 39; refine KE.out.mono ?_; rintro e w1 ⟨rfl, h1⟩; have F1 := Lib.hid (F0.out.later (Nat.le_trans LB.out (allocBP w (ibx k a b)).size) h1); have S1 := Lib.hid (p := B ≤ w1.heap.size) (Nat.le_trans LB.out (Nat.le_trans (allocBP w (ibx k a b)).size h1.size)); have i1 := (CI.out w1 F1.out.chg).cell 0; have c1 := F1.out.sta.box.cell 1; rw [stA_ht] at c1; simp at i1; clear h1) | (go_at_call 40; refine (KT.out w1 F1.out S1.out).mono ?_; rintro e w2 ⟨rfl, h1, tb2, h2⟩; rw [HV.out]; have F2 := Lib.hid h2; have S2 := Lib.hid h1; clear h1 h2; have i2 := (CI.out _ (F2.out.later S2.out (allocBP w2 (.cells #[.int .u8 (x0 : Int), .int .u8 (x1 : Int), .int .u8 (x2 : Int)] 95))).chg).cell 0; simp at i2; unfold aggS; simp only [List.map_cons, List.map_nil]) | (go_at_call 41; refine (KA.out w2 tb2 F2.out _ (allocBP _ _)).mono ?_; rintro e w3 ⟨rfl, h1⟩; have B3 := Lib.hid (p := Below w2.heap.size w2 w3) ((allocBP w2 (.cells #[.int .u8 (x0 : Int), .int .u8 (x1 : Int), .int .u8 (x2 : Int)] 95)).trans (h1.mono (allocBP _ _).size)); have F3 := Lib.hid (F2.out.later S2.out B3.out); have S3 := Lib.hid (p := B ≤ w3.heap.size) (Nat.le_trans S2.out B3.out.size); have i30 := (CI.out w3 F3.out.chg).cell 0; have i31 := (CI.out w3 F3.out.chg).cell 1; have i32 := (CI.out w3 F3.out.chg).cell 2; have r3 := KU.out w2 tb2 F2.out w3 B3.out; have t3 := BkP.cell (BkP.lat (heapN w2 (.cells #[.int .u8 (x0 : Int), .int .u8 (x1 : Int), .int .u8 (x2 : Int)] 95)) h1) 0; simp at i30 i31 i32 t3; clear h1))
  go_ret
  exact ⟨by rw [V.out]; rfl, G, CF.out _ _ F3.out.chg, fun e => by rw [V.out] at e; cases e⟩
set_option maxRecDepth 100000 in
set_option maxHeartbeats 800000 in
theorem do_none0 {w : World} {B : Nat} {G : Tg} {x tb : Nat} {ps : Nat → Option Nat} {s : Vs} (hT : Tri w B G) (h0 : SvR w B G x tb ps s) (hs : s.ok) (k a b : Nat) (hk : k < 29) (ha : a < 262144) (hb : b < 262144) (day : Int) (hR : Rws w) (hU : Rul w) (gl : 0 < B) (hB : B ≤ w.heap.size) (hz : s.st.length ≤ 262143) (hl : tkA k ≤ s.st.length) (he : ¬ (k = 0 ∧ 0 < s.st.length)) (hw : wtA k = vTak (tkA k) s.st ∨ wtA k = [3, 0, 0]) (h6 : k ≠ 6) (h7 : k ≠ 7) (h3 : ¬ (k = 3 ∧ day < (b : Int))) (hp : psA k = 0) (hk0 : k = 0) :
    Calls Tryd.prog 26 #[.pointer (some ⟨x, 0, none⟩), .agg #[.int .i64 (k : Int), .int .i64 (a : Int), .int .i64 (b : Int)], .int .i64 day] w fun e w' => DoE w B G x day s ⟨k, a, b⟩ e w' := by
  have LB := Lib.hid hB
  have B0 := Lib.hid (allocBP w (ibx k a b))
  have KE := Lib.hid (effect_any (op := (k : Int)) ⟨.inl ⟨k, hk, rfl, rfl, rfl, rfl, rfl, rfl, rfl, rfl⟩⟩ (w.alloc (ibx k a b)) (hR.alloc _))
  have CI := Lib.hid (fun W (h : Chg (w.alloc (ibx k a b)) W B G G (fun z => z = x)) => chg_box h h0.box.lt)
  have F0 := Lib.hid (p := DoF w (w.alloc (ibx k a b)) B G x tb ps s k a b) ⟨Chg.refl (hT.later (allocBP _ _)), h0.later (allocBP _ _)⟩
  have hl := hl
  have hz0 := hz
  have hz := Nat.le_succ_of_le hz
  have KT := Lib.hid (p := ∀ W, DoF w W B G x tb ps s k a b → B ≤ W.heap.size → Calls Tryd.prog 40 #[.pointer (some ⟨x, 0, none⟩), .int .i64 (tkA k : Int)] W fun e w' => e = .returned (aggS (vTak (tkA k) s.st)) ∧ B ≤ w'.heap.size ∧ ∃ tb2, DoF w w' B G x tb2 ps ⟨s.st.drop (tkA k), s.sl⟩ k a b) (fun W hW hb => by
    refine (takeV_any hW.chg.tri hW.sta (tkA k) (tab_facts k hk).2.2.2.1 hl hz).mono ?_
    rintro e w' ⟨h1, ⟨tb2, h2⟩, h3⟩
    exact ⟨h1, Nat.le_trans hb h3.size, tb2, hW.chg.trans (Chg.ofGrown hW.chg.tri h3 hW.sta.box (by decide) hW.sta.low), h2⟩)
  obtain ⟨x0, x1, x2, hv⟩ := tak3 (tkA k) s.st
  have HV := Lib.hid hv
  have KA := Lib.hid (p := ∀ W tb2, DoF w W B G x tb2 ps ⟨s.st.drop (tkA k), s.sl⟩ k a b → ∀ V, Below W.heap.size W V → Calls Tryd.prog 41 #[.int .i64 (k : Int), aggS [x0, x1, x2]] V fun e w' => e = .returned (.bool (decide (wtA k = [x0, x1, x2] ∨ wtA k = [3, 0, 0]))) ∧ Below V.heap.size V w') (fun W tb2 hW V bV => takesAll_any ((rul_bel hU (chg_first hT hB hW.chg) gl).lat bV) k hk x0 x1 x2)
  have KU := Lib.hid (p := ∀ W tb2, DoF w W B G x tb2 ps ⟨s.st.drop (tkA k), s.sl⟩ k a b → ∀ V, Below W.heap.size W V → V.cell? ⟨0, k * 4 + 3, none⟩ = some (.int .u8 (psA k : Int))) (fun W tb2 hW V bV => (((rul_bel hU (chg_first hT hB hW.chg) gl).lat bV).2 k hk).2.2.2)
  have CF := Lib.hid (p := ∀ W G', Chg (w.alloc (ibx k a b)) W B G G' (fun z => z = x) → Chg w W B G G' (fun z => z = x)) (fun W G' h => chg_first hT hB h)
  have n1 : ¬ (s.st.length < tkA k ∨ (k = 0 ∧ 0 < s.st.length)) := by omega
  have hw2 := hw
  rw [hv] at hw2
  have q1 : decide (wtA k = [x0, x1, x2] ∨ wtA k = [3, 0, 0]) = true := decide_eq_true hw2
  simp only [q1] at KA
  have nw : ¬ ¬ (wtA k = vTak (tkA k) s.st ∨ wtA k = [3, 0, 0]) := not_not_intro hw
  have l0 : ¬ (s.st.length : Int) < (tkA k : Int) := by omega
  have kn : ¬ (k : Int) < 0 := by omega
  have k29 : (k : Int) < 29 := by omega
  have V := Lib.hid (p := vDo day s ⟨k, a, b⟩ = (0, ⟨s.st.drop (tkA k), s.sl⟩)) (by unfold vDo; simp only [Int.toNat_natCast]; rw [if_neg n1, if_neg nw, if_neg h6, if_neg h7, if_neg h3, if_pos hp])
  have b6 : ((k : Int) == 6) = false := by simp; omega
  have b7 : ((k : Int) == 7) = false := by simp; omega
  have b3 : ((k : Int) == 3) = false := by simp; omega
  rw [hp] at KU
  have e0 : ((k : Int) == 0) = true := by simp; omega
  have l1 : ¬ (0 : Int) < (s.st.length : Int) := by omega
  clear hT h0 hs hk ha hb hR hU gl hB hz hz0 hl he n1 hw hw2 hv q1 nw h6 h7 h3 hp hk0
  unfold ibx at *
  go_enter Tryd.func26, Tryd.ntmps26
  go_wp2_with (first | (go_at_call 39; refine KE.out.mono ?_; rintro e w1 ⟨rfl, h1⟩; have F1 := Lib.hid (F0.out.later (Nat.le_trans LB.out (allocBP w (ibx k a b)).size) h1); have S1 := Lib.hid (p := B ≤ w1.heap.size) (Nat.le_trans LB.out (Nat.le_trans (allocBP w (ibx k a b)).size h1.size)); have i1 := (CI.out w1 F1.out.chg).cell 0; have c1 := F1.out.sta.box.cell 1; rw [stA_ht] at c1; simp at i1; clear h1) | (go_at_call 40; refine (KT.out w1 F1.out S1.out).mono ?_; rintro e w2 ⟨rfl, h1, tb2, h2⟩; rw [HV.out]; have F2 := Lib.hid h2; have S2 := Lib.hid h1; clear h1 h2; have i2 := (CI.out _ (F2.out.later S2.out (allocBP w2 (.cells #[.int .u8 (x0 : Int), .int .u8 (x1 : Int), .int .u8 (x2 : Int)] 95))).chg).cell 0; simp at i2; unfold aggS; simp only [List.map_cons, List.map_nil]) | (go_at_call 41; refine (KA.out w2 tb2 F2.out _ (allocBP _ _)).mono ?_; rintro e w3 ⟨rfl, h1⟩; have B3 := Lib.hid (p := Below w2.heap.size w2 w3) ((allocBP w2 (.cells #[.int .u8 (x0 : Int), .int .u8 (x1 : Int), .int .u8 (x2 : Int)] 95)).trans (h1.mono (allocBP _ _).size)); have F3 := Lib.hid (F2.out.later S2.out B3.out); have S3 := Lib.hid (p := B ≤ w3.heap.size) (Nat.le_trans S2.out B3.out.size); have i30 := (CI.out w3 F3.out.chg).cell 0; have i31 := (CI.out w3 F3.out.chg).cell 1; have i32 := (CI.out w3 F3.out.chg).cell 2; have r3 := KU.out w2 tb2 F2.out w3 B3.out; have t3 := BkP.cell (BkP.lat (heapN w2 (.cells #[.int .u8 (x0 : Int), .int .u8 (x1 : Int), .int .u8 (x2 : Int)] 95)) h1) 0; simp at i30 i31 i32 t3; clear h1))
  go_ret
  exact ⟨by rw [V.out]; rfl, G, CF.out _ _ F3.out.chg, fun e => by rw [V.out]; exact ⟨tb2, ps, F3.out.sta⟩⟩
set_option maxRecDepth 100000 in
set_option maxHeartbeats 800000 in
theorem do_none1 {w : World} {B : Nat} {G : Tg} {x tb : Nat} {ps : Nat → Option Nat} {s : Vs} (hT : Tri w B G) (h0 : SvR w B G x tb ps s) (hs : s.ok) (k a b : Nat) (hk : k < 29) (ha : a < 262144) (hb : b < 262144) (day : Int) (hR : Rws w) (hU : Rul w) (gl : 0 < B) (hB : B ≤ w.heap.size) (hz : s.st.length ≤ 262143) (hl : tkA k ≤ s.st.length) (he : ¬ (k = 0 ∧ 0 < s.st.length)) (hw : wtA k = vTak (tkA k) s.st ∨ wtA k = [3, 0, 0]) (h6 : k ≠ 6) (h7 : k ≠ 7) (h3 : ¬ (k = 3 ∧ day < (b : Int))) (hp : psA k = 0) (hk0 : k ≠ 0) (h33 : k ≠ 3) :
    Calls Tryd.prog 26 #[.pointer (some ⟨x, 0, none⟩), .agg #[.int .i64 (k : Int), .int .i64 (a : Int), .int .i64 (b : Int)], .int .i64 day] w fun e w' => DoE w B G x day s ⟨k, a, b⟩ e w' := by
  have LB := Lib.hid hB
  have B0 := Lib.hid (allocBP w (ibx k a b))
  have KE := Lib.hid (effect_any (op := (k : Int)) ⟨.inl ⟨k, hk, rfl, rfl, rfl, rfl, rfl, rfl, rfl, rfl⟩⟩ (w.alloc (ibx k a b)) (hR.alloc _))
  have CI := Lib.hid (fun W (h : Chg (w.alloc (ibx k a b)) W B G G (fun z => z = x)) => chg_box h h0.box.lt)
  have F0 := Lib.hid (p := DoF w (w.alloc (ibx k a b)) B G x tb ps s k a b) ⟨Chg.refl (hT.later (allocBP _ _)), h0.later (allocBP _ _)⟩
  have hl := hl
  have hz0 := hz
  have hz := Nat.le_succ_of_le hz
  have KT := Lib.hid (p := ∀ W, DoF w W B G x tb ps s k a b → B ≤ W.heap.size → Calls Tryd.prog 40 #[.pointer (some ⟨x, 0, none⟩), .int .i64 (tkA k : Int)] W fun e w' => e = .returned (aggS (vTak (tkA k) s.st)) ∧ B ≤ w'.heap.size ∧ ∃ tb2, DoF w w' B G x tb2 ps ⟨s.st.drop (tkA k), s.sl⟩ k a b) (fun W hW hb => by
    refine (takeV_any hW.chg.tri hW.sta (tkA k) (tab_facts k hk).2.2.2.1 hl hz).mono ?_
    rintro e w' ⟨h1, ⟨tb2, h2⟩, h3⟩
    exact ⟨h1, Nat.le_trans hb h3.size, tb2, hW.chg.trans (Chg.ofGrown hW.chg.tri h3 hW.sta.box (by decide) hW.sta.low), h2⟩)
  obtain ⟨x0, x1, x2, hv⟩ := tak3 (tkA k) s.st
  have HV := Lib.hid hv
  have KA := Lib.hid (p := ∀ W tb2, DoF w W B G x tb2 ps ⟨s.st.drop (tkA k), s.sl⟩ k a b → ∀ V, Below W.heap.size W V → Calls Tryd.prog 41 #[.int .i64 (k : Int), aggS [x0, x1, x2]] V fun e w' => e = .returned (.bool (decide (wtA k = [x0, x1, x2] ∨ wtA k = [3, 0, 0]))) ∧ Below V.heap.size V w') (fun W tb2 hW V bV => takesAll_any ((rul_bel hU (chg_first hT hB hW.chg) gl).lat bV) k hk x0 x1 x2)
  have KU := Lib.hid (p := ∀ W tb2, DoF w W B G x tb2 ps ⟨s.st.drop (tkA k), s.sl⟩ k a b → ∀ V, Below W.heap.size W V → V.cell? ⟨0, k * 4 + 3, none⟩ = some (.int .u8 (psA k : Int))) (fun W tb2 hW V bV => (((rul_bel hU (chg_first hT hB hW.chg) gl).lat bV).2 k hk).2.2.2)
  have CF := Lib.hid (p := ∀ W G', Chg (w.alloc (ibx k a b)) W B G G' (fun z => z = x) → Chg w W B G G' (fun z => z = x)) (fun W G' h => chg_first hT hB h)
  have n1 : ¬ (s.st.length < tkA k ∨ (k = 0 ∧ 0 < s.st.length)) := by omega
  have hw2 := hw
  rw [hv] at hw2
  have q1 : decide (wtA k = [x0, x1, x2] ∨ wtA k = [3, 0, 0]) = true := decide_eq_true hw2
  simp only [q1] at KA
  have nw : ¬ ¬ (wtA k = vTak (tkA k) s.st ∨ wtA k = [3, 0, 0]) := not_not_intro hw
  have l0 : ¬ (s.st.length : Int) < (tkA k : Int) := by omega
  have kn : ¬ (k : Int) < 0 := by omega
  have k29 : (k : Int) < 29 := by omega
  have V := Lib.hid (p := vDo day s ⟨k, a, b⟩ = (0, ⟨s.st.drop (tkA k), s.sl⟩)) (by unfold vDo; simp only [Int.toNat_natCast]; rw [if_neg n1, if_neg nw, if_neg h6, if_neg h7, if_neg h3, if_pos hp])
  have b6 : ((k : Int) == 6) = false := by simp; omega
  have b7 : ((k : Int) == 7) = false := by simp; omega
  have b3 : ((k : Int) == 3) = false := by simp; omega
  rw [hp] at KU
  have e0 : ((k : Int) == 0) = false := by simp; omega
  clear hT h0 hs hk ha hb hR hU gl hB hz hz0 hl he n1 hw hw2 hv q1 nw h6 h7 h3 hp hk0 h33
  unfold ibx at *
  go_enter Tryd.func26, Tryd.ntmps26
  go_wp2_with (first | (go_at_call 39; refine KE.out.mono ?_; rintro e w1 ⟨rfl, h1⟩; have F1 := Lib.hid (F0.out.later (Nat.le_trans LB.out (allocBP w (ibx k a b)).size) h1); have S1 := Lib.hid (p := B ≤ w1.heap.size) (Nat.le_trans LB.out (Nat.le_trans (allocBP w (ibx k a b)).size h1.size)); have i1 := (CI.out w1 F1.out.chg).cell 0; have c1 := F1.out.sta.box.cell 1; rw [stA_ht] at c1; simp at i1; clear h1) | (go_at_call 40; refine (KT.out w1 F1.out S1.out).mono ?_; rintro e w2 ⟨rfl, h1, tb2, h2⟩; rw [HV.out]; have F2 := Lib.hid h2; have S2 := Lib.hid h1; clear h1 h2; have i2 := (CI.out _ (F2.out.later S2.out (allocBP w2 (.cells #[.int .u8 (x0 : Int), .int .u8 (x1 : Int), .int .u8 (x2 : Int)] 95))).chg).cell 0; simp at i2; unfold aggS; simp only [List.map_cons, List.map_nil]) | (go_at_call 41; refine (KA.out w2 tb2 F2.out _ (allocBP _ _)).mono ?_; rintro e w3 ⟨rfl, h1⟩; have B3 := Lib.hid (p := Below w2.heap.size w2 w3) ((allocBP w2 (.cells #[.int .u8 (x0 : Int), .int .u8 (x1 : Int), .int .u8 (x2 : Int)] 95)).trans (h1.mono (allocBP _ _).size)); have F3 := Lib.hid (F2.out.later S2.out B3.out); have S3 := Lib.hid (p := B ≤ w3.heap.size) (Nat.le_trans S2.out B3.out.size); have i30 := (CI.out w3 F3.out.chg).cell 0; have i31 := (CI.out w3 F3.out.chg).cell 1; have i32 := (CI.out w3 F3.out.chg).cell 2; have r3 := KU.out w2 tb2 F2.out w3 B3.out; have t3 := BkP.cell (BkP.lat (heapN w2 (.cells #[.int .u8 (x0 : Int), .int .u8 (x1 : Int), .int .u8 (x2 : Int)] 95)) h1) 0; simp at i30 i31 i32 t3; clear h1))
  go_ret
  exact ⟨by rw [V.out]; rfl, G, CF.out _ _ F3.out.chg, fun e => by rw [V.out]; exact ⟨tb2, ps, F3.out.sta⟩⟩
set_option maxRecDepth 100000 in
set_option maxHeartbeats 800000 in
theorem do_back {w : World} {B : Nat} {G : Tg} {x tb : Nat} {ps : Nat → Option Nat} {s : Vs} (hT : Tri w B G) (h0 : SvR w B G x tb ps s) (hs : s.ok) (k a b : Nat) (hk : k < 29) (ha : a < 262144) (hb : b < 262144) (day : Int) (hR : Rws w) (hU : Rul w) (gl : 0 < B) (hB : B ≤ w.heap.size) (hz : s.st.length ≤ 262143) (hl : tkA k ≤ s.st.length) (he : ¬ (k = 0 ∧ 0 < s.st.length)) (hw : wtA k = vTak (tkA k) s.st ∨ wtA k = [3, 0, 0]) (h3 : k = 3) (hd : day < (b : Int)) :
    Calls Tryd.prog 26 #[.pointer (some ⟨x, 0, none⟩), .agg #[.int .i64 (k : Int), .int .i64 (a : Int), .int .i64 (b : Int)], .int .i64 day] w fun e w' => DoE w B G x day s ⟨k, a, b⟩ e w' := by
  have LB := Lib.hid hB
  have B0 := Lib.hid (allocBP w (ibx k a b))
  have KE := Lib.hid (effect_any (op := (k : Int)) ⟨.inl ⟨k, hk, rfl, rfl, rfl, rfl, rfl, rfl, rfl, rfl⟩⟩ (w.alloc (ibx k a b)) (hR.alloc _))
  have CI := Lib.hid (fun W (h : Chg (w.alloc (ibx k a b)) W B G G (fun z => z = x)) => chg_box h h0.box.lt)
  have F0 := Lib.hid (p := DoF w (w.alloc (ibx k a b)) B G x tb ps s k a b) ⟨Chg.refl (hT.later (allocBP _ _)), h0.later (allocBP _ _)⟩
  have hl := hl
  have hz0 := hz
  have hz := Nat.le_succ_of_le hz
  have KT := Lib.hid (p := ∀ W, DoF w W B G x tb ps s k a b → B ≤ W.heap.size → Calls Tryd.prog 40 #[.pointer (some ⟨x, 0, none⟩), .int .i64 (tkA k : Int)] W fun e w' => e = .returned (aggS (vTak (tkA k) s.st)) ∧ B ≤ w'.heap.size ∧ ∃ tb2, DoF w w' B G x tb2 ps ⟨s.st.drop (tkA k), s.sl⟩ k a b) (fun W hW hb => by
    refine (takeV_any hW.chg.tri hW.sta (tkA k) (tab_facts k hk).2.2.2.1 hl hz).mono ?_
    rintro e w' ⟨h1, ⟨tb2, h2⟩, h3⟩
    exact ⟨h1, Nat.le_trans hb h3.size, tb2, hW.chg.trans (Chg.ofGrown hW.chg.tri h3 hW.sta.box (by decide) hW.sta.low), h2⟩)
  obtain ⟨x0, x1, x2, hv⟩ := tak3 (tkA k) s.st
  have HV := Lib.hid hv
  have KA := Lib.hid (p := ∀ W tb2, DoF w W B G x tb2 ps ⟨s.st.drop (tkA k), s.sl⟩ k a b → ∀ V, Below W.heap.size W V → Calls Tryd.prog 41 #[.int .i64 (k : Int), aggS [x0, x1, x2]] V fun e w' => e = .returned (.bool (decide (wtA k = [x0, x1, x2] ∨ wtA k = [3, 0, 0]))) ∧ Below V.heap.size V w') (fun W tb2 hW V bV => takesAll_any ((rul_bel hU (chg_first hT hB hW.chg) gl).lat bV) k hk x0 x1 x2)
  have KU := Lib.hid (p := ∀ W tb2, DoF w W B G x tb2 ps ⟨s.st.drop (tkA k), s.sl⟩ k a b → ∀ V, Below W.heap.size W V → V.cell? ⟨0, k * 4 + 3, none⟩ = some (.int .u8 (psA k : Int))) (fun W tb2 hW V bV => (((rul_bel hU (chg_first hT hB hW.chg) gl).lat bV).2 k hk).2.2.2)
  have CF := Lib.hid (p := ∀ W G', Chg (w.alloc (ibx k a b)) W B G G' (fun z => z = x) → Chg w W B G G' (fun z => z = x)) (fun W G' h => chg_first hT hB h)
  have n1 : ¬ (s.st.length < tkA k ∨ (k = 0 ∧ 0 < s.st.length)) := by omega
  have hw2 := hw
  rw [hv] at hw2
  have q1 : decide (wtA k = [x0, x1, x2] ∨ wtA k = [3, 0, 0]) = true := decide_eq_true hw2
  simp only [q1] at KA
  have nw : ¬ ¬ (wtA k = vTak (tkA k) s.st ∨ wtA k = [3, 0, 0]) := not_not_intro hw
  have l0 : ¬ (s.st.length : Int) < (tkA k : Int) := by omega
  have kn : ¬ (k : Int) < 0 := by omega
  have k29 : (k : Int) < 29 := by omega
  have V := Lib.hid (p := vDo day s ⟨k, a, b⟩ = (145, s)) (by unfold vDo; simp only [Int.toNat_natCast]; rw [if_neg n1, if_neg nw, if_neg (by omega), if_neg (by omega), if_pos ⟨h3, hd⟩])
  have b6 : ((k : Int) == 6) = false := by simp; omega
  have b7 : ((k : Int) == 7) = false := by simp; omega
  have b3 : ((k : Int) == 3) = true := by simp; omega
  have e0 : ((k : Int) == 0) = false := by simp; omega
  clear hT h0 hs hk ha hb hR hU gl hB hz hz0 hl he n1 hw hw2 hv q1 nw h3
  unfold ibx at *
  go_enter Tryd.func26, Tryd.ntmps26
  go_wp2_with (first | (go_at_call 39; refine KE.out.mono ?_; rintro e w1 ⟨rfl, h1⟩; have F1 := Lib.hid (F0.out.later (Nat.le_trans LB.out (allocBP w (ibx k a b)).size) h1); have S1 := Lib.hid (p := B ≤ w1.heap.size) (Nat.le_trans LB.out (Nat.le_trans (allocBP w (ibx k a b)).size h1.size)); have i1 := (CI.out w1 F1.out.chg).cell 0; have c1 := F1.out.sta.box.cell 1; rw [stA_ht] at c1; simp at i1; clear h1) | (go_at_call 40; refine (KT.out w1 F1.out S1.out).mono ?_; rintro e w2 ⟨rfl, h1, tb2, h2⟩; rw [HV.out]; have F2 := Lib.hid h2; have S2 := Lib.hid h1; clear h1 h2; have i2 := (CI.out _ (F2.out.later S2.out (allocBP w2 (.cells #[.int .u8 (x0 : Int), .int .u8 (x1 : Int), .int .u8 (x2 : Int)] 95))).chg).cell 0; simp at i2; unfold aggS; simp only [List.map_cons, List.map_nil]) | (go_at_call 41; refine (KA.out w2 tb2 F2.out _ (allocBP _ _)).mono ?_; rintro e w3 ⟨rfl, h1⟩; have B3 := Lib.hid (p := Below w2.heap.size w2 w3) ((allocBP w2 (.cells #[.int .u8 (x0 : Int), .int .u8 (x1 : Int), .int .u8 (x2 : Int)] 95)).trans (h1.mono (allocBP _ _).size)); have F3 := Lib.hid (F2.out.later S2.out B3.out); have S3 := Lib.hid (p := B ≤ w3.heap.size) (Nat.le_trans S2.out B3.out.size); have i30 := (CI.out w3 F3.out.chg).cell 0; have i31 := (CI.out w3 F3.out.chg).cell 1; have i32 := (CI.out w3 F3.out.chg).cell 2; have r3 := KU.out w2 tb2 F2.out w3 B3.out; have t3 := BkP.cell (BkP.lat (heapN w2 (.cells #[.int .u8 (x0 : Int), .int .u8 (x1 : Int), .int .u8 (x2 : Int)] 95)) h1) 0; simp at i30 i31 i32 t3; clear h1))
  go_ret
  exact ⟨by rw [V.out]; rfl, G, CF.out _ _ F3.out.chg, fun e => by rw [V.out] at e; cases e⟩
end Go.Proofs.YtjbbbejadhojlaaDoor
