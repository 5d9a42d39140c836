/-
  WALKS: an instruction's words, of the document (made by gen_wasa.py).
-/
import Derived.Test.YtlcidigcecmnpaaGreatDoorMC
import Derived.Test.YtlcidigcecmnpaaGreatDoorMB
namespace Go.Proofs.YtlcidigcecmnpaaGreatDoor
open Go.RowKit
set_option linter.unusedVariables false
set_option linter.unusedSimpArgs false
theorem lit1P (W : World) (x : ByteArray) : (W.alloc (.cells #[.string x] 9)).ownsRow W.heap.size 9 1 (.slice (some ⟨W.heap.size, 0, none⟩) 1 1) 1 [.string x] :=
  ⟨rfl, .inr ⟨W.heap.size, 1, #[.string x], rfl, Nat.le_refl _, heapN _ _, Nat.le_refl _, by unfold maxLen; omega, by simp, by simp⟩⟩
/-- The words of the roundings, where the document keeps them. -/
def RMd (w : World) : Prop := 1 < w.heap.size ∧ ∀ k, k < 5 → w.cell? ⟨1, k, none⟩ = some (.string (mdA k))
theorem RMd.later {w w' : World} (h : RMd w) (b : Below w.heap.size w w') : RMd w' := ⟨Nat.lt_of_lt_of_le h.1 b.size, fun k hk => (b.cell (p := ⟨1, k, none⟩) h.1).trans (h.2 k hk)⟩
theorem ref_at (k : Nat) (hk : k < 29) : ∃ ra rb t p, RefE (k : Int) (nmA k) ra rb t p 0 ∧ opsR ra rb 0 = (onA k : Int) := by
  have RE : RowE (k : Int) (nmA k) (onA k) (tkA k) (ptA k) (baA k) (bbA k) 0 := ⟨.inl ⟨k, hk, rfl, rfl, rfl, rfl, rfl, rfl, rfl, rfl⟩⟩
  obtain ⟨n', ra, rb, t', p', er', hF⟩ := ref_ex (k : Int)
  obtain ⟨rfl, rfl, rfl, rfl, ho⟩ := same_in RE hF
  exact ⟨ra, rb, _, _, hF, ho⟩
/-- What the words come to. -/
def InsW (w w' : World) (e : Ending) (l : List ByteArray) : Prop := ∃ v B, e = .returned (.tuple #[v, .int .i64 0]) ∧ w.heap.size ≤ B ∧ w'.ownsRow B 9 1 v l.length (strsP l)
set_option maxRecDepth 100000 in
set_option maxHeartbeats 4000000 in
theorem ins_bad {w : World} {p : Pg} (h : PV w p) (o a b : Int) (hi : ¬ In.okP ⟨o, a, b⟩) :
    Calls Tryz.prog 30 #[p.agg, .agg #[.int .i64 o, .int .i64 a, .int .i64 b]] w fun e w' => e = .returned (.tuple #[.slice none 0 0, .int .i64 111]) ∧ Below w.heap.size w w' := by
  have X0 := pi_start w p ⟨o, a, b⟩
  obtain ⟨c0, c1, c2, c3, c4, c5, c6, c7, d0, d1, d2⟩ := X0.get
  have X := Lib.hid X0
  have KV := Lib.hid (fun W => refValid_any o a b W)
  rw [okV_neg hi] at KV
  clear X0 hi
  obtain ⟨na, nc, names, ua, uc, curs, pa, pc, pool, hor, cells, slots, stack, da, dc, days⟩ := p
  unfold inC at *
  unfold Pg.arr at *
  unfold Pg.agg at *
  simp only at *
  generalize hW0 : (w.alloc _).alloc _ = W0 at *
  go_enter Tryz.func30, Tryz.ntmps30
  go_wp2_with (go_at_call 45; refine (KV.out _).mono ?_; rintro e w1 ⟨rfl, b1⟩; have X1 := Lib.hid (X.out.later b1); clear b1)
  go_ret2
  exact ⟨rfl, X1.out.bel⟩
set_option maxRecDepth 100000 in
set_option maxHeartbeats 4000000 in
theorem ins_const_out {w : World} {p : Pg} (h : PV w p) (x : Nat) (b : Int) (hv : okV ⟨1, (x : Int), b⟩ = 0) (hx : ¬ x < p.pool.length) :
    Calls Tryz.prog 30 #[p.agg, .agg #[.int .i64 1, .int .i64 (x : Int), .int .i64 b]] w fun e w' => e = .returned (.tuple #[.slice none 0 0, .int .i64 2]) ∧ Below w.heap.size w w' := by
  have X0 := pi_start w p ⟨1, (x : Int), b⟩
  obtain ⟨c0, c1, c2, c3, c4, c5, c6, c7, d0, d1, d2⟩ := X0.get
  have X := Lib.hid X0
  have KV := Lib.hid (fun W => refValid_any (1) ((x : Int)) (b) W)
  rw [hv] at KV
  obtain ⟨ra, rb, rt, rp, hF, hO⟩ := ref_at 1 (by decide)
  have KN := Lib.hid (fun W => refName_any hF W)
  have KO := Lib.hid (fun W => refOperands_any hF W)
  rw [hO] at KO
  obtain ⟨iS, hiS, hziS0, hziS1, hziS2⟩ := info_parts infoPS
  clear hF hO X0
  obtain ⟨na, nc, names, ua, uc, curs, pa, pc, pool, hor, cells, slots, stack, da, dc, days⟩ := p
  unfold inC at *
  unfold Pg.arr at *
  unfold Pg.agg at *
  simp only at *
  have q3 : decide (pool.length ≤ x) = true := decide_eq_true (by omega)
  have q4 : decide ((pool.length : Int) ≤ (x : Int)) = true := decide_eq_true (by omega)
  clear hv hx h
  generalize nmA 1 = nm at *
  generalize hW0 : (w.alloc _).alloc _ = W0 at *
  go_enter Tryz.func30, Tryz.ntmps30
  go_wp2_with (first
    | (go_at_call 45; refine (KV.out _).mono ?_; rintro e w1 ⟨rfl, b1⟩; have X1 := Lib.hid (X.out.later b1); clear b1; clear c0 c1 c2 c3 c4 c5 c6 c7 d0 d1 d2; obtain ⟨c0, c1, c2, c3, c4, c5, c6, c7, d0, d1, d2⟩ := X1.out.get; simp only at c0 c1 c2 c3 c4 c5 c6 c7 d0 d1 d2)
    | (go_at_call 47; refine (KN.out _).mono ?_; rintro e w2 ⟨rfl, b1⟩; have X2 := Lib.hid (X1.out.later b1); clear b1; have X3 := Lib.hid (X2.out.later (allocBP w2 (.cells #[.string nm] 9))); have O3 := Lib.hid (lit1P w2 nm); clear c0 c1 c2 c3 c4 c5 c6 c7 d0 d1 d2; obtain ⟨c0, c1, c2, c3, c4, c5, c6, c7, d0, d1, d2⟩ := X3.out.get; simp only at c0 c1 c2 c3 c4 c5 c6 c7 d0 d1 d2))
  go_ret2
  exact ⟨rfl, X3.out.bel⟩
set_option maxRecDepth 100000 in
set_option maxHeartbeats 4000000 in
theorem ins_obs_out {w : World} {p : Pg} (h : PV w p) (x : Nat) (b : Int) (hv : okV ⟨3, (x : Int), b⟩ = 0) (hx : ¬ x < p.names.length) :
    Calls Tryz.prog 30 #[p.agg, .agg #[.int .i64 3, .int .i64 (x : Int), .int .i64 b]] w fun e w' => e = .returned (.tuple #[.slice none 0 0, .int .i64 2]) ∧ Below w.heap.size w w' := by
  have X0 := pi_start w p ⟨3, (x : Int), b⟩
  obtain ⟨c0, c1, c2, c3, c4, c5, c6, c7, d0, d1, d2⟩ := X0.get
  have X := Lib.hid X0
  have KV := Lib.hid (fun W => refValid_any (3) ((x : Int)) (b) W)
  rw [hv] at KV
  obtain ⟨ra, rb, rt, rp, hF, hO⟩ := ref_at 3 (by decide)
  have KN := Lib.hid (fun W => refName_any hF W)
  have KO := Lib.hid (fun W => refOperands_any hF W)
  rw [hO] at KO
  obtain ⟨iS, hiS, hziS0, hziS1, hziS2⟩ := info_parts infoPS
  clear hF hO X0
  obtain ⟨na, nc, names, ua, uc, curs, pa, pc, pool, hor, cells, slots, stack, da, dc, days⟩ := p
  unfold inC at *
  unfold Pg.arr at *
  unfold Pg.agg at *
  simp only at *
  have q3 : decide (names.length ≤ x) = true := decide_eq_true (by omega)
  have q4 : decide ((names.length : Int) ≤ (x : Int)) = true := decide_eq_true (by omega)
  clear hv hx h
  generalize nmA 3 = nm at *
  generalize hW0 : (w.alloc _).alloc _ = W0 at *
  go_enter Tryz.func30, Tryz.ntmps30
  go_wp2_with (first
    | (go_at_call 45; refine (KV.out _).mono ?_; rintro e w1 ⟨rfl, b1⟩; have X1 := Lib.hid (X.out.later b1); clear b1; clear c0 c1 c2 c3 c4 c5 c6 c7 d0 d1 d2; obtain ⟨c0, c1, c2, c3, c4, c5, c6, c7, d0, d1, d2⟩ := X1.out.get; simp only at c0 c1 c2 c3 c4 c5 c6 c7 d0 d1 d2)
    | (go_at_call 47; refine (KN.out _).mono ?_; rintro e w2 ⟨rfl, b1⟩; have X2 := Lib.hid (X1.out.later b1); clear b1; have X3 := Lib.hid (X2.out.later (allocBP w2 (.cells #[.string nm] 9))); have O3 := Lib.hid (lit1P w2 nm); clear c0 c1 c2 c3 c4 c5 c6 c7 d0 d1 d2; obtain ⟨c0, c1, c2, c3, c4, c5, c6, c7, d0, d1, d2⟩ := X3.out.get; simp only at c0 c1 c2 c3 c4 c5 c6 c7 d0 d1 d2))
  go_ret2
  exact ⟨rfl, X3.out.bel⟩
set_option maxRecDepth 100000 in
set_option maxHeartbeats 4000000 in
theorem ins_flow_out {w : World} {p : Pg} (h : PV w p) (x : Nat) (b : Int) (hv : okV ⟨28, (x : Int), b⟩ = 0) (hx : ¬ x < p.curs.length) :
    Calls Tryz.prog 30 #[p.agg, .agg #[.int .i64 28, .int .i64 (x : Int), .int .i64 b]] w fun e w' => e = .returned (.tuple #[.slice none 0 0, .int .i64 2]) ∧ Below w.heap.size w w' := by
  have X0 := pi_start w p ⟨28, (x : Int), b⟩
  obtain ⟨c0, c1, c2, c3, c4, c5, c6, c7, d0, d1, d2⟩ := X0.get
  have X := Lib.hid X0
  have KV := Lib.hid (fun W => refValid_any (28) ((x : Int)) (b) W)
  rw [hv] at KV
  obtain ⟨ra, rb, rt, rp, hF, hO⟩ := ref_at 28 (by decide)
  have KN := Lib.hid (fun W => refName_any hF W)
  have KO := Lib.hid (fun W => refOperands_any hF W)
  rw [hO] at KO
  obtain ⟨iS, hiS, hziS0, hziS1, hziS2⟩ := info_parts infoPS
  clear hF hO X0
  obtain ⟨na, nc, names, ua, uc, curs, pa, pc, pool, hor, cells, slots, stack, da, dc, days⟩ := p
  unfold inC at *
  unfold Pg.arr at *
  unfold Pg.agg at *
  simp only at *
  have q3 : decide (curs.length ≤ x) = true := decide_eq_true (by omega)
  have q4 : decide ((curs.length : Int) ≤ (x : Int)) = true := decide_eq_true (by omega)
  clear hv hx h
  generalize nmA 28 = nm at *
  generalize hW0 : (w.alloc _).alloc _ = W0 at *
  go_enter Tryz.func30, Tryz.ntmps30
  go_wp2_with (first
    | (go_at_call 45; refine (KV.out _).mono ?_; rintro e w1 ⟨rfl, b1⟩; have X1 := Lib.hid (X.out.later b1); clear b1; clear c0 c1 c2 c3 c4 c5 c6 c7 d0 d1 d2; obtain ⟨c0, c1, c2, c3, c4, c5, c6, c7, d0, d1, d2⟩ := X1.out.get; simp only at c0 c1 c2 c3 c4 c5 c6 c7 d0 d1 d2)
    | (go_at_call 47; refine (KN.out _).mono ?_; rintro e w2 ⟨rfl, b1⟩; have X2 := Lib.hid (X1.out.later b1); clear b1; have X3 := Lib.hid (X2.out.later (allocBP w2 (.cells #[.string nm] 9))); have O3 := Lib.hid (lit1P w2 nm); clear c0 c1 c2 c3 c4 c5 c6 c7 d0 d1 d2; obtain ⟨c0, c1, c2, c3, c4, c5, c6, c7, d0, d1, d2⟩ := X3.out.get; simp only at c0 c1 c2 c3 c4 c5 c6 c7 d0 d1 d2))
  go_ret2
  exact ⟨rfl, X3.out.bel⟩
set_option maxRecDepth 100000 in
set_option maxHeartbeats 4000000 in
theorem ins_flow {w : World} {p : Pg} (h : PV w p) (x : Nat) (b : Int) (hv : okV ⟨28, (x : Int), b⟩ = 0) (hx : x < p.curs.length) :
    Calls Tryz.prog 30 #[p.agg, .agg #[.int .i64 28, .int .i64 (x : Int), .int .i64 b]] w fun e w' => InsW w w' e [nmA 28, p.curs.getD x ⟨#[]⟩] ∧ Below w.heap.size w w' := by
  obtain ⟨rb', ro, hra, hrl, hrc⟩ : ∃ rb' ro, p.ua = some ⟨rb', ro, none⟩ ∧ rb' < w.heap.size ∧ w.cell? ⟨rb', ro + x, none⟩ = some (.string (p.curs.getD x ⟨#[]⟩)) := by
    rcases h.curs.2.2.2.2 with q | ⟨b, o, e, h1, h2⟩
    · omega
    · refine ⟨b, o, e, h1, ?_⟩
      have := h2 x hx 0 (by omega)
      simp [List.getD, hx] at this
      simpa [List.getD, hx] using this
  have RC := Lib.hid (fun W (q : Below w.heap.size w W) => (q.cell (p := ⟨rb', ro + x, none⟩) hrl).trans hrc)
  have X0 := pi_start w p ⟨28, (x : Int), b⟩
  obtain ⟨c0, c1, c2, c3, c4, c5, c6, c7, d0, d1, d2⟩ := X0.get
  have X := Lib.hid X0
  have KV := Lib.hid (fun W => refValid_any (28) ((x : Int)) (b) W)
  rw [hv] at KV
  obtain ⟨ra, rb, rt, rp, hF, hO⟩ := ref_at 28 (by decide)
  have KN := Lib.hid (fun W => refName_any hF W)
  have KO := Lib.hid (fun W => refOperands_any hF W)
  rw [hO] at KO
  obtain ⟨iS, hiS, hziS0, hziS1, hziS2⟩ := info_parts infoPS
  clear hF hO X0
  obtain ⟨na, nc, names, ua, uc, curs, pa, pc, pool, hor, cells, slots, stack, da, dc, days⟩ := p
  unfold inC at *
  unfold Pg.arr at *
  unfold Pg.agg at *
  simp only at *
  have q2 : (x : Int) < (curs.length : Int) := by omega
  have q3 : decide (curs.length ≤ x) = false := decide_eq_false (by omega)
  have q4 : decide ((curs.length : Int) ≤ (x : Int)) = false := decide_eq_false (by omega)
  subst hra
  generalize curs.getD x ⟨#[]⟩ = fv at *
  clear hv hx h hrc hrl
  generalize nmA 28 = nm at *
  generalize hW0 : (w.alloc _).alloc _ = W0 at *
  go_enter Tryz.func30, Tryz.ntmps30
  go_wp2_with (first
    | (go_at_call 45; refine (KV.out _).mono ?_; rintro e w1 ⟨rfl, b1⟩; have X1 := Lib.hid (X.out.later b1); clear b1; clear c0 c1 c2 c3 c4 c5 c6 c7 d0 d1 d2; obtain ⟨c0, c1, c2, c3, c4, c5, c6, c7, d0, d1, d2⟩ := X1.out.get; simp only at c0 c1 c2 c3 c4 c5 c6 c7 d0 d1 d2)
    | (go_at_call 47; refine (KN.out _).mono ?_; rintro e w2 ⟨rfl, b1⟩; have X2 := Lib.hid (X1.out.later b1); clear b1; have X3 := Lib.hid (X2.out.later (allocBP w2 (.cells #[.string nm] 9))); have O3 := Lib.hid (lit1P w2 nm); clear c0 c1 c2 c3 c4 c5 c6 c7 d0 d1 d2; obtain ⟨c0, c1, c2, c3, c4, c5, c6, c7, d0, d1, d2⟩ := X3.out.get; simp only at c0 c1 c2 c3 c4 c5 c6 c7 d0 d1 d2; have S3 := Lib.hid (show w2.heap.size ≤ (w2.alloc (.cells #[.string nm] 9)).heap.size by simp); obtain ⟨W3, hW3⟩ : ∃ W, w2.alloc (.cells #[.string nm] 9) = W := ⟨_, rfl⟩; rw [hW3] at X3 O3 S3 c0 c1 c2 c3 c4 c5 c6 c7 d0 d1 d2; have r0 := RC.out _ X3.out.bel)
    | (at_builtin; refine wpList_append_own_at _ rfl _ _ 22 rfl w2.heap.size 9 iS _ 1 16 Tryz.underlying22 hiS hziS0 hziS1 hziS2 rfl (by decide) _ 1 [.string nm] rfl (O3.out.alloc _) ⟨W3.heap.size, 0, none⟩ 1 1 [.string fv] rfl rfl (cell_one_new W3 _ _) (by intro u hu; simp at hu; subst hu; rfl) (by unfold maxLen; omega) (by omega) (Nat.le_trans S3.out (by simp)) ?_; intro v5 w5 k1 k2 k3 k4; have O5 := Lib.hid k1; have B5 := Lib.hid ((X3.out.bel.alloc X3.out.bel.size _).grown k2 (Nat.le_trans X3.out.bel.size (by simp)) (fun k e => Nat.le_trans X2.out.bel.size (O3.out.lt k e).1)); clear k1 k2 k3 k4))
  go_ret2
  exact ⟨⟨_, _, rfl, X2.out.bel.size, O5.out⟩, B5.out⟩
set_option maxRecDepth 100000 in
set_option maxHeartbeats 4000000 in
theorem ins_ratio {w : World} {p : Pg} (h : PV w p) (x : Nat) (b : Int) (hv : okV ⟨18, (x : Int), b⟩ = 0) (hx : x < 5) (hM : RMd w) :
    Calls Tryz.prog 30 #[p.agg, .agg #[.int .i64 18, .int .i64 (x : Int), .int .i64 b]] w fun e w' => InsW w w' e [nmA 18, mdA x] ∧ Below w.heap.size w w' := by
  have RC := Lib.hid (fun W (q : Below w.heap.size w W) => (hM.later q).2 x hx)
  have X0 := pi_start w p ⟨18, (x : Int), b⟩
  obtain ⟨c0, c1, c2, c3, c4, c5, c6, c7, d0, d1, d2⟩ := X0.get
  have X := Lib.hid X0
  have KV := Lib.hid (fun W => refValid_any (18) ((x : Int)) (b) W)
  rw [hv] at KV
  obtain ⟨ra, rb, rt, rp, hF, hO⟩ := ref_at 18 (by decide)
  have KN := Lib.hid (fun W => refName_any hF W)
  have KO := Lib.hid (fun W => refOperands_any hF W)
  rw [hO] at KO
  obtain ⟨iS, hiS, hziS0, hziS1, hziS2⟩ := info_parts infoPS
  clear hF hO X0
  obtain ⟨na, nc, names, ua, uc, curs, pa, pc, pool, hor, cells, slots, stack, da, dc, days⟩ := p
  unfold inC at *
  unfold Pg.arr at *
  unfold Pg.agg at *
  simp only at *
  have q2 : (x : Int) < 5 := by omega
  generalize mdA x = fv at *
  clear hv h hM
  generalize nmA 18 = nm at *
  generalize hW0 : (w.alloc _).alloc _ = W0 at *
  go_enter Tryz.func30, Tryz.ntmps30
  go_wp2_with (first
    | (go_at_call 45; refine (KV.out _).mono ?_; rintro e w1 ⟨rfl, b1⟩; have X1 := Lib.hid (X.out.later b1); clear b1; clear c0 c1 c2 c3 c4 c5 c6 c7 d0 d1 d2; obtain ⟨c0, c1, c2, c3, c4, c5, c6, c7, d0, d1, d2⟩ := X1.out.get; simp only at c0 c1 c2 c3 c4 c5 c6 c7 d0 d1 d2)
    | (go_at_call 47; refine (KN.out _).mono ?_; rintro e w2 ⟨rfl, b1⟩; have X2 := Lib.hid (X1.out.later b1); clear b1; have X3 := Lib.hid (X2.out.later (allocBP w2 (.cells #[.string nm] 9))); have O3 := Lib.hid (lit1P w2 nm); clear c0 c1 c2 c3 c4 c5 c6 c7 d0 d1 d2; obtain ⟨c0, c1, c2, c3, c4, c5, c6, c7, d0, d1, d2⟩ := X3.out.get; simp only at c0 c1 c2 c3 c4 c5 c6 c7 d0 d1 d2; have S3 := Lib.hid (show w2.heap.size ≤ (w2.alloc (.cells #[.string nm] 9)).heap.size by simp); obtain ⟨W3, hW3⟩ : ∃ W, w2.alloc (.cells #[.string nm] 9) = W := ⟨_, rfl⟩; rw [hW3] at X3 O3 S3 c0 c1 c2 c3 c4 c5 c6 c7 d0 d1 d2; have r0 := RC.out _ X3.out.bel)
    | (at_builtin; refine wpList_append_own_at _ rfl _ _ 22 rfl w2.heap.size 9 iS _ 1 16 Tryz.underlying22 hiS hziS0 hziS1 hziS2 rfl (by decide) _ 1 [.string nm] rfl (O3.out.alloc _) ⟨W3.heap.size, 0, none⟩ 1 1 [.string fv] rfl rfl (cell_one_new W3 _ _) (by intro u hu; simp at hu; subst hu; rfl) (by unfold maxLen; omega) (by omega) (Nat.le_trans S3.out (by simp)) ?_; intro v5 w5 k1 k2 k3 k4; have O5 := Lib.hid k1; have B5 := Lib.hid ((X3.out.bel.alloc X3.out.bel.size _).grown k2 (Nat.le_trans X3.out.bel.size (by simp)) (fun k e => Nat.le_trans X2.out.bel.size (O3.out.lt k e).1)); clear k1 k2 k3 k4))
  go_ret2
  exact ⟨⟨_, _, rfl, X2.out.bel.size, O5.out⟩, B5.out⟩
set_option maxRecDepth 100000 in
set_option maxHeartbeats 4000000 in
theorem ins_const {w : World} {p : Pg} (h : PV w p) (x : Nat) (b : Int) (hv : okV ⟨1, (x : Int), b⟩ = 0) (hx : x < p.pool.length) :
    Calls Tryz.prog 30 #[p.agg, .agg #[.int .i64 1, .int .i64 (x : Int), .int .i64 b]] w fun e w' => InsW w w' e [nmA 1, txA (p.pool.getD x 0)] ∧ Below w.heap.size w w' := by
  obtain ⟨rb', ro, hra, hrl, hrc⟩ : ∃ rb' ro, p.pa = some ⟨rb', ro, none⟩ ∧ rb' < w.heap.size ∧ w.cell? ⟨rb', ro + x, none⟩ = some (.int .i64 (p.pool.getD x 0)) := by
    rcases h.pool.2.2.2.2 with q | ⟨b, o, e, h1, h2⟩
    · omega
    · refine ⟨b, o, e, h1, ?_⟩
      have := h2 x hx 0 (by omega)
      simp [List.getD, hx] at this
      simpa [List.getD, hx] using this
  have RC := Lib.hid (fun W (q : Below w.heap.size w W) => (q.cell (p := ⟨rb', ro + x, none⟩) hrl).trans hrc)
  have KD := Lib.hid (fun W => digits13_any (p.pool.getD x 0) (pool_i64 h x) W)
  have X0 := pi_start w p ⟨1, (x : Int), b⟩
  obtain ⟨c0, c1, c2, c3, c4, c5, c6, c7, d0, d1, d2⟩ := X0.get
  have X := Lib.hid X0
  have KV := Lib.hid (fun W => refValid_any (1) ((x : Int)) (b) W)
  rw [hv] at KV
  obtain ⟨ra, rb, rt, rp, hF, hO⟩ := ref_at 1 (by decide)
  have KN := Lib.hid (fun W => refName_any hF W)
  have KO := Lib.hid (fun W => refOperands_any hF W)
  rw [hO] at KO
  obtain ⟨iS, hiS, hziS0, hziS1, hziS2⟩ := info_parts infoPS
  clear hF hO X0
  obtain ⟨na, nc, names, ua, uc, curs, pa, pc, pool, hor, cells, slots, stack, da, dc, days⟩ := p
  unfold inC at *
  unfold Pg.arr at *
  unfold Pg.agg at *
  simp only at *
  have q2 : (x : Int) < (pool.length : Int) := by omega
  have q3 : decide (pool.length ≤ x) = false := decide_eq_false (by omega)
  have q4 : decide ((pool.length : Int) ≤ (x : Int)) = false := decide_eq_false (by omega)
  subst hra
  generalize pool.getD x 0 = fz at *
  generalize txA fz = fv at *
  clear hv hx h hrc hrl
  generalize nmA 1 = nm at *
  generalize hW0 : (w.alloc _).alloc _ = W0 at *
  go_enter Tryz.func30, Tryz.ntmps30
  go_wp2_with (first
    | (go_at_call 45; refine (KV.out _).mono ?_; rintro e w1 ⟨rfl, b1⟩; have X1 := Lib.hid (X.out.later b1); clear b1; clear c0 c1 c2 c3 c4 c5 c6 c7 d0 d1 d2; obtain ⟨c0, c1, c2, c3, c4, c5, c6, c7, d0, d1, d2⟩ := X1.out.get; simp only at c0 c1 c2 c3 c4 c5 c6 c7 d0 d1 d2)
    | (go_at_call 47; refine (KN.out _).mono ?_; rintro e w2 ⟨rfl, b1⟩; have X2 := Lib.hid (X1.out.later b1); clear b1; have X3 := Lib.hid (X2.out.later (allocBP w2 (.cells #[.string nm] 9))); have O3 := Lib.hid (lit1P w2 nm); clear c0 c1 c2 c3 c4 c5 c6 c7 d0 d1 d2; obtain ⟨c0, c1, c2, c3, c4, c5, c6, c7, d0, d1, d2⟩ := X3.out.get; simp only at c0 c1 c2 c3 c4 c5 c6 c7 d0 d1 d2; have r0 := RC.out _ X3.out.bel)
    | (go_at_call 29; refine (KD.out _).mono ?_; rintro e w4 ⟨rfl, b1⟩; have X4 := Lib.hid (X3.out.later b1); have O4 := Lib.hid (row_farP O3.out (gr_below b1 none) (fun k q e => by cases e)); have S4 := Lib.hid (Nat.le_trans (show w2.heap.size ≤ (w2.alloc (.cells #[.string nm] 9)).heap.size by simp) b1.size); clear b1)
    | (at_builtin; refine wpList_append_own_at _ rfl _ _ 22 rfl w2.heap.size 9 iS _ 1 16 Tryz.underlying22 hiS hziS0 hziS1 hziS2 rfl (by decide) _ 1 [.string nm] rfl (O4.out.alloc _) ⟨w4.heap.size, 0, none⟩ 1 1 [.string fv] rfl rfl (cell_one_new w4 _ _) (by intro u hu; simp at hu; subst hu; rfl) (by unfold maxLen; omega) (by omega) (Nat.le_trans S4.out (by simp)) ?_; intro v5 w5 k1 k2 k3 k4; have O5 := Lib.hid k1; have B5 := Lib.hid ((X4.out.bel.alloc X4.out.bel.size _).grown k2 (Nat.le_trans X4.out.bel.size (by simp)) (fun k e => Nat.le_trans X2.out.bel.size (O4.out.lt k e).1)); clear k1 k2 k3 k4))
  go_ret2
  exact ⟨⟨_, _, rfl, X2.out.bel.size, O5.out⟩, B5.out⟩
set_option maxRecDepth 100000 in
set_option maxHeartbeats 4000000 in
theorem ins_none {w : World} {p : Pg} (h : PV w p) (k : Nat) (a b : Int) (hk : k < 29) (hv : okV ⟨(k : Int), a, b⟩ = 0) (h1 : k ≠ 1 ∧ k ≠ 3 ∧ k ≠ 28 ∧ k ≠ 18) (ho : onA k = 0) :
    Calls Tryz.prog 30 #[p.agg, .agg #[.int .i64 (k : Int), .int .i64 a, .int .i64 b]] w fun e w' => InsW w w' e [nmA k] ∧ Below w.heap.size w w' := by
  have X0 := pi_start w p ⟨(k : Int), a, b⟩
  obtain ⟨c0, c1, c2, c3, c4, c5, c6, c7, d0, d1, d2⟩ := X0.get
  have X := Lib.hid X0
  have KV := Lib.hid (fun W => refValid_any ((k : Int)) (a) (b) W)
  rw [hv] at KV
  obtain ⟨ra, rb, rt, rp, hF, hO⟩ := ref_at k hk
  have KN := Lib.hid (fun W => refName_any hF W)
  have KO := Lib.hid (fun W => refOperands_any hF W)
  rw [hO] at KO
  obtain ⟨iS, hiS, hziS0, hziS1, hziS2⟩ := info_parts infoPS
  clear hF hO X0
  obtain ⟨na, nc, names, ua, uc, curs, pa, pc, pool, hor, cells, slots, stack, da, dc, days⟩ := p
  unfold inC at *
  unfold Pg.arr at *
  unfold Pg.agg at *
  simp only at *
  have f1 : ((k : Int) == 1) = false := by simp; omega
  have f2 : ((k : Int) == 3) = false := by simp; omega
  have f3 : ((k : Int) == 28) = false := by simp; omega
  have f4 : ((k : Int) == 18) = false := by simp; omega
  rw [ho] at KO
  simp only [Int.natCast_zero] at KO
  clear hv h h1 ho
  generalize nmA k = nm at *
  generalize hW0 : (w.alloc _).alloc _ = W0 at *
  go_enter Tryz.func30, Tryz.ntmps30
  go_wp2_with (first
    | (go_at_call 45; refine (KV.out _).mono ?_; rintro e w1 ⟨rfl, b1⟩; have X1 := Lib.hid (X.out.later b1); clear b1; clear c0 c1 c2 c3 c4 c5 c6 c7 d0 d1 d2; obtain ⟨c0, c1, c2, c3, c4, c5, c6, c7, d0, d1, d2⟩ := X1.out.get; simp only at c0 c1 c2 c3 c4 c5 c6 c7 d0 d1 d2)
    | (go_at_call 47; refine (KN.out _).mono ?_; rintro e w2 ⟨rfl, b1⟩; have X2 := Lib.hid (X1.out.later b1); clear b1; have X3 := Lib.hid (X2.out.later (allocBP w2 (.cells #[.string nm] 9))); have O3 := Lib.hid (lit1P w2 nm); clear c0 c1 c2 c3 c4 c5 c6 c7 d0 d1 d2; obtain ⟨c0, c1, c2, c3, c4, c5, c6, c7, d0, d1, d2⟩ := X3.out.get; simp only at c0 c1 c2 c3 c4 c5 c6 c7 d0 d1 d2)
    | (go_at_call 48; refine (KO.out _).mono ?_; rintro e w3 ⟨rfl, b1⟩; have X3b := Lib.hid (X3.out.later b1); have O3b := Lib.hid (row_farP O3.out (gr_below b1 none) (fun k q e => by cases e)); have S3b := Lib.hid (Nat.le_trans (show w2.heap.size ≤ (w2.alloc (.cells #[.string nm] 9)).heap.size by simp) b1.size); clear b1; clear c0 c1 c2 c3 c4 c5 c6 c7 d0 d1 d2; obtain ⟨c0, c1, c2, c3, c4, c5, c6, c7, d0, d1, d2⟩ := X3b.out.get; simp only at c0 c1 c2 c3 c4 c5 c6 c7 d0 d1 d2))
  go_ret2
  exact ⟨⟨_, _, rfl, X2.out.bel.size, O3b.out⟩, X3b.out.bel⟩
set_option maxRecDepth 100000 in
set_option maxHeartbeats 4000000 in
theorem ins_one {w : World} {p : Pg} (h : PV w p) (k x : Nat) (b : Int) (hk : k < 29) (hv : okV ⟨(k : Int), (x : Int), b⟩ = 0) (h1 : k ≠ 1 ∧ k ≠ 3 ∧ k ≠ 28 ∧ k ≠ 18) (ho : onA k = 1) (hx : x ≤ 262143) :
    Calls Tryz.prog 30 #[p.agg, .agg #[.int .i64 (k : Int), .int .i64 (x : Int), .int .i64 b]] w fun e w' => InsW w w' e [nmA k, txA x] ∧ Below w.heap.size w w' := by
  have KD := Lib.hid (fun W => digits13_any (x : Int) (i64_nat (by omega)) W)
  have X0 := pi_start w p ⟨(k : Int), (x : Int), b⟩
  obtain ⟨c0, c1, c2, c3, c4, c5, c6, c7, d0, d1, d2⟩ := X0.get
  have X := Lib.hid X0
  have KV := Lib.hid (fun W => refValid_any ((k : Int)) ((x : Int)) (b) W)
  rw [hv] at KV
  obtain ⟨ra, rb, rt, rp, hF, hO⟩ := ref_at k hk
  have KN := Lib.hid (fun W => refName_any hF W)
  have KO := Lib.hid (fun W => refOperands_any hF W)
  rw [hO] at KO
  obtain ⟨iS, hiS, hziS0, hziS1, hziS2⟩ := info_parts infoPS
  clear hF hO X0
  obtain ⟨na, nc, names, ua, uc, curs, pa, pc, pool, hor, cells, slots, stack, da, dc, days⟩ := p
  unfold inC at *
  unfold Pg.arr at *
  unfold Pg.agg at *
  simp only at *
  have f1 : ((k : Int) == 1) = false := by simp; omega
  have f2 : ((k : Int) == 3) = false := by simp; omega
  have f3 : ((k : Int) == 28) = false := by simp; omega
  have f4 : ((k : Int) == 18) = false := by simp; omega
  rw [ho] at KO
  generalize txA (x : Int) = fv at *
  clear hv h h1 ho
  generalize nmA k = nm at *
  generalize hW0 : (w.alloc _).alloc _ = W0 at *
  go_enter Tryz.func30, Tryz.ntmps30
  go_wp2_with (first
    | (go_at_call 45; refine (KV.out _).mono ?_; rintro e w1 ⟨rfl, b1⟩; have X1 := Lib.hid (X.out.later b1); clear b1; clear c0 c1 c2 c3 c4 c5 c6 c7 d0 d1 d2; obtain ⟨c0, c1, c2, c3, c4, c5, c6, c7, d0, d1, d2⟩ := X1.out.get; simp only at c0 c1 c2 c3 c4 c5 c6 c7 d0 d1 d2)
    | (go_at_call 47; refine (KN.out _).mono ?_; rintro e w2 ⟨rfl, b1⟩; have X2 := Lib.hid (X1.out.later b1); clear b1; have X3 := Lib.hid (X2.out.later (allocBP w2 (.cells #[.string nm] 9))); have O3 := Lib.hid (lit1P w2 nm); clear c0 c1 c2 c3 c4 c5 c6 c7 d0 d1 d2; obtain ⟨c0, c1, c2, c3, c4, c5, c6, c7, d0, d1, d2⟩ := X3.out.get; simp only at c0 c1 c2 c3 c4 c5 c6 c7 d0 d1 d2)
    | (go_at_call 48; refine (KO.out _).mono ?_; rintro e w3 ⟨rfl, b1⟩; have X3b := Lib.hid (X3.out.later b1); have O3b := Lib.hid (row_farP O3.out (gr_below b1 none) (fun k q e => by cases e)); have S3b := Lib.hid (Nat.le_trans (show w2.heap.size ≤ (w2.alloc (.cells #[.string nm] 9)).heap.size by simp) b1.size); clear b1; clear c0 c1 c2 c3 c4 c5 c6 c7 d0 d1 d2; obtain ⟨c0, c1, c2, c3, c4, c5, c6, c7, d0, d1, d2⟩ := X3b.out.get; simp only at c0 c1 c2 c3 c4 c5 c6 c7 d0 d1 d2)
    | (go_at_call 29; refine (KD.out _).mono ?_; rintro e w4 ⟨rfl, b1⟩; have X4 := Lib.hid (X3b.out.later b1); have O4 := Lib.hid (row_farP O3b.out (gr_below b1 none) (fun k q e => by cases e)); have S4 := Lib.hid (Nat.le_trans S3b.out b1.size); clear b1)
    | (at_builtin; refine wpList_append_own_at _ rfl _ _ 22 rfl w2.heap.size 9 iS _ 1 16 Tryz.underlying22 hiS hziS0 hziS1 hziS2 rfl (by decide) _ 1 [.string nm] rfl (O4.out.alloc _) ⟨w4.heap.size, 0, none⟩ 1 1 [.string fv] rfl rfl (cell_one_new w4 _ _) (by intro u hu; simp at hu; subst hu; rfl) (by unfold maxLen; omega) (by omega) (Nat.le_trans S4.out (by simp)) ?_; intro v5 w5 k1 k2 k3 k4; have O5 := Lib.hid k1; have B5 := Lib.hid ((X4.out.bel.alloc X4.out.bel.size _).grown k2 (Nat.le_trans X4.out.bel.size (by simp)) (fun k e => Nat.le_trans X2.out.bel.size (O4.out.lt k e).1)); clear k1 k2 k3 k4))
  go_ret2
  exact ⟨⟨_, _, rfl, X2.out.bel.size, O5.out⟩, B5.out⟩
end Go.Proofs.YtlcidigcecmnpaaGreatDoor

namespace Go.Proofs.YtlcidigcecmnpaaGreatDoor
open Go.RowKit
set_option linter.unusedVariables false
set_option linter.unusedSimpArgs false
set_option maxRecDepth 100000 in
set_option maxHeartbeats 4000000 in
theorem ins_obs {w : World} {p : Pg} (h : PV w p) (x : Nat) (b : Int) (hv : okV ⟨3, (x : Int), b⟩ = 0) (hx : x < p.names.length) (hb : i64 b) :
    Calls Tryz.prog 30 #[p.agg, .agg #[.int .i64 3, .int .i64 (x : Int), .int .i64 b]] w fun e w' => InsW w w' e [nmA 3, p.names.getD x ⟨#[]⟩, txA b] ∧ Below w.heap.size w w' := by
  obtain ⟨rb', ro, hra, hrl, hrc⟩ : ∃ rb' ro, p.na = some ⟨rb', ro, none⟩ ∧ rb' < w.heap.size ∧ w.cell? ⟨rb', ro + x, none⟩ = some (.string (p.names.getD x ⟨#[]⟩)) := by
    rcases h.names.2.2.2.2 with q | ⟨b, o, e, h1, h2⟩
    · omega
    · refine ⟨b, o, e, h1, ?_⟩
      have := h2 x hx 0 (by omega)
      simp [List.getD, hx] at this
      simpa [List.getD, hx] using this
  have RC := Lib.hid (fun W (q : Below w.heap.size w W) => (q.cell (p := ⟨rb', ro + x, none⟩) hrl).trans hrc)
  have KD := Lib.hid (fun W => digits13_any b hb W)
  have X0 := pi_start w p ⟨3, (x : Int), b⟩
  obtain ⟨c0, c1, c2, c3, c4, c5, c6, c7, d0, d1, d2⟩ := X0.get
  have X := Lib.hid X0
  have KV := Lib.hid (fun W => refValid_any (3) ((x : Int)) (b) W)
  rw [hv] at KV
  obtain ⟨ra, rb, rt, rp, hF, hO⟩ := ref_at 3 (by decide)
  have KN := Lib.hid (fun W => refName_any hF W)
  have KO := Lib.hid (fun W => refOperands_any hF W)
  rw [hO] at KO
  obtain ⟨iS, hiS, hziS0, hziS1, hziS2⟩ := info_parts infoPS
  clear hF hO X0
  obtain ⟨na, nc, names, ua, uc, curs, pa, pc, pool, hor, cells, slots, stack, da, dc, days⟩ := p
  unfold inC at *
  unfold Pg.arr at *
  unfold Pg.agg at *
  simp only at *
  have q2 : (x : Int) < (names.length : Int) := by omega
  have q3 : decide (names.length ≤ x) = false := decide_eq_false (by omega)
  have q4 : decide ((names.length : Int) ≤ (x : Int)) = false := decide_eq_false (by omega)
  subst hra
  generalize names.getD x ⟨#[]⟩ = fv at *
  generalize txA b = tb at *
  clear hv hx h hrc hrl hb
  generalize nmA 3 = nm at *
  generalize hW0 : (w.alloc _).alloc _ = W0 at *
  go_enter Tryz.func30, Tryz.ntmps30
  go_wp2_with (first
    | (go_at_call 45; refine (KV.out _).mono ?_; rintro e w1 ⟨rfl, b1⟩; have X1 := Lib.hid (X.out.later b1); clear b1; clear c0 c1 c2 c3 c4 c5 c6 c7 d0 d1 d2; obtain ⟨c0, c1, c2, c3, c4, c5, c6, c7, d0, d1, d2⟩ := X1.out.get; simp only at c0 c1 c2 c3 c4 c5 c6 c7 d0 d1 d2)
    | (go_at_call 47; refine (KN.out _).mono ?_; rintro e w2 ⟨rfl, b1⟩; have X2 := Lib.hid (X1.out.later b1); clear b1; have X3 := Lib.hid (X2.out.later (allocBP w2 (.cells #[.string nm] 9))); have O3 := Lib.hid (lit1P w2 nm); clear c0 c1 c2 c3 c4 c5 c6 c7 d0 d1 d2; obtain ⟨c0, c1, c2, c3, c4, c5, c6, c7, d0, d1, d2⟩ := X3.out.get; simp only at c0 c1 c2 c3 c4 c5 c6 c7 d0 d1 d2; have S3 := Lib.hid (show w2.heap.size ≤ (w2.alloc (.cells #[.string nm] 9)).heap.size by simp); obtain ⟨W3, hW3⟩ : ∃ W, w2.alloc (.cells #[.string nm] 9) = W := ⟨_, rfl⟩; rw [hW3] at X3 O3 S3 c0 c1 c2 c3 c4 c5 c6 c7 d0 d1 d2; have r0 := RC.out _ X3.out.bel))
  go_region_law (first
    | (go_simp; go_at_call 29; refine (KD.out _).mono ?_; rintro e w4 ⟨rfl, b1⟩; have B4 := Lib.hid (show Below W3.heap.size W3 w4 from (Below.refl _ _).drew.trans b1); have X4 := Lib.hid (X3.out.later B4.out); have O4 := Lib.hid (row_farP O3.out (gr_below B4.out none) (fun k q e => by cases e)); have S4 := Lib.hid (Nat.le_trans S3.out B4.out.size); clear b1; obtain ⟨y0, y1, y2, y3, y4, y5, y6, y7, z0, z1, z2⟩ := X4.out.get; simp only at y0 y1 y2 y3 y4 y5 y6 y7 z0 z1 z2; have r4 := RC.out _ X4.out.bel)
    | (refine step_appG4 _ rfl _ _ 22 rfl w2.heap.size 9 iS _ 1 16 Tryz.underlying22 hiS hziS0 hziS1 hziS2 rfl (by decide) (.slice (some ⟨w2.heap.size, 0, none⟩) 1 1) 1 [.string nm] rfl (O4.out.alloc _) ⟨w4.heap.size, 0, none⟩ 2 2 [.string fv, .string tb] rfl rfl (cell_two_new w4 _ _ _) (by intro u hu; simp at hu; rcases hu with rfl | rfl <;> rfl) (by unfold maxLen; omega) (by omega) (Nat.le_trans S4.out (by simp)) ?_; intro v5 w5 k1 k2 k3 k4; have O5 := Lib.hid k1; have B5 := Lib.hid ((X4.out.bel.alloc X4.out.bel.size _).grown k2 (Nat.le_trans X4.out.bel.size (by simp)) (fun k e => Nat.le_trans X2.out.bel.size (O4.out.lt k e).1)); clear k1 k2 k3 k4))
  all_goals
    go_wp2
    go_ret2
    exact ⟨⟨_, _, rfl, X2.out.bel.size, O5.out⟩, B5.out⟩
theorem on_one : ∀ k, k < 29 → k ≠ 3 → onA k ≤ 1 := all29 (by decide)
/-- What the document's words of an instruction come to. -/
def InsE (w w' : World) (p : Pg) (i : In) (e : Ending) : Prop :=
  (prE p.names p.curs p.pool i ≠ 0 ∧ e = .returned (.tuple #[.slice none 0 0, .int .i64 (prE p.names p.curs p.pool i)])) ∨ (i.okP ∧ prE p.names p.curs p.pool i = 0 ∧ InsW w w' e (wdsA p.names p.curs p.pool i))
theorem ins_any {w : World} {p : Pg} (h : PV w p) (i : In) (hM : RMd w) :
    Calls Tryz.prog 30 #[p.agg, .agg #[.int .i64 i.o, .int .i64 i.a, .int .i64 i.b]] w fun e w' => InsE w w' p i e ∧ Below w.heap.size w w' := by
  obtain ⟨o, a, b⟩ := i
  by_cases hi : In.okP ⟨o, a, b⟩
  · have hv : okV ⟨o, a, b⟩ = 0 := okV_pos hi
    have hi' := hi
    obtain ⟨h1, h2, h3, h4, h5, h6⟩ := hi'
    simp only at h1 h2 h3 h4 h5 h6
    obtain ⟨k, rfl⟩ : ∃ x : Nat, o = x := ⟨o.toNat, by omega⟩
    obtain ⟨x, rfl⟩ : ∃ x : Nat, a = x := ⟨a.toNat, by omega⟩
    have hk : k < 29 := by omega
    simp only [Int.toNat_natCast] at h4 h6
    have tf := tab_facts k hk
    have out : ∀ e w', (fstB p.names p.curs p.pool ⟨(k : Int), (x : Int), b⟩ = false) → (e = Ending.returned (.tuple #[.slice none 0 0, .int .i64 2]) ∧ Below w.heap.size w w') → InsE w w' p ⟨(k : Int), (x : Int), b⟩ e ∧ Below w.heap.size w w' := fun e w' hf hh => by
      have e2 : prE p.names p.curs p.pool ⟨(k : Int), (x : Int), b⟩ = 2 := by unfold prE; rw [if_pos hi, hf]; rfl
      exact ⟨.inl ⟨by rw [e2]; decide, by rw [e2]; exact hh.1⟩, hh.2⟩
    have inn : ∀ e w' l, (fstB p.names p.curs p.pool ⟨(k : Int), (x : Int), b⟩ = true) → wdsA p.names p.curs p.pool ⟨(k : Int), (x : Int), b⟩ = l → (InsW w w' e l ∧ Below w.heap.size w w') → InsE w w' p ⟨(k : Int), (x : Int), b⟩ e ∧ Below w.heap.size w w' := fun e w' l hf hl hh => by
      have e2 : prE p.names p.curs p.pool ⟨(k : Int), (x : Int), b⟩ = 0 := by unfold prE; rw [if_pos hi, if_pos hf]
      exact ⟨.inr ⟨hi, e2, hl ▸ hh.1⟩, hh.2⟩
    rcases (show k = 1 ∨ k = 3 ∨ k = 28 ∨ k = 18 ∨ (k ≠ 1 ∧ k ≠ 3 ∧ k ≠ 28 ∧ k ≠ 18) by omega) with q | q | q | q | q
    · subst q
      by_cases hx : x < p.pool.length
      · exact (ins_const h x b hv hx).mono fun e w' hh => inn e w' _ (by unfold fstB; simp [hx]) (by unfold wdsA fstW; rfl) hh
      · exact (ins_const_out h x b hv hx).mono fun e w' hh => out e w' (by unfold fstB; simp; omega) hh
    · subst q
      by_cases hx : x < p.names.length
      · have hb : i64 b := by
          obtain ⟨y, rfl⟩ : ∃ y : Nat, b = y := ⟨b.toNat, by omega⟩
          exact i64_nat (by omega)
        exact (ins_obs h x b hv hx hb).mono fun e w' hh => inn e w' _ (by unfold fstB; simp [hx]) (by unfold wdsA fstW; rfl) hh
      · exact (ins_obs_out h x b hv hx).mono fun e w' hh => out e w' (by unfold fstB; simp; omega) hh
    · subst q
      by_cases hx : x < p.curs.length
      · exact (ins_flow h x b hv hx).mono fun e w' hh => inn e w' _ (by unfold fstB; simp [hx]) (by unfold wdsA fstW; rfl) hh
      · exact (ins_flow_out h x b hv hx).mono fun e w' hh => out e w' (by unfold fstB; simp; omega) hh
    · subst q
      have hx : x < 5 := by have : baA 18 = 4 := rfl; omega
      exact (ins_ratio h x b hv hx hM).mono fun e w' hh => inn e w' _ (by unfold fstB; simp) (by unfold wdsA fstW; rfl) hh
    · have ne : ¬ (k : Int) = 1 ∧ ¬ (k : Int) = 3 ∧ ¬ (k : Int) = 28 ∧ ¬ (k : Int) = 18 := by omega
      have hf : fstB p.names p.curs p.pool ⟨(k : Int), (x : Int), b⟩ = true := by unfold fstB; simp only [if_neg ne.1, if_neg ne.2.1, if_neg ne.2.2.1]
      have hw : fstW p.names p.curs p.pool ⟨(k : Int), (x : Int), b⟩ = txA x := by unfold fstW; simp only [if_neg ne.1, if_neg ne.2.1, if_neg ne.2.2.1, if_neg ne.2.2.2]
      have o1 := on_one k hk q.2.1
      rcases (show onA k = 0 ∨ onA k = 1 by omega) with z | z
      · exact (ins_none h k x b hk hv q z).mono fun e w' hh => inn e w' _ hf (by unfold wdsA; simp only [Int.toNat_natCast, z]; rfl) hh
      · exact (ins_one h k x b hk hv q z (by omega)).mono fun e w' hh => inn e w' _ hf (by unfold wdsA; simp only [Int.toNat_natCast, z, hw]; rfl) hh
  · have e2 : prE p.names p.curs p.pool ⟨o, a, b⟩ = 111 := if_neg hi
    exact (ins_bad h o a b hi).mono fun e w' hh => ⟨.inl ⟨by rw [e2]; decide, by rw [e2]; exact hh.1⟩, hh.2⟩
theorem jP_all (l : List ByteArray) : jP l l.length = Lib.join (l.map (·.data.toList)) [32] := by unfold jP; rw [List.take_length]
theorem wds_len (ns cs : List ByteArray) (pl : List Int) (i : In) (hi : i.okP) : (wdsA ns cs pl i).length = 1 + onA i.o.toNat := by
  have := (tab_facts i.o.toNat (by have := hi.1; have := hi.2.1; omega)).1
  unfold wdsA
  simp
  omega
theorem wds_ne (ns cs : List ByteArray) (pl : List Int) (i : In) (hi : i.okP) : Lib.join ((wdsA ns cs pl i).map (·.data.toList)) [32] ≠ [] := by
  have h0 := nm_some i.o.toNat (by have := hi.1; have := hi.2.1; omega)
  unfold wdsA
  rw [show 1 + onA i.o.toNat = onA i.o.toNat + 1 by omega, List.take_succ_cons, List.map_cons, Lib.join_cons]
  intro q
  exact h0 (List.append_eq_nil_iff.1 q).1
theorem wds_size {w : World} {p : Pg} (h : PV w p) (i : In) (hi : i.okP) : (Lib.join ((wdsA p.names p.curs p.pool i).map (·.data.toList)) [32]).length ≤ 140737488355328 := by
  have on2 := (tab_facts i.o.toNat (by have := hi.1; have := hi.2.1; omega)).1
  have hbb := (tab_facts i.o.toNat (by have := hi.1; have := hi.2.1; omega)).2.2.1
  refine join_size _ _ _ _ (by omega) ?_
  have e1 := nm_size i.o.toNat (by have := hi.1; have := hi.2.1; omega)
  have e2 := fst_size h i hi
  have e3 : (txA i.b).size ≤ 21 := by
    obtain ⟨y, hy⟩ : ∃ x : Nat, i.b = x := ⟨i.b.toNat, by have := hi.2.2.2.2.1; omega⟩
    rw [hy]
    exact txA_len (i64_nat (by have := hi.2.2.2.2.2; omega))
  omega
theorem own_cells0 {W : World} {B g m c : Nat} {T : TypeId} {l : List ByteArray} {n : Nat} (h : W.ownsRow B T 1 (.slice (some ⟨g, 0, none⟩) m c) n (strsP l)) (j : Nat) (x : ByteArray) (hj : l[j]? = some x) : W.cell? ⟨g, j, none⟩ = some (.string x) := by
  have := h.cells (g := g) rfl j (.string x) (by simp [strsP, hj])
  rw [Go.Addr.add_lit, Nat.zero_add] at this
  exact this
end Go.Proofs.YtlcidigcecmnpaaGreatDoor
