/-
  WALK: the document's token, a date (A).
-/
import Derived.Test.YtlihkmhhfnkkoaaDoorWRefLex12
namespace Go.Proofs.YtlihkmhhfnkkoaaDoor
open Go.RowKit Lx
set_option linter.unusedVariables false
set_option linter.unusedSimpArgs false

set_option maxRecDepth 100000 in
set_option maxHeartbeats 1500000 in
theorem rdate_y1 (s : ByteArray) (at_ : Nat) (w : World) (hs : s.size ≤ 65536) (ha : at_ + 10 ≤ s.size) (hf : fits form ((lst s).drop at_) = true) (t4 t2 t8 t10 : L) (Y M D : Int)
    (e4 : ((lst s).take (at_ + 4)).drop at_ = t4) (e2 : ((lst s).take (at_ + 7)).drop (at_ + 5) = t2) (e8 : ((lst s).take (at_ + 10)).drop (at_ + 8) = t8) (e10 : ((lst s).take (at_ + 10)).drop at_ = t10)
    (n4 : ∀ W, Calls Tryd.prog 31 #[.string (bs t4)] W fun e w' => e = .returned (.int .i64 Y) ∧ w' = W)
    (n2 : ∀ W, Calls Tryd.prog 31 #[.string (bs t2)] W fun e w' => e = .returned (.int .i64 M) ∧ w' = W)
    (n8 : ∀ W, Calls Tryd.prog 31 #[.string (bs t8)] W fun e w' => e = .returned (.int .i64 D) ∧ w' = W)
    (hY : 0 ≤ Y ∧ Y ≤ 9999) (c0 : ¬ Y < 1900) (c1 : 2199 < Y) :
    Calls Tryd.prog 20 #[.string s, .int .i64 (at_ : Int)] w fun e w' => e = trEnd (tokR0, (at_ : Int), 62) ∧ Below w.heap.size w w' := by
  have KD := Lib.hid (fun W => rdated_any s at_ W hs (by omega))
  rw [hf] at KD
  have s0 := cutMidR s (at_ : Int) ((at_ : Int) + 10) (by omega) (by omega) (by omega)
  have s1 := cutMidR s (at_ : Int) ((at_ : Int) + 4) (by omega) (by omega) (by omega)
  have s2 := cutMidR s ((at_ : Int) + 5) ((at_ : Int) + 7) (by omega) (by omega) (by omega)
  have s3 := cutMidR s ((at_ : Int) + 8) ((at_ : Int) + 10) (by omega) (by omega) (by omega)
  rw [Int.toNat_natCast, show ((at_ : Int) + 10).toNat = at_ + 10 by omega, e10] at s0
  rw [Int.toNat_natCast, show ((at_ : Int) + 4).toNat = at_ + 4 by omega, e4] at s1
  rw [show ((at_ : Int) + 5).toNat = at_ + 5 by omega, show ((at_ : Int) + 7).toNat = at_ + 7 by omega, e2] at s2
  rw [show ((at_ : Int) + 8).toNat = at_ + 8 by omega, show ((at_ : Int) + 10).toNat = at_ + 10 by omega, e8] at s3
  have wr4 : IntKind.i64.wrap ((at_ : Int) + 4) = (at_ : Int) + 4 := by simp [IntKind.wrap, IntKind.bits, IntKind.signed]; omega
  have wr5 : IntKind.i64.wrap ((at_ : Int) + 5) = (at_ : Int) + 5 := by simp [IntKind.wrap, IntKind.bits, IntKind.signed]; omega
  have wr7 : IntKind.i64.wrap ((at_ : Int) + 7) = (at_ : Int) + 7 := by simp [IntKind.wrap, IntKind.bits, IntKind.signed]; omega
  have wr8 : IntKind.i64.wrap ((at_ : Int) + 8) = (at_ : Int) + 8 := by simp [IntKind.wrap, IntKind.bits, IntKind.signed]; omega
  have wr10 : IntKind.i64.wrap ((at_ : Int) + 10) = (at_ : Int) + 10 := by simp [IntKind.wrap, IntKind.bits, IntKind.signed]; omega
  have DA := Lib.hid n4
  have DB := Lib.hid n2
  have DC := Lib.hid n8
  have KL := Lib.hid (fun W => rlength_any Y M W (by omega))
  clear n4 n2 n8 e4 e2 e8 e10 hf
  have HT := Lib.hid (p := bs t10 = bs t10) rfl
  generalize bs t4 = b4 at *
  generalize bs t2 = b2 at *
  generalize bs t8 = b8 at *
  obtain ⟨bt, hbt⟩ : ∃ bt, bs t10 = bt := ⟨_, rfl⟩
  rw [hbt] at s0
  have HT := Lib.hid hbt
  clear hbt
  obtain ⟨w2, hw2⟩ : ∃ w2, (w.alloc (.cells #[.int .i64 0, .string ⟨#[]⟩, .int .i64 0, .int .i64 0, .int .i64 0, .int .i64 0, .int .i64 0, .int .i64 0, .int .i64 0] 32)).alloc (.cells #[.int .i64 4, .string bt, .int .i64 (at_ : Int), .int .i64 0, .int .i64 0, .int .i64 0, .int .i64 0, .int .i64 0, .int .i64 0] 32) = w2 := ⟨_, rfl⟩
  have RZ := Lib.hid (p := RB w2 w.heap.size (.int .i64 0) (.string ⟨#[]⟩) (.int .i64 0) (.int .i64 0) (.int .i64 0) (.int .i64 0) (.int .i64 0) (.int .i64 0) (.int .i64 0)) ⟨by rw [← hw2]; exact (Below.heap_alloc _ _ _ (by simp)).trans (World.alloc_heap_new w _)⟩
  have RT := Lib.hid (p := RB w2 (w.heap.size + 1) (.int .i64 4) (.string bt) (.int .i64 (at_ : Int)) (.int .i64 0) (.int .i64 0) (.int .i64 0) (.int .i64 0) (.int .i64 0) (.int .i64 0)) ⟨by rw [← hw2]; have := World.alloc_heap_new (w.alloc (.cells #[.int .i64 0, .string ⟨#[]⟩, .int .i64 0, .int .i64 0, .int .i64 0, .int .i64 0, .int .i64 0, .int .i64 0, .int .i64 0] 32)) (.cells #[.int .i64 4, .string bt, .int .i64 (at_ : Int), .int .i64 0, .int .i64 0, .int .i64 0, .int .i64 0, .int .i64 0, .int .i64 0] 32); rwa [World.size_alloc] at this⟩
  have B2 := Lib.hid (p := Below w.heap.size w w2) (by rw [← hw2]; exact ((Below.refl _ _).alloc (Nat.le_refl _) _).alloc (by simp) _)
  obtain ⟨x0, x1, x2, x3, x4, x5, x6, x7, x8, xf⟩ := RT.out.c
  obtain ⟨y0, y1, y2, y3, y4, y5, y6, y7, y8, yf⟩ := RZ.out.c
  have HW := Lib.hid hw2
  clear hw2
  obtain ⟨w3, hw3⟩ : ∃ w3, ((w2.setCell ⟨w.heap.size + 1, 4, none⟩ (.int .i64 Y)).setCell ⟨w.heap.size + 1, 5, none⟩ (.int .i64 M)).setCell ⟨w.heap.size + 1, 6, none⟩ (.int .i64 D) = w3 := ⟨_, rfl⟩
  have RZ3 := Lib.hid (p := RB w3 w.heap.size (.int .i64 0) (.string ⟨#[]⟩) (.int .i64 0) (.int .i64 0) (.int .i64 0) (.int .i64 0) (.int .i64 0) (.int .i64 0) (.int .i64 0)) (by rw [← hw3]; exact ((RZ.out.other (g' := w.heap.size + 1) (i := 4) (by omega) _).other (g' := w.heap.size + 1) (i := 5) (by omega) _).other (g' := w.heap.size + 1) (i := 6) (by omega) _)
  have RT3 := Lib.hid (p := RB w3 (w.heap.size + 1) (.int .i64 4) (.string bt) (.int .i64 (at_ : Int)) (.int .i64 0) (.int .i64 Y) (.int .i64 M) (.int .i64 D) (.int .i64 0) (.int .i64 0)) ⟨by rw [← hw3]; exact Joins.block_setCell (i := 6) (Joins.block_setCell (i := 5) (Joins.block_setCell (i := 4) RT.out.hb _) _) _⟩
  have B3 := Lib.hid (p := Below w.heap.size w w3) (by rw [← hw3]; exact ((B2.out.setCell (p := ⟨w.heap.size + 1, 4, none⟩) (Nat.le_succ _) _).setCell (p := ⟨w.heap.size + 1, 5, none⟩) (Nat.le_succ _) _).setCell (p := ⟨w.heap.size + 1, 6, none⟩) (Nat.le_succ _) _)
  have HW3 := Lib.hid hw3
  clear hw3
  have q0 : decide (Y < 1900) = false := decide_eq_false c0
  have q1 : decide (2199 < Y) = true := decide_eq_true c1
  go_enter Tryd.func20, Tryd.ntmps20
  go_wp2_with (go_at_call 30; refine (KD.out _).mono ?_; rintro e w' ⟨rfl, hw⟩; have hw' := hw.symm; clear hw; subst hw')
  rw [HW.out]
  go_region_held3 (fun _ => True) (exact trivial)
    (first
    | (go_at_call 31; (first
      | (have qq := Q2; refine (DC.out _).mono ?_; rintro e w' ⟨rfl, rfl⟩; have Q3 := Lib.hid (p := (1 : Nat) = 1) rfl)
      | (have qq := Q1; refine (DB.out _).mono ?_; rintro e w' ⟨rfl, rfl⟩; have Q2 := Lib.hid (p := (1 : Nat) = 1) rfl)
      | (refine (DA.out _).mono ?_; rintro e w' ⟨rfl, rfl⟩; have Q1 := Lib.hid (p := (1 : Nat) = 1) rfl))))
  all_goals
    go_wp2
    rw [HW3.out]
    clear x0 x1 x2 x3 x4 x5 x6 x7 x8 xf y0 y1 y2 y3 y4 y5 y6 y7 y8 yf
    obtain ⟨x0, x1, x2, x3, x4, x5, x6, x7, x8, xf⟩ := RT3.out.c
    obtain ⟨y0, y1, y2, y3, y4, y5, y6, y7, y8, yf⟩ := RZ3.out.c
    go_quiet ((go_at_call 32; exact Calls.quiet_of_same (KL.out _)))
    obtain ⟨w4, hw4⟩ : ∃ w4, w3.drew.drewN nq = w4 := ⟨_, rfl⟩
    have R0 := Lib.hid (p := RB w4 w.heap.size (.int .i64 0) (.string ⟨#[]⟩) (.int .i64 0) (.int .i64 0) (.int .i64 0) (.int .i64 0) (.int .i64 0) (.int .i64 0) (.int .i64 0)) (by rw [← hw4]; exact ⟨RZ3.out.hb⟩)
    have R1 := Lib.hid (p := RB w4 (w.heap.size + 1) (.int .i64 4) (.string bt) (.int .i64 (at_ : Int)) (.int .i64 0) (.int .i64 Y) (.int .i64 M) (.int .i64 D) (.int .i64 0) (.int .i64 0)) (by rw [← hw4]; exact ⟨RT3.out.hb⟩)
    have B4 := Lib.hid (p := Below w.heap.size w w4) (by rw [← hw4]; exact below_dn B3.out.drew _)
    have FIN := Lib.hid (R0.out.set9 (.int .i64 0) (.string ⟨#[]⟩) (.int .i64 0) (.int .i64 0) (.int .i64 0) (.int .i64 0) (.int .i64 0) (.int .i64 0) (.int .i64 0))
    rw [hw4]
    clear x0 x1 x2 x3 x4 x5 x6 x7 x8 xf y0 y1 y2 y3 y4 y5 y6 y7 y8 yf hw4
    obtain ⟨x0, x1, x2, x3, x4, x5, x6, x7, x8, xf⟩ := R1.out.c
    obtain ⟨y0, y1, y2, y3, y4, y5, y6, y7, y8, yf⟩ := R0.out.c
    obtain ⟨r0, r1, r2, r3, r4, r5, r6, r7, r8, rf⟩ := FIN.out.c
    go_wp2
    exact bodyPost_ret (v := .tuple #[tokR tokR0, .int .i64 (at_ : Int), .int .i64 62]) (by simp [results, Tryd.results20, go_sem, tokR, tokR0, bs, r0, r1, r2, r3, r4, r5, r6, r7, r8]) rfl ⟨rfl, belowR9 B4.out (Nat.le_refl _) _ _ _ _ _ _ _ _ _⟩
set_option maxRecDepth 100000 in
set_option maxHeartbeats 1500000 in
theorem rdate_m0 (s : ByteArray) (at_ : Nat) (w : World) (hs : s.size ≤ 65536) (ha : at_ + 10 ≤ s.size) (hf : fits form ((lst s).drop at_) = true) (t4 t2 t8 t10 : L) (Y M D : Int)
    (e4 : ((lst s).take (at_ + 4)).drop at_ = t4) (e2 : ((lst s).take (at_ + 7)).drop (at_ + 5) = t2) (e8 : ((lst s).take (at_ + 10)).drop (at_ + 8) = t8) (e10 : ((lst s).take (at_ + 10)).drop at_ = t10)
    (n4 : ∀ W, Calls Tryd.prog 31 #[.string (bs t4)] W fun e w' => e = .returned (.int .i64 Y) ∧ w' = W)
    (n2 : ∀ W, Calls Tryd.prog 31 #[.string (bs t2)] W fun e w' => e = .returned (.int .i64 M) ∧ w' = W)
    (n8 : ∀ W, Calls Tryd.prog 31 #[.string (bs t8)] W fun e w' => e = .returned (.int .i64 D) ∧ w' = W)
    (hY : 0 ≤ Y ∧ Y ≤ 9999) (c0 : ¬ Y < 1900) (c1 : ¬ 2199 < Y) (c2 : M < 1) :
    Calls Tryd.prog 20 #[.string s, .int .i64 (at_ : Int)] w fun e w' => e = trEnd (tokR0, (at_ : Int), 62) ∧ Below w.heap.size w w' := by
  have KD := Lib.hid (fun W => rdated_any s at_ W hs (by omega))
  rw [hf] at KD
  have s0 := cutMidR s (at_ : Int) ((at_ : Int) + 10) (by omega) (by omega) (by omega)
  have s1 := cutMidR s (at_ : Int) ((at_ : Int) + 4) (by omega) (by omega) (by omega)
  have s2 := cutMidR s ((at_ : Int) + 5) ((at_ : Int) + 7) (by omega) (by omega) (by omega)
  have s3 := cutMidR s ((at_ : Int) + 8) ((at_ : Int) + 10) (by omega) (by omega) (by omega)
  rw [Int.toNat_natCast, show ((at_ : Int) + 10).toNat = at_ + 10 by omega, e10] at s0
  rw [Int.toNat_natCast, show ((at_ : Int) + 4).toNat = at_ + 4 by omega, e4] at s1
  rw [show ((at_ : Int) + 5).toNat = at_ + 5 by omega, show ((at_ : Int) + 7).toNat = at_ + 7 by omega, e2] at s2
  rw [show ((at_ : Int) + 8).toNat = at_ + 8 by omega, show ((at_ : Int) + 10).toNat = at_ + 10 by omega, e8] at s3
  have wr4 : IntKind.i64.wrap ((at_ : Int) + 4) = (at_ : Int) + 4 := by simp [IntKind.wrap, IntKind.bits, IntKind.signed]; omega
  have wr5 : IntKind.i64.wrap ((at_ : Int) + 5) = (at_ : Int) + 5 := by simp [IntKind.wrap, IntKind.bits, IntKind.signed]; omega
  have wr7 : IntKind.i64.wrap ((at_ : Int) + 7) = (at_ : Int) + 7 := by simp [IntKind.wrap, IntKind.bits, IntKind.signed]; omega
  have wr8 : IntKind.i64.wrap ((at_ : Int) + 8) = (at_ : Int) + 8 := by simp [IntKind.wrap, IntKind.bits, IntKind.signed]; omega
  have wr10 : IntKind.i64.wrap ((at_ : Int) + 10) = (at_ : Int) + 10 := by simp [IntKind.wrap, IntKind.bits, IntKind.signed]; omega
  have DA := Lib.hid n4
  have DB := Lib.hid n2
  have DC := Lib.hid n8
  have KL := Lib.hid (fun W => rlength_any Y M W (by omega))
  clear n4 n2 n8 e4 e2 e8 e10 hf
  have HT := Lib.hid (p := bs t10 = bs t10) rfl
  generalize bs t4 = b4 at *
  generalize bs t2 = b2 at *
  generalize bs t8 = b8 at *
  obtain ⟨bt, hbt⟩ : ∃ bt, bs t10 = bt := ⟨_, rfl⟩
  rw [hbt] at s0
  have HT := Lib.hid hbt
  clear hbt
  obtain ⟨w2, hw2⟩ : ∃ w2, (w.alloc (.cells #[.int .i64 0, .string ⟨#[]⟩, .int .i64 0, .int .i64 0, .int .i64 0, .int .i64 0, .int .i64 0, .int .i64 0, .int .i64 0] 32)).alloc (.cells #[.int .i64 4, .string bt, .int .i64 (at_ : Int), .int .i64 0, .int .i64 0, .int .i64 0, .int .i64 0, .int .i64 0, .int .i64 0] 32) = w2 := ⟨_, rfl⟩
  have RZ := Lib.hid (p := RB w2 w.heap.size (.int .i64 0) (.string ⟨#[]⟩) (.int .i64 0) (.int .i64 0) (.int .i64 0) (.int .i64 0) (.int .i64 0) (.int .i64 0) (.int .i64 0)) ⟨by rw [← hw2]; exact (Below.heap_alloc _ _ _ (by simp)).trans (World.alloc_heap_new w _)⟩
  have RT := Lib.hid (p := RB w2 (w.heap.size + 1) (.int .i64 4) (.string bt) (.int .i64 (at_ : Int)) (.int .i64 0) (.int .i64 0) (.int .i64 0) (.int .i64 0) (.int .i64 0) (.int .i64 0)) ⟨by rw [← hw2]; have := World.alloc_heap_new (w.alloc (.cells #[.int .i64 0, .string ⟨#[]⟩, .int .i64 0, .int .i64 0, .int .i64 0, .int .i64 0, .int .i64 0, .int .i64 0, .int .i64 0] 32)) (.cells #[.int .i64 4, .string bt, .int .i64 (at_ : Int), .int .i64 0, .int .i64 0, .int .i64 0, .int .i64 0, .int .i64 0, .int .i64 0] 32); rwa [World.size_alloc] at this⟩
  have B2 := Lib.hid (p := Below w.heap.size w w2) (by rw [← hw2]; exact ((Below.refl _ _).alloc (Nat.le_refl _) _).alloc (by simp) _)
  obtain ⟨x0, x1, x2, x3, x4, x5, x6, x7, x8, xf⟩ := RT.out.c
  obtain ⟨y0, y1, y2, y3, y4, y5, y6, y7, y8, yf⟩ := RZ.out.c
  have HW := Lib.hid hw2
  clear hw2
  obtain ⟨w3, hw3⟩ : ∃ w3, ((w2.setCell ⟨w.heap.size + 1, 4, none⟩ (.int .i64 Y)).setCell ⟨w.heap.size + 1, 5, none⟩ (.int .i64 M)).setCell ⟨w.heap.size + 1, 6, none⟩ (.int .i64 D) = w3 := ⟨_, rfl⟩
  have RZ3 := Lib.hid (p := RB w3 w.heap.size (.int .i64 0) (.string ⟨#[]⟩) (.int .i64 0) (.int .i64 0) (.int .i64 0) (.int .i64 0) (.int .i64 0) (.int .i64 0) (.int .i64 0)) (by rw [← hw3]; exact ((RZ.out.other (g' := w.heap.size + 1) (i := 4) (by omega) _).other (g' := w.heap.size + 1) (i := 5) (by omega) _).other (g' := w.heap.size + 1) (i := 6) (by omega) _)
  have RT3 := Lib.hid (p := RB w3 (w.heap.size + 1) (.int .i64 4) (.string bt) (.int .i64 (at_ : Int)) (.int .i64 0) (.int .i64 Y) (.int .i64 M) (.int .i64 D) (.int .i64 0) (.int .i64 0)) ⟨by rw [← hw3]; exact Joins.block_setCell (i := 6) (Joins.block_setCell (i := 5) (Joins.block_setCell (i := 4) RT.out.hb _) _) _⟩
  have B3 := Lib.hid (p := Below w.heap.size w w3) (by rw [← hw3]; exact ((B2.out.setCell (p := ⟨w.heap.size + 1, 4, none⟩) (Nat.le_succ _) _).setCell (p := ⟨w.heap.size + 1, 5, none⟩) (Nat.le_succ _) _).setCell (p := ⟨w.heap.size + 1, 6, none⟩) (Nat.le_succ _) _)
  have HW3 := Lib.hid hw3
  clear hw3
  have q0 : decide (Y < 1900) = false := decide_eq_false c0
  have q1 : decide (2199 < Y) = false := decide_eq_false c1
  have q2 : decide (M < 1) = true := decide_eq_true c2
  go_enter Tryd.func20, Tryd.ntmps20
  go_wp2_with (go_at_call 30; refine (KD.out _).mono ?_; rintro e w' ⟨rfl, hw⟩; have hw' := hw.symm; clear hw; subst hw')
  rw [HW.out]
  go_region_held3 (fun _ => True) (exact trivial)
    (first
    | (go_at_call 31; (first
      | (have qq := Q2; refine (DC.out _).mono ?_; rintro e w' ⟨rfl, rfl⟩; have Q3 := Lib.hid (p := (1 : Nat) = 1) rfl)
      | (have qq := Q1; refine (DB.out _).mono ?_; rintro e w' ⟨rfl, rfl⟩; have Q2 := Lib.hid (p := (1 : Nat) = 1) rfl)
      | (refine (DA.out _).mono ?_; rintro e w' ⟨rfl, rfl⟩; have Q1 := Lib.hid (p := (1 : Nat) = 1) rfl))))
  all_goals
    go_wp2
    rw [HW3.out]
    clear x0 x1 x2 x3 x4 x5 x6 x7 x8 xf y0 y1 y2 y3 y4 y5 y6 y7 y8 yf
    obtain ⟨x0, x1, x2, x3, x4, x5, x6, x7, x8, xf⟩ := RT3.out.c
    obtain ⟨y0, y1, y2, y3, y4, y5, y6, y7, y8, yf⟩ := RZ3.out.c
    go_quiet ((go_at_call 32; exact Calls.quiet_of_same (KL.out _)))
    obtain ⟨w4, hw4⟩ : ∃ w4, w3.drew.drewN nq = w4 := ⟨_, rfl⟩
    have R0 := Lib.hid (p := RB w4 w.heap.size (.int .i64 0) (.string ⟨#[]⟩) (.int .i64 0) (.int .i64 0) (.int .i64 0) (.int .i64 0) (.int .i64 0) (.int .i64 0) (.int .i64 0)) (by rw [← hw4]; exact ⟨RZ3.out.hb⟩)
    have R1 := Lib.hid (p := RB w4 (w.heap.size + 1) (.int .i64 4) (.string bt) (.int .i64 (at_ : Int)) (.int .i64 0) (.int .i64 Y) (.int .i64 M) (.int .i64 D) (.int .i64 0) (.int .i64 0)) (by rw [← hw4]; exact ⟨RT3.out.hb⟩)
    have B4 := Lib.hid (p := Below w.heap.size w w4) (by rw [← hw4]; exact below_dn B3.out.drew _)
    have FIN := Lib.hid (R0.out.set9 (.int .i64 0) (.string ⟨#[]⟩) (.int .i64 0) (.int .i64 0) (.int .i64 0) (.int .i64 0) (.int .i64 0) (.int .i64 0) (.int .i64 0))
    rw [hw4]
    clear x0 x1 x2 x3 x4 x5 x6 x7 x8 xf y0 y1 y2 y3 y4 y5 y6 y7 y8 yf hw4
    obtain ⟨x0, x1, x2, x3, x4, x5, x6, x7, x8, xf⟩ := R1.out.c
    obtain ⟨y0, y1, y2, y3, y4, y5, y6, y7, y8, yf⟩ := R0.out.c
    obtain ⟨r0, r1, r2, r3, r4, r5, r6, r7, r8, rf⟩ := FIN.out.c
    go_wp2
    exact bodyPost_ret (v := .tuple #[tokR tokR0, .int .i64 (at_ : Int), .int .i64 62]) (by simp [results, Tryd.results20, go_sem, tokR, tokR0, bs, r0, r1, r2, r3, r4, r5, r6, r7, r8]) rfl ⟨rfl, belowR9 B4.out (Nat.le_refl _) _ _ _ _ _ _ _ _ _⟩
set_option maxRecDepth 100000 in
set_option maxHeartbeats 1500000 in
theorem rdate_m1 (s : ByteArray) (at_ : Nat) (w : World) (hs : s.size ≤ 65536) (ha : at_ + 10 ≤ s.size) (hf : fits form ((lst s).drop at_) = true) (t4 t2 t8 t10 : L) (Y M D : Int)
    (e4 : ((lst s).take (at_ + 4)).drop at_ = t4) (e2 : ((lst s).take (at_ + 7)).drop (at_ + 5) = t2) (e8 : ((lst s).take (at_ + 10)).drop (at_ + 8) = t8) (e10 : ((lst s).take (at_ + 10)).drop at_ = t10)
    (n4 : ∀ W, Calls Tryd.prog 31 #[.string (bs t4)] W fun e w' => e = .returned (.int .i64 Y) ∧ w' = W)
    (n2 : ∀ W, Calls Tryd.prog 31 #[.string (bs t2)] W fun e w' => e = .returned (.int .i64 M) ∧ w' = W)
    (n8 : ∀ W, Calls Tryd.prog 31 #[.string (bs t8)] W fun e w' => e = .returned (.int .i64 D) ∧ w' = W)
    (hY : 0 ≤ Y ∧ Y ≤ 9999) (c0 : ¬ Y < 1900) (c1 : ¬ 2199 < Y) (c2 : ¬ M < 1) (c3 : 12 < M) :
    Calls Tryd.prog 20 #[.string s, .int .i64 (at_ : Int)] w fun e w' => e = trEnd (tokR0, (at_ : Int), 62) ∧ Below w.heap.size w w' := by
  have KD := Lib.hid (fun W => rdated_any s at_ W hs (by omega))
  rw [hf] at KD
  have s0 := cutMidR s (at_ : Int) ((at_ : Int) + 10) (by omega) (by omega) (by omega)
  have s1 := cutMidR s (at_ : Int) ((at_ : Int) + 4) (by omega) (by omega) (by omega)
  have s2 := cutMidR s ((at_ : Int) + 5) ((at_ : Int) + 7) (by omega) (by omega) (by omega)
  have s3 := cutMidR s ((at_ : Int) + 8) ((at_ : Int) + 10) (by omega) (by omega) (by omega)
  rw [Int.toNat_natCast, show ((at_ : Int) + 10).toNat = at_ + 10 by omega, e10] at s0
  rw [Int.toNat_natCast, show ((at_ : Int) + 4).toNat = at_ + 4 by omega, e4] at s1
  rw [show ((at_ : Int) + 5).toNat = at_ + 5 by omega, show ((at_ : Int) + 7).toNat = at_ + 7 by omega, e2] at s2
  rw [show ((at_ : Int) + 8).toNat = at_ + 8 by omega, show ((at_ : Int) + 10).toNat = at_ + 10 by omega, e8] at s3
  have wr4 : IntKind.i64.wrap ((at_ : Int) + 4) = (at_ : Int) + 4 := by simp [IntKind.wrap, IntKind.bits, IntKind.signed]; omega
  have wr5 : IntKind.i64.wrap ((at_ : Int) + 5) = (at_ : Int) + 5 := by simp [IntKind.wrap, IntKind.bits, IntKind.signed]; omega
  have wr7 : IntKind.i64.wrap ((at_ : Int) + 7) = (at_ : Int) + 7 := by simp [IntKind.wrap, IntKind.bits, IntKind.signed]; omega
  have wr8 : IntKind.i64.wrap ((at_ : Int) + 8) = (at_ : Int) + 8 := by simp [IntKind.wrap, IntKind.bits, IntKind.signed]; omega
  have wr10 : IntKind.i64.wrap ((at_ : Int) + 10) = (at_ : Int) + 10 := by simp [IntKind.wrap, IntKind.bits, IntKind.signed]; omega
  have DA := Lib.hid n4
  have DB := Lib.hid n2
  have DC := Lib.hid n8
  have KL := Lib.hid (fun W => rlength_any Y M W (by omega))
  clear n4 n2 n8 e4 e2 e8 e10 hf
  have HT := Lib.hid (p := bs t10 = bs t10) rfl
  generalize bs t4 = b4 at *
  generalize bs t2 = b2 at *
  generalize bs t8 = b8 at *
  obtain ⟨bt, hbt⟩ : ∃ bt, bs t10 = bt := ⟨_, rfl⟩
  rw [hbt] at s0
  have HT := Lib.hid hbt
  clear hbt
  obtain ⟨w2, hw2⟩ : ∃ w2, (w.alloc (.cells #[.int .i64 0, .string ⟨#[]⟩, .int .i64 0, .int .i64 0, .int .i64 0, .int .i64 0, .int .i64 0, .int .i64 0, .int .i64 0] 32)).alloc (.cells #[.int .i64 4, .string bt, .int .i64 (at_ : Int), .int .i64 0, .int .i64 0, .int .i64 0, .int .i64 0, .int .i64 0, .int .i64 0] 32) = w2 := ⟨_, rfl⟩
  have RZ := Lib.hid (p := RB w2 w.heap.size (.int .i64 0) (.string ⟨#[]⟩) (.int .i64 0) (.int .i64 0) (.int .i64 0) (.int .i64 0) (.int .i64 0) (.int .i64 0) (.int .i64 0)) ⟨by rw [← hw2]; exact (Below.heap_alloc _ _ _ (by simp)).trans (World.alloc_heap_new w _)⟩
  have RT := Lib.hid (p := RB w2 (w.heap.size + 1) (.int .i64 4) (.string bt) (.int .i64 (at_ : Int)) (.int .i64 0) (.int .i64 0) (.int .i64 0) (.int .i64 0) (.int .i64 0) (.int .i64 0)) ⟨by rw [← hw2]; have := World.alloc_heap_new (w.alloc (.cells #[.int .i64 0, .string ⟨#[]⟩, .int .i64 0, .int .i64 0, .int .i64 0, .int .i64 0, .int .i64 0, .int .i64 0, .int .i64 0] 32)) (.cells #[.int .i64 4, .string bt, .int .i64 (at_ : Int), .int .i64 0, .int .i64 0, .int .i64 0, .int .i64 0, .int .i64 0, .int .i64 0] 32); rwa [World.size_alloc] at this⟩
  have B2 := Lib.hid (p := Below w.heap.size w w2) (by rw [← hw2]; exact ((Below.refl _ _).alloc (Nat.le_refl _) _).alloc (by simp) _)
  obtain ⟨x0, x1, x2, x3, x4, x5, x6, x7, x8, xf⟩ := RT.out.c
  obtain ⟨y0, y1, y2, y3, y4, y5, y6, y7, y8, yf⟩ := RZ.out.c
  have HW := Lib.hid hw2
  clear hw2
  obtain ⟨w3, hw3⟩ : ∃ w3, ((w2.setCell ⟨w.heap.size + 1, 4, none⟩ (.int .i64 Y)).setCell ⟨w.heap.size + 1, 5, none⟩ (.int .i64 M)).setCell ⟨w.heap.size + 1, 6, none⟩ (.int .i64 D) = w3 := ⟨_, rfl⟩
  have RZ3 := Lib.hid (p := RB w3 w.heap.size (.int .i64 0) (.string ⟨#[]⟩) (.int .i64 0) (.int .i64 0) (.int .i64 0) (.int .i64 0) (.int .i64 0) (.int .i64 0) (.int .i64 0)) (by rw [← hw3]; exact ((RZ.out.other (g' := w.heap.size + 1) (i := 4) (by omega) _).other (g' := w.heap.size + 1) (i := 5) (by omega) _).other (g' := w.heap.size + 1) (i := 6) (by omega) _)
  have RT3 := Lib.hid (p := RB w3 (w.heap.size + 1) (.int .i64 4) (.string bt) (.int .i64 (at_ : Int)) (.int .i64 0) (.int .i64 Y) (.int .i64 M) (.int .i64 D) (.int .i64 0) (.int .i64 0)) ⟨by rw [← hw3]; exact Joins.block_setCell (i := 6) (Joins.block_setCell (i := 5) (Joins.block_setCell (i := 4) RT.out.hb _) _) _⟩
  have B3 := Lib.hid (p := Below w.heap.size w w3) (by rw [← hw3]; exact ((B2.out.setCell (p := ⟨w.heap.size + 1, 4, none⟩) (Nat.le_succ _) _).setCell (p := ⟨w.heap.size + 1, 5, none⟩) (Nat.le_succ _) _).setCell (p := ⟨w.heap.size + 1, 6, none⟩) (Nat.le_succ _) _)
  have HW3 := Lib.hid hw3
  clear hw3
  have q0 : decide (Y < 1900) = false := decide_eq_false c0
  have q1 : decide (2199 < Y) = false := decide_eq_false c1
  have q2 : decide (M < 1) = false := decide_eq_false c2
  have q3 : decide (12 < M) = true := decide_eq_true c3
  go_enter Tryd.func20, Tryd.ntmps20
  go_wp2_with (go_at_call 30; refine (KD.out _).mono ?_; rintro e w' ⟨rfl, hw⟩; have hw' := hw.symm; clear hw; subst hw')
  rw [HW.out]
  go_region_held3 (fun _ => True) (exact trivial)
    (first
    | (go_at_call 31; (first
      | (have qq := Q2; refine (DC.out _).mono ?_; rintro e w' ⟨rfl, rfl⟩; have Q3 := Lib.hid (p := (1 : Nat) = 1) rfl)
      | (have qq := Q1; refine (DB.out _).mono ?_; rintro e w' ⟨rfl, rfl⟩; have Q2 := Lib.hid (p := (1 : Nat) = 1) rfl)
      | (refine (DA.out _).mono ?_; rintro e w' ⟨rfl, rfl⟩; have Q1 := Lib.hid (p := (1 : Nat) = 1) rfl))))
  all_goals
    go_wp2
    rw [HW3.out]
    clear x0 x1 x2 x3 x4 x5 x6 x7 x8 xf y0 y1 y2 y3 y4 y5 y6 y7 y8 yf
    obtain ⟨x0, x1, x2, x3, x4, x5, x6, x7, x8, xf⟩ := RT3.out.c
    obtain ⟨y0, y1, y2, y3, y4, y5, y6, y7, y8, yf⟩ := RZ3.out.c
    go_quiet ((go_at_call 32; exact Calls.quiet_of_same (KL.out _)))
    obtain ⟨w4, hw4⟩ : ∃ w4, w3.drew.drewN nq = w4 := ⟨_, rfl⟩
    have R0 := Lib.hid (p := RB w4 w.heap.size (.int .i64 0) (.string ⟨#[]⟩) (.int .i64 0) (.int .i64 0) (.int .i64 0) (.int .i64 0) (.int .i64 0) (.int .i64 0) (.int .i64 0)) (by rw [← hw4]; exact ⟨RZ3.out.hb⟩)
    have R1 := Lib.hid (p := RB w4 (w.heap.size + 1) (.int .i64 4) (.string bt) (.int .i64 (at_ : Int)) (.int .i64 0) (.int .i64 Y) (.int .i64 M) (.int .i64 D) (.int .i64 0) (.int .i64 0)) (by rw [← hw4]; exact ⟨RT3.out.hb⟩)
    have B4 := Lib.hid (p := Below w.heap.size w w4) (by rw [← hw4]; exact below_dn B3.out.drew _)
    have FIN := Lib.hid (R0.out.set9 (.int .i64 0) (.string ⟨#[]⟩) (.int .i64 0) (.int .i64 0) (.int .i64 0) (.int .i64 0) (.int .i64 0) (.int .i64 0) (.int .i64 0))
    rw [hw4]
    clear x0 x1 x2 x3 x4 x5 x6 x7 x8 xf y0 y1 y2 y3 y4 y5 y6 y7 y8 yf hw4
    obtain ⟨x0, x1, x2, x3, x4, x5, x6, x7, x8, xf⟩ := R1.out.c
    obtain ⟨y0, y1, y2, y3, y4, y5, y6, y7, y8, yf⟩ := R0.out.c
    obtain ⟨r0, r1, r2, r3, r4, r5, r6, r7, r8, rf⟩ := FIN.out.c
    go_wp2
    exact bodyPost_ret (v := .tuple #[tokR tokR0, .int .i64 (at_ : Int), .int .i64 62]) (by simp [results, Tryd.results20, go_sem, tokR, tokR0, bs, r0, r1, r2, r3, r4, r5, r6, r7, r8]) rfl ⟨rfl, belowR9 B4.out (Nat.le_refl _) _ _ _ _ _ _ _ _ _⟩
set_option maxRecDepth 100000 in
set_option maxHeartbeats 1500000 in
theorem rdate_d0 (s : ByteArray) (at_ : Nat) (w : World) (hs : s.size ≤ 65536) (ha : at_ + 10 ≤ s.size) (hf : fits form ((lst s).drop at_) = true) (t4 t2 t8 t10 : L) (Y M D : Int)
    (e4 : ((lst s).take (at_ + 4)).drop at_ = t4) (e2 : ((lst s).take (at_ + 7)).drop (at_ + 5) = t2) (e8 : ((lst s).take (at_ + 10)).drop (at_ + 8) = t8) (e10 : ((lst s).take (at_ + 10)).drop at_ = t10)
    (n4 : ∀ W, Calls Tryd.prog 31 #[.string (bs t4)] W fun e w' => e = .returned (.int .i64 Y) ∧ w' = W)
    (n2 : ∀ W, Calls Tryd.prog 31 #[.string (bs t2)] W fun e w' => e = .returned (.int .i64 M) ∧ w' = W)
    (n8 : ∀ W, Calls Tryd.prog 31 #[.string (bs t8)] W fun e w' => e = .returned (.int .i64 D) ∧ w' = W)
    (hY : 0 ≤ Y ∧ Y ≤ 9999) (c0 : ¬ Y < 1900) (c1 : ¬ 2199 < Y) (c2 : ¬ M < 1) (c3 : ¬ 12 < M) (c4 : D < 1) :
    Calls Tryd.prog 20 #[.string s, .int .i64 (at_ : Int)] w fun e w' => e = trEnd (tokR0, (at_ : Int), 62) ∧ Below w.heap.size w w' := by
  have KD := Lib.hid (fun W => rdated_any s at_ W hs (by omega))
  rw [hf] at KD
  have s0 := cutMidR s (at_ : Int) ((at_ : Int) + 10) (by omega) (by omega) (by omega)
  have s1 := cutMidR s (at_ : Int) ((at_ : Int) + 4) (by omega) (by omega) (by omega)
  have s2 := cutMidR s ((at_ : Int) + 5) ((at_ : Int) + 7) (by omega) (by omega) (by omega)
  have s3 := cutMidR s ((at_ : Int) + 8) ((at_ : Int) + 10) (by omega) (by omega) (by omega)
  rw [Int.toNat_natCast, show ((at_ : Int) + 10).toNat = at_ + 10 by omega, e10] at s0
  rw [Int.toNat_natCast, show ((at_ : Int) + 4).toNat = at_ + 4 by omega, e4] at s1
  rw [show ((at_ : Int) + 5).toNat = at_ + 5 by omega, show ((at_ : Int) + 7).toNat = at_ + 7 by omega, e2] at s2
  rw [show ((at_ : Int) + 8).toNat = at_ + 8 by omega, show ((at_ : Int) + 10).toNat = at_ + 10 by omega, e8] at s3
  have wr4 : IntKind.i64.wrap ((at_ : Int) + 4) = (at_ : Int) + 4 := by simp [IntKind.wrap, IntKind.bits, IntKind.signed]; omega
  have wr5 : IntKind.i64.wrap ((at_ : Int) + 5) = (at_ : Int) + 5 := by simp [IntKind.wrap, IntKind.bits, IntKind.signed]; omega
  have wr7 : IntKind.i64.wrap ((at_ : Int) + 7) = (at_ : Int) + 7 := by simp [IntKind.wrap, IntKind.bits, IntKind.signed]; omega
  have wr8 : IntKind.i64.wrap ((at_ : Int) + 8) = (at_ : Int) + 8 := by simp [IntKind.wrap, IntKind.bits, IntKind.signed]; omega
  have wr10 : IntKind.i64.wrap ((at_ : Int) + 10) = (at_ : Int) + 10 := by simp [IntKind.wrap, IntKind.bits, IntKind.signed]; omega
  have DA := Lib.hid n4
  have DB := Lib.hid n2
  have DC := Lib.hid n8
  have KL := Lib.hid (fun W => rlength_any Y M W (by omega))
  clear n4 n2 n8 e4 e2 e8 e10 hf
  have HT := Lib.hid (p := bs t10 = bs t10) rfl
  generalize bs t4 = b4 at *
  generalize bs t2 = b2 at *
  generalize bs t8 = b8 at *
  obtain ⟨bt, hbt⟩ : ∃ bt, bs t10 = bt := ⟨_, rfl⟩
  rw [hbt] at s0
  have HT := Lib.hid hbt
  clear hbt
  obtain ⟨w2, hw2⟩ : ∃ w2, (w.alloc (.cells #[.int .i64 0, .string ⟨#[]⟩, .int .i64 0, .int .i64 0, .int .i64 0, .int .i64 0, .int .i64 0, .int .i64 0, .int .i64 0] 32)).alloc (.cells #[.int .i64 4, .string bt, .int .i64 (at_ : Int), .int .i64 0, .int .i64 0, .int .i64 0, .int .i64 0, .int .i64 0, .int .i64 0] 32) = w2 := ⟨_, rfl⟩
  have RZ := Lib.hid (p := RB w2 w.heap.size (.int .i64 0) (.string ⟨#[]⟩) (.int .i64 0) (.int .i64 0) (.int .i64 0) (.int .i64 0) (.int .i64 0) (.int .i64 0) (.int .i64 0)) ⟨by rw [← hw2]; exact (Below.heap_alloc _ _ _ (by simp)).trans (World.alloc_heap_new w _)⟩
  have RT := Lib.hid (p := RB w2 (w.heap.size + 1) (.int .i64 4) (.string bt) (.int .i64 (at_ : Int)) (.int .i64 0) (.int .i64 0) (.int .i64 0) (.int .i64 0) (.int .i64 0) (.int .i64 0)) ⟨by rw [← hw2]; have := World.alloc_heap_new (w.alloc (.cells #[.int .i64 0, .string ⟨#[]⟩, .int .i64 0, .int .i64 0, .int .i64 0, .int .i64 0, .int .i64 0, .int .i64 0, .int .i64 0] 32)) (.cells #[.int .i64 4, .string bt, .int .i64 (at_ : Int), .int .i64 0, .int .i64 0, .int .i64 0, .int .i64 0, .int .i64 0, .int .i64 0] 32); rwa [World.size_alloc] at this⟩
  have B2 := Lib.hid (p := Below w.heap.size w w2) (by rw [← hw2]; exact ((Below.refl _ _).alloc (Nat.le_refl _) _).alloc (by simp) _)
  obtain ⟨x0, x1, x2, x3, x4, x5, x6, x7, x8, xf⟩ := RT.out.c
  obtain ⟨y0, y1, y2, y3, y4, y5, y6, y7, y8, yf⟩ := RZ.out.c
  have HW := Lib.hid hw2
  clear hw2
  obtain ⟨w3, hw3⟩ : ∃ w3, ((w2.setCell ⟨w.heap.size + 1, 4, none⟩ (.int .i64 Y)).setCell ⟨w.heap.size + 1, 5, none⟩ (.int .i64 M)).setCell ⟨w.heap.size + 1, 6, none⟩ (.int .i64 D) = w3 := ⟨_, rfl⟩
  have RZ3 := Lib.hid (p := RB w3 w.heap.size (.int .i64 0) (.string ⟨#[]⟩) (.int .i64 0) (.int .i64 0) (.int .i64 0) (.int .i64 0) (.int .i64 0) (.int .i64 0) (.int .i64 0)) (by rw [← hw3]; exact ((RZ.out.other (g' := w.heap.size + 1) (i := 4) (by omega) _).other (g' := w.heap.size + 1) (i := 5) (by omega) _).other (g' := w.heap.size + 1) (i := 6) (by omega) _)
  have RT3 := Lib.hid (p := RB w3 (w.heap.size + 1) (.int .i64 4) (.string bt) (.int .i64 (at_ : Int)) (.int .i64 0) (.int .i64 Y) (.int .i64 M) (.int .i64 D) (.int .i64 0) (.int .i64 0)) ⟨by rw [← hw3]; exact Joins.block_setCell (i := 6) (Joins.block_setCell (i := 5) (Joins.block_setCell (i := 4) RT.out.hb _) _) _⟩
  have B3 := Lib.hid (p := Below w.heap.size w w3) (by rw [← hw3]; exact ((B2.out.setCell (p := ⟨w.heap.size + 1, 4, none⟩) (Nat.le_succ _) _).setCell (p := ⟨w.heap.size + 1, 5, none⟩) (Nat.le_succ _) _).setCell (p := ⟨w.heap.size + 1, 6, none⟩) (Nat.le_succ _) _)
  have HW3 := Lib.hid hw3
  clear hw3
  have q0 : decide (Y < 1900) = false := decide_eq_false c0
  have q1 : decide (2199 < Y) = false := decide_eq_false c1
  have q2 : decide (M < 1) = false := decide_eq_false c2
  have q3 : decide (12 < M) = false := decide_eq_false c3
  have q4 : decide (D < 1) = true := decide_eq_true c4
  go_enter Tryd.func20, Tryd.ntmps20
  go_wp2_with (go_at_call 30; refine (KD.out _).mono ?_; rintro e w' ⟨rfl, hw⟩; have hw' := hw.symm; clear hw; subst hw')
  rw [HW.out]
  go_region_held3 (fun _ => True) (exact trivial)
    (first
    | (go_at_call 31; (first
      | (have qq := Q2; refine (DC.out _).mono ?_; rintro e w' ⟨rfl, rfl⟩; have Q3 := Lib.hid (p := (1 : Nat) = 1) rfl)
      | (have qq := Q1; refine (DB.out _).mono ?_; rintro e w' ⟨rfl, rfl⟩; have Q2 := Lib.hid (p := (1 : Nat) = 1) rfl)
      | (refine (DA.out _).mono ?_; rintro e w' ⟨rfl, rfl⟩; have Q1 := Lib.hid (p := (1 : Nat) = 1) rfl))))
  all_goals
    go_wp2
    rw [HW3.out]
    clear x0 x1 x2 x3 x4 x5 x6 x7 x8 xf y0 y1 y2 y3 y4 y5 y6 y7 y8 yf
    obtain ⟨x0, x1, x2, x3, x4, x5, x6, x7, x8, xf⟩ := RT3.out.c
    obtain ⟨y0, y1, y2, y3, y4, y5, y6, y7, y8, yf⟩ := RZ3.out.c
    go_quiet ((go_at_call 32; exact Calls.quiet_of_same (KL.out _)))
    obtain ⟨w4, hw4⟩ : ∃ w4, w3.drew.drewN nq = w4 := ⟨_, rfl⟩
    have R0 := Lib.hid (p := RB w4 w.heap.size (.int .i64 0) (.string ⟨#[]⟩) (.int .i64 0) (.int .i64 0) (.int .i64 0) (.int .i64 0) (.int .i64 0) (.int .i64 0) (.int .i64 0)) (by rw [← hw4]; exact ⟨RZ3.out.hb⟩)
    have R1 := Lib.hid (p := RB w4 (w.heap.size + 1) (.int .i64 4) (.string bt) (.int .i64 (at_ : Int)) (.int .i64 0) (.int .i64 Y) (.int .i64 M) (.int .i64 D) (.int .i64 0) (.int .i64 0)) (by rw [← hw4]; exact ⟨RT3.out.hb⟩)
    have B4 := Lib.hid (p := Below w.heap.size w w4) (by rw [← hw4]; exact below_dn B3.out.drew _)
    have FIN := Lib.hid (R0.out.set9 (.int .i64 0) (.string ⟨#[]⟩) (.int .i64 0) (.int .i64 0) (.int .i64 0) (.int .i64 0) (.int .i64 0) (.int .i64 0) (.int .i64 0))
    rw [hw4]
    clear x0 x1 x2 x3 x4 x5 x6 x7 x8 xf y0 y1 y2 y3 y4 y5 y6 y7 y8 yf hw4
    obtain ⟨x0, x1, x2, x3, x4, x5, x6, x7, x8, xf⟩ := R1.out.c
    obtain ⟨y0, y1, y2, y3, y4, y5, y6, y7, y8, yf⟩ := R0.out.c
    obtain ⟨r0, r1, r2, r3, r4, r5, r6, r7, r8, rf⟩ := FIN.out.c
    go_wp2
    exact bodyPost_ret (v := .tuple #[tokR tokR0, .int .i64 (at_ : Int), .int .i64 62]) (by simp [results, Tryd.results20, go_sem, tokR, tokR0, bs, r0, r1, r2, r3, r4, r5, r6, r7, r8]) rfl ⟨rfl, belowR9 B4.out (Nat.le_refl _) _ _ _ _ _ _ _ _ _⟩
end Go.Proofs.YtlihkmhhfnkkoaaDoor
