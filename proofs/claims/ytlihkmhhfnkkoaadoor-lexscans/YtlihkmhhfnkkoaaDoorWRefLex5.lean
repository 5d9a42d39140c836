/-
  WALK: the document's numbers (made by gen/gen_reflex5.py).
-/
import Derived.Test.YtlihkmhhfnkkoaaDoorWRefLex4
namespace Go.Proofs.YtlihkmhhfnkkoaaDoor
open Go.RowKit Lx
set_option linter.unusedVariables false
set_option linter.unusedSimpArgs false

theorem RB.other {w : World} {g g' i : Nat} {a0 a1 a2 a3 a4 a5 a6 a7 a8 : Value} (h : RB w g a0 a1 a2 a3 a4 a5 a6 a7 a8) (hn : g' ≠ g) (v : Value) : RB (w.setCell ⟨g', i, none⟩ v) g a0 a1 a2 a3 a4 a5 a6 a7 a8 :=
  ⟨by have := h.hb; simp [World.setCell, Array.getElem?_modify, hn, this]⟩
/-- A token's answer at a place. -/
def atV (at_ : Nat) : St → Tok × Int × Int
  | .skip _ => (tokR0, 0, 0)
  | .tok t => ({ t with a := at_ }, 0, 0)
  | .err s e => (tokR0, (at_ : Int) + (s : Int), e)
set_option maxRecDepth 100000 in
set_option maxHeartbeats 2000000 in
theorem rnumbers_a1 (s : ByteArray) (at_ : Nat) (w : World) (h1 : 1 ≤ s.size) (hs : s.size ≤ 65536) (ha : allD (lst s) = true) (hc : numR (lst s) < 0) :
    Calls Tryd.prog 35 #[.string s, .int .i64 (at_ : Int)] w fun e w' => e = trEnd ((tokR0, (at_ : Int), 62)) ∧ Below w.heap.size w w' := by
  obtain ⟨w2, hw2⟩ : ∃ w2, (w.alloc (.cells #[.int .i64 0, .string ⟨#[]⟩, .int .i64 0, .int .i64 0, .int .i64 0, .int .i64 0, .int .i64 0, .int .i64 0, .int .i64 0] 32)).alloc (.cells #[.int .i64 3, .string s, .int .i64 (at_ : Int), .int .i64 0, .int .i64 0, .int .i64 0, .int .i64 0, .int .i64 0, .int .i64 0] 32) = w2 := ⟨_, rfl⟩
  have RZ := Lib.hid (p := RB w2 w.heap.size (.int .i64 0) (.string ⟨#[]⟩) (.int .i64 0) (.int .i64 0) (.int .i64 0) (.int .i64 0) (.int .i64 0) (.int .i64 0) (.int .i64 0)) ⟨by rw [← hw2]; exact (Below.heap_alloc _ _ _ (by simp)).trans (World.alloc_heap_new w _)⟩
  have RT := Lib.hid (p := RB w2 (w.heap.size + 1) (.int .i64 3) (.string s) (.int .i64 (at_ : Int)) (.int .i64 0) (.int .i64 0) (.int .i64 0) (.int .i64 0) (.int .i64 0) (.int .i64 0)) ⟨by rw [← hw2]; have := World.alloc_heap_new (w.alloc (.cells #[.int .i64 0, .string ⟨#[]⟩, .int .i64 0, .int .i64 0, .int .i64 0, .int .i64 0, .int .i64 0, .int .i64 0, .int .i64 0] 32)) (.cells #[.int .i64 3, .string s, .int .i64 (at_ : Int), .int .i64 0, .int .i64 0, .int .i64 0, .int .i64 0, .int .i64 0, .int .i64 0] 32); rwa [World.size_alloc] at this⟩
  have B2 := Lib.hid (p := Below w.heap.size w w2) (by rw [← hw2]; exact ((Below.refl _ _).alloc (Nat.le_refl _) _).alloc (by simp) _)
  obtain ⟨x0, x1, x2, x3, x4, x5, x6, x7, x8, xf⟩ := RT.out.c
  obtain ⟨y0, y1, y2, y3, y4, y5, y6, y7, y8, yf⟩ := RZ.out.c
  have HW := Lib.hid hw2
  clear hw2
  have z0 : 0 < s.size := by omega
  have K1 := Lib.hid (fun W => rdigits_any s W (by omega))
  rw [ha, decide_eq_true (show 0 < s.size by omega)] at K1
  have P1 := Lib.hid (p := (1 : Nat) = 1) rfl
  have KN := Lib.hid (fun W => rnumber_any s W (by omega) ha)
  have ES := bs_lst s
  obtain ⟨V, hV⟩ : ∃ V, numR (lst s) = V := ⟨_, rfl⟩
  rw [hV] at KN hc
  have q1 : V < 0 := hc
  have FIN := Lib.hid ((RZ.out.other (g' := w.heap.size + 1) (i := 3) (by omega) (.int .i64 V)).set9 (.int .i64 0) (.string ⟨#[]⟩) (.int .i64 0) (.int .i64 0) (.int .i64 0) (.int .i64 0) (.int .i64 0) (.int .i64 0) (.int .i64 0))
  obtain ⟨r0, r1, r2, r3, r4, r5, r6, r7, r8, rf⟩ := FIN.out.c
  clear ha hc hV
  go_enter Tryd.func35, Tryd.ntmps35
  go_wp2_with (first | (go_at_call 44; have qq := P1; refine (K1.out _).mono ?_; rintro e w' ⟨rfl, hw⟩; rw [HW.out] at hw; have hw' := hw.symm; clear hw; subst hw'; clear P1) | (go_at_call 31; refine (KN.out _).mono ?_; rintro e w' ⟨rfl, hw⟩; have hw' := hw.symm; clear hw; subst hw'))
  exact bodyPost_ret (v := .tuple #[tokR tokR0, .int .i64 (at_ : Int), .int .i64 62]) (by simp [results, Tryd.results35, go_sem, tokR, tokR0, bs, r0, r1, r2, r3, r4, r5, r6, r7, r8]) rfl ⟨rfl, belowR9 (B2.out.setCell (p := ⟨w.heap.size + 1, 3, none⟩) (Nat.le_succ _) _) (Nat.le_refl _) _ _ _ _ _ _ _ _ _⟩
set_option maxRecDepth 100000 in
set_option maxHeartbeats 2000000 in
theorem rnumbers_a2 (s : ByteArray) (at_ : Nat) (w : World) (h1 : 1 ≤ s.size) (hs : s.size ≤ 65536) (ha : allD (lst s) = true) (zz : 0 < s.size) (hc : ¬ numR (lst s) < 0 ∧ 1 < s.size ∧ s[0].toNat = 48) :
    Calls Tryd.prog 35 #[.string s, .int .i64 (at_ : Int)] w fun e w' => e = trEnd ((tokR0, (at_ : Int), 62)) ∧ Below w.heap.size w w' := by
  obtain ⟨w2, hw2⟩ : ∃ w2, (w.alloc (.cells #[.int .i64 0, .string ⟨#[]⟩, .int .i64 0, .int .i64 0, .int .i64 0, .int .i64 0, .int .i64 0, .int .i64 0, .int .i64 0] 32)).alloc (.cells #[.int .i64 3, .string s, .int .i64 (at_ : Int), .int .i64 0, .int .i64 0, .int .i64 0, .int .i64 0, .int .i64 0, .int .i64 0] 32) = w2 := ⟨_, rfl⟩
  have RZ := Lib.hid (p := RB w2 w.heap.size (.int .i64 0) (.string ⟨#[]⟩) (.int .i64 0) (.int .i64 0) (.int .i64 0) (.int .i64 0) (.int .i64 0) (.int .i64 0) (.int .i64 0)) ⟨by rw [← hw2]; exact (Below.heap_alloc _ _ _ (by simp)).trans (World.alloc_heap_new w _)⟩
  have RT := Lib.hid (p := RB w2 (w.heap.size + 1) (.int .i64 3) (.string s) (.int .i64 (at_ : Int)) (.int .i64 0) (.int .i64 0) (.int .i64 0) (.int .i64 0) (.int .i64 0) (.int .i64 0)) ⟨by rw [← hw2]; have := World.alloc_heap_new (w.alloc (.cells #[.int .i64 0, .string ⟨#[]⟩, .int .i64 0, .int .i64 0, .int .i64 0, .int .i64 0, .int .i64 0, .int .i64 0, .int .i64 0] 32)) (.cells #[.int .i64 3, .string s, .int .i64 (at_ : Int), .int .i64 0, .int .i64 0, .int .i64 0, .int .i64 0, .int .i64 0, .int .i64 0] 32); rwa [World.size_alloc] at this⟩
  have B2 := Lib.hid (p := Below w.heap.size w w2) (by rw [← hw2]; exact ((Below.refl _ _).alloc (Nat.le_refl _) _).alloc (by simp) _)
  obtain ⟨x0, x1, x2, x3, x4, x5, x6, x7, x8, xf⟩ := RT.out.c
  obtain ⟨y0, y1, y2, y3, y4, y5, y6, y7, y8, yf⟩ := RZ.out.c
  have HW := Lib.hid hw2
  clear hw2
  have z0 : 0 < s.size := by omega
  have K1 := Lib.hid (fun W => rdigits_any s W (by omega))
  rw [ha, decide_eq_true (show 0 < s.size by omega)] at K1
  have P1 := Lib.hid (p := (1 : Nat) = 1) rfl
  have KN := Lib.hid (fun W => rnumber_any s W (by omega) ha)
  have ES := bs_lst s
  obtain ⟨V, hV⟩ : ∃ V, numR (lst s) = V := ⟨_, rfl⟩
  rw [hV] at KN hc
  have q1 : decide (V < 0) = false := decide_eq_false hc.1
  have q2 : (1 : Int) < (s.size : Int) := by have := hc.2.1; omega
  have q3 : ((s[0].toNat : Int) == 48) = true := by rw [hc.2.2]; rfl
  have FIN := Lib.hid ((RZ.out.other (g' := w.heap.size + 1) (i := 3) (by omega) (.int .i64 V)).set9 (.int .i64 0) (.string ⟨#[]⟩) (.int .i64 0) (.int .i64 0) (.int .i64 0) (.int .i64 0) (.int .i64 0) (.int .i64 0) (.int .i64 0))
  obtain ⟨r0, r1, r2, r3, r4, r5, r6, r7, r8, rf⟩ := FIN.out.c
  clear ha hc hV
  go_enter Tryd.func35, Tryd.ntmps35
  go_wp2_with (first | (go_at_call 44; have qq := P1; refine (K1.out _).mono ?_; rintro e w' ⟨rfl, hw⟩; rw [HW.out] at hw; have hw' := hw.symm; clear hw; subst hw'; clear P1) | (go_at_call 31; refine (KN.out _).mono ?_; rintro e w' ⟨rfl, hw⟩; have hw' := hw.symm; clear hw; subst hw'))
  exact bodyPost_ret (v := .tuple #[tokR tokR0, .int .i64 (at_ : Int), .int .i64 62]) (by simp [results, Tryd.results35, go_sem, tokR, tokR0, bs, r0, r1, r2, r3, r4, r5, r6, r7, r8]) rfl ⟨rfl, belowR9 (B2.out.setCell (p := ⟨w.heap.size + 1, 3, none⟩) (Nat.le_succ _) _) (Nat.le_refl _) _ _ _ _ _ _ _ _ _⟩
set_option maxRecDepth 100000 in
set_option maxHeartbeats 2000000 in
theorem rnumbers_a3 (s : ByteArray) (at_ : Nat) (w : World) (h1 : 1 ≤ s.size) (hs : s.size ≤ 65536) (ha : allD (lst s) = true) (hc : ¬ numR (lst s) < 0 ∧ s.size = 1) :
    Calls Tryd.prog 35 #[.string s, .int .i64 (at_ : Int)] w fun e w' => e = trEnd ((⟨3, lst s, (at_ : Int), numR (lst s), 0, 0, 0, 0, 0⟩, 0, 0)) ∧ Below w.heap.size w w' := by
  obtain ⟨w2, hw2⟩ : ∃ w2, (w.alloc (.cells #[.int .i64 0, .string ⟨#[]⟩, .int .i64 0, .int .i64 0, .int .i64 0, .int .i64 0, .int .i64 0, .int .i64 0, .int .i64 0] 32)).alloc (.cells #[.int .i64 3, .string s, .int .i64 (at_ : Int), .int .i64 0, .int .i64 0, .int .i64 0, .int .i64 0, .int .i64 0, .int .i64 0] 32) = w2 := ⟨_, rfl⟩
  have RZ := Lib.hid (p := RB w2 w.heap.size (.int .i64 0) (.string ⟨#[]⟩) (.int .i64 0) (.int .i64 0) (.int .i64 0) (.int .i64 0) (.int .i64 0) (.int .i64 0) (.int .i64 0)) ⟨by rw [← hw2]; exact (Below.heap_alloc _ _ _ (by simp)).trans (World.alloc_heap_new w _)⟩
  have RT := Lib.hid (p := RB w2 (w.heap.size + 1) (.int .i64 3) (.string s) (.int .i64 (at_ : Int)) (.int .i64 0) (.int .i64 0) (.int .i64 0) (.int .i64 0) (.int .i64 0) (.int .i64 0)) ⟨by rw [← hw2]; have := World.alloc_heap_new (w.alloc (.cells #[.int .i64 0, .string ⟨#[]⟩, .int .i64 0, .int .i64 0, .int .i64 0, .int .i64 0, .int .i64 0, .int .i64 0, .int .i64 0] 32)) (.cells #[.int .i64 3, .string s, .int .i64 (at_ : Int), .int .i64 0, .int .i64 0, .int .i64 0, .int .i64 0, .int .i64 0, .int .i64 0] 32); rwa [World.size_alloc] at this⟩
  have B2 := Lib.hid (p := Below w.heap.size w w2) (by rw [← hw2]; exact ((Below.refl _ _).alloc (Nat.le_refl _) _).alloc (by simp) _)
  obtain ⟨x0, x1, x2, x3, x4, x5, x6, x7, x8, xf⟩ := RT.out.c
  obtain ⟨y0, y1, y2, y3, y4, y5, y6, y7, y8, yf⟩ := RZ.out.c
  have HW := Lib.hid hw2
  clear hw2
  have z0 : 0 < s.size := by omega
  have K1 := Lib.hid (fun W => rdigits_any s W (by omega))
  rw [ha, decide_eq_true (show 0 < s.size by omega)] at K1
  have P1 := Lib.hid (p := (1 : Nat) = 1) rfl
  have KN := Lib.hid (fun W => rnumber_any s W (by omega) ha)
  have ES := bs_lst s
  obtain ⟨V, hV⟩ : ∃ V, numR (lst s) = V := ⟨_, rfl⟩
  rw [hV] at KN hc
  rw [hV]
  have q1 : decide (V < 0) = false := decide_eq_false hc.1
  have q2 : decide ((1 : Int) < (s.size : Int)) = false := decide_eq_false (by have := hc.2; omega)
  have FIN := Lib.hid ((RZ.out.other (g' := w.heap.size + 1) (i := 3) (by omega) (.int .i64 V)).set9 (.int .i64 3) (.string s) (.int .i64 (at_ : Int)) (.int .i64 V) (.int .i64 0) (.int .i64 0) (.int .i64 0) (.int .i64 0) (.int .i64 0))
  obtain ⟨r0, r1, r2, r3, r4, r5, r6, r7, r8, rf⟩ := FIN.out.c
  clear ha hc hV
  go_enter Tryd.func35, Tryd.ntmps35
  go_wp2_with (first | (go_at_call 44; have qq := P1; refine (K1.out _).mono ?_; rintro e w' ⟨rfl, hw⟩; rw [HW.out] at hw; have hw' := hw.symm; clear hw; subst hw'; clear P1) | (go_at_call 31; refine (KN.out _).mono ?_; rintro e w' ⟨rfl, hw⟩; have hw' := hw.symm; clear hw; subst hw'))
  exact bodyPost_ret (v := .tuple #[tokR ⟨3, lst s, (at_ : Int), V, 0, 0, 0, 0, 0⟩, .int .i64 0, .int .i64 0]) (by simp [results, Tryd.results35, go_sem, tokR, tokR0, ES, r0, r1, r2, r3, r4, r5, r6, r7, r8]) rfl ⟨rfl, belowR9 (B2.out.setCell (p := ⟨w.heap.size + 1, 3, none⟩) (Nat.le_succ _) _) (Nat.le_refl _) _ _ _ _ _ _ _ _ _⟩
set_option maxRecDepth 100000 in
set_option maxHeartbeats 2000000 in
theorem rnumbers_a4 (s : ByteArray) (at_ : Nat) (w : World) (h1 : 1 ≤ s.size) (hs : s.size ≤ 65536) (ha : allD (lst s) = true) (zz : 0 < s.size) (hc : ¬ numR (lst s) < 0 ∧ s[0].toNat ≠ 48 ∧ 1 < s.size) :
    Calls Tryd.prog 35 #[.string s, .int .i64 (at_ : Int)] w fun e w' => e = trEnd ((⟨3, lst s, (at_ : Int), numR (lst s), 0, 0, 0, 0, 0⟩, 0, 0)) ∧ Below w.heap.size w w' := by
  obtain ⟨w2, hw2⟩ : ∃ w2, (w.alloc (.cells #[.int .i64 0, .string ⟨#[]⟩, .int .i64 0, .int .i64 0, .int .i64 0, .int .i64 0, .int .i64 0, .int .i64 0, .int .i64 0] 32)).alloc (.cells #[.int .i64 3, .string s, .int .i64 (at_ : Int), .int .i64 0, .int .i64 0, .int .i64 0, .int .i64 0, .int .i64 0, .int .i64 0] 32) = w2 := ⟨_, rfl⟩
  have RZ := Lib.hid (p := RB w2 w.heap.size (.int .i64 0) (.string ⟨#[]⟩) (.int .i64 0) (.int .i64 0) (.int .i64 0) (.int .i64 0) (.int .i64 0) (.int .i64 0) (.int .i64 0)) ⟨by rw [← hw2]; exact (Below.heap_alloc _ _ _ (by simp)).trans (World.alloc_heap_new w _)⟩
  have RT := Lib.hid (p := RB w2 (w.heap.size + 1) (.int .i64 3) (.string s) (.int .i64 (at_ : Int)) (.int .i64 0) (.int .i64 0) (.int .i64 0) (.int .i64 0) (.int .i64 0) (.int .i64 0)) ⟨by rw [← hw2]; have := World.alloc_heap_new (w.alloc (.cells #[.int .i64 0, .string ⟨#[]⟩, .int .i64 0, .int .i64 0, .int .i64 0, .int .i64 0, .int .i64 0, .int .i64 0, .int .i64 0] 32)) (.cells #[.int .i64 3, .string s, .int .i64 (at_ : Int), .int .i64 0, .int .i64 0, .int .i64 0, .int .i64 0, .int .i64 0, .int .i64 0] 32); rwa [World.size_alloc] at this⟩
  have B2 := Lib.hid (p := Below w.heap.size w w2) (by rw [← hw2]; exact ((Below.refl _ _).alloc (Nat.le_refl _) _).alloc (by simp) _)
  obtain ⟨x0, x1, x2, x3, x4, x5, x6, x7, x8, xf⟩ := RT.out.c
  obtain ⟨y0, y1, y2, y3, y4, y5, y6, y7, y8, yf⟩ := RZ.out.c
  have HW := Lib.hid hw2
  clear hw2
  have z0 : 0 < s.size := by omega
  have K1 := Lib.hid (fun W => rdigits_any s W (by omega))
  rw [ha, decide_eq_true (show 0 < s.size by omega)] at K1
  have P1 := Lib.hid (p := (1 : Nat) = 1) rfl
  have KN := Lib.hid (fun W => rnumber_any s W (by omega) ha)
  have ES := bs_lst s
  obtain ⟨V, hV⟩ : ∃ V, numR (lst s) = V := ⟨_, rfl⟩
  rw [hV] at KN hc
  rw [hV]
  have q1 : decide (V < 0) = false := decide_eq_false hc.1
  have q2 : (1 : Int) < (s.size : Int) := by have := hc.2.2; omega
  have q3 : ((s[0].toNat : Int) == 48) = false := by rw [beq_eq_false_iff_ne]; have := hc.2.1; omega
  have FIN := Lib.hid ((RZ.out.other (g' := w.heap.size + 1) (i := 3) (by omega) (.int .i64 V)).set9 (.int .i64 3) (.string s) (.int .i64 (at_ : Int)) (.int .i64 V) (.int .i64 0) (.int .i64 0) (.int .i64 0) (.int .i64 0) (.int .i64 0))
  obtain ⟨r0, r1, r2, r3, r4, r5, r6, r7, r8, rf⟩ := FIN.out.c
  clear ha hc hV
  go_enter Tryd.func35, Tryd.ntmps35
  go_wp2_with (first | (go_at_call 44; have qq := P1; refine (K1.out _).mono ?_; rintro e w' ⟨rfl, hw⟩; rw [HW.out] at hw; have hw' := hw.symm; clear hw; subst hw'; clear P1) | (go_at_call 31; refine (KN.out _).mono ?_; rintro e w' ⟨rfl, hw⟩; have hw' := hw.symm; clear hw; subst hw'))
  exact bodyPost_ret (v := .tuple #[tokR ⟨3, lst s, (at_ : Int), V, 0, 0, 0, 0, 0⟩, .int .i64 0, .int .i64 0]) (by simp [results, Tryd.results35, go_sem, tokR, tokR0, ES, r0, r1, r2, r3, r4, r5, r6, r7, r8]) rfl ⟨rfl, belowR9 (B2.out.setCell (p := ⟨w.heap.size + 1, 3, none⟩) (Nat.le_succ _) _) (Nat.le_refl _) _ _ _ _ _ _ _ _ _⟩
set_option maxRecDepth 100000 in
set_option maxHeartbeats 2000000 in
theorem rnumbers_b1 (s : ByteArray) (at_ : Nat) (w : World) (h1 : 1 ≤ s.size) (hs : s.size ≤ 65536) (ha : allD (lst s) = false) (hc : (allD (lst s).dropLast && decide (0 < s.size - 1)) = false) :
    Calls Tryd.prog 35 #[.string s, .int .i64 (at_ : Int)] w fun e w' => e = trEnd ((tokR0, (at_ : Int), 62)) ∧ Below w.heap.size w w' := by
  obtain ⟨w2, hw2⟩ : ∃ w2, (w.alloc (.cells #[.int .i64 0, .string ⟨#[]⟩, .int .i64 0, .int .i64 0, .int .i64 0, .int .i64 0, .int .i64 0, .int .i64 0, .int .i64 0] 32)).alloc (.cells #[.int .i64 3, .string s, .int .i64 (at_ : Int), .int .i64 0, .int .i64 0, .int .i64 0, .int .i64 0, .int .i64 0, .int .i64 0] 32) = w2 := ⟨_, rfl⟩
  have RZ := Lib.hid (p := RB w2 w.heap.size (.int .i64 0) (.string ⟨#[]⟩) (.int .i64 0) (.int .i64 0) (.int .i64 0) (.int .i64 0) (.int .i64 0) (.int .i64 0) (.int .i64 0)) ⟨by rw [← hw2]; exact (Below.heap_alloc _ _ _ (by simp)).trans (World.alloc_heap_new w _)⟩
  have RT := Lib.hid (p := RB w2 (w.heap.size + 1) (.int .i64 3) (.string s) (.int .i64 (at_ : Int)) (.int .i64 0) (.int .i64 0) (.int .i64 0) (.int .i64 0) (.int .i64 0) (.int .i64 0)) ⟨by rw [← hw2]; have := World.alloc_heap_new (w.alloc (.cells #[.int .i64 0, .string ⟨#[]⟩, .int .i64 0, .int .i64 0, .int .i64 0, .int .i64 0, .int .i64 0, .int .i64 0, .int .i64 0] 32)) (.cells #[.int .i64 3, .string s, .int .i64 (at_ : Int), .int .i64 0, .int .i64 0, .int .i64 0, .int .i64 0, .int .i64 0, .int .i64 0] 32); rwa [World.size_alloc] at this⟩
  have B2 := Lib.hid (p := Below w.heap.size w w2) (by rw [← hw2]; exact ((Below.refl _ _).alloc (Nat.le_refl _) _).alloc (by simp) _)
  obtain ⟨x0, x1, x2, x3, x4, x5, x6, x7, x8, xf⟩ := RT.out.c
  obtain ⟨y0, y1, y2, y3, y4, y5, y6, y7, y8, yf⟩ := RZ.out.c
  have HW := Lib.hid hw2
  clear hw2
  have z0 : 0 < s.size := by omega
  have K1 := Lib.hid (fun W => rdigits_any s W (by omega))
  rw [ha, Bool.false_and] at K1
  have P1 := Lib.hid (p := (1 : Nat) = 1) rfl
  have hlen := lst_len s
  have s1 := cutTo s ((s.size : Int) - 1) (by omega) (by omega)
  rw [show (List.take ((s.size : Int) - 1).toNat (lst s)) = (lst s).dropLast by rw [List.dropLast_eq_take, hlen, show ((s.size : Int) - 1).toNat = s.size - 1 by omega]] at s1
  obtain ⟨sd, hsd⟩ : ∃ sd, bs (lst s).dropLast = sd := ⟨_, rfl⟩
  have ed : lst sd = (lst s).dropLast := by rw [← hsd, lst_bs]
  have zd : sd.size = s.size - 1 := by rw [← hsd, bs_size, List.length_dropLast, hlen]
  rw [hsd] at s1
  have K2 := Lib.hid (fun W => rdigits_any sd W (by omega))
  rw [ed] at K2
  have kw : IntKind.i64.wrap ((s.size : Int) - 1) = (s.size : Int) - 1 := by simp [IntKind.wrap, IntKind.bits, IntKind.signed]; omega
  have ES := bs_lst s
  rw [zd, hc] at K2
  have FIN := Lib.hid (RZ.out.set9 (.int .i64 0) (.string ⟨#[]⟩) (.int .i64 0) (.int .i64 0) (.int .i64 0) (.int .i64 0) (.int .i64 0) (.int .i64 0) (.int .i64 0))
  obtain ⟨r0, r1, r2, r3, r4, r5, r6, r7, r8, rf⟩ := FIN.out.c
  clear ha hc hlen hsd ed zd
  go_enter Tryd.func35, Tryd.ntmps35
  go_wp2_with (first | (go_at_call 44; have qq := P1; refine (K1.out _).mono ?_; rintro e w' ⟨rfl, hw⟩; rw [HW.out] at hw; have hw' := hw.symm; clear hw; subst hw'; clear P1) | (go_at_call 44; refine (K2.out _).mono ?_; rintro e w' ⟨rfl, hw⟩; have hw' := hw.symm; clear hw; subst hw'))
  exact bodyPost_ret (v := .tuple #[tokR tokR0, .int .i64 (at_ : Int), .int .i64 62]) (by simp [results, Tryd.results35, go_sem, tokR, tokR0, bs, r0, r1, r2, r3, r4, r5, r6, r7, r8]) rfl ⟨rfl, belowR9 B2.out (Nat.le_refl _) _ _ _ _ _ _ _ _ _⟩
set_option maxRecDepth 100000 in
set_option maxHeartbeats 2000000 in
theorem rnumbers_b2 (s : ByteArray) (at_ : Nat) (w : World) (h1 : 1 ≤ s.size) (hs : s.size ≤ 65536) (ha : allD (lst s) = false) (hc : (allD (lst s).dropLast && decide (0 < s.size - 1)) = true ∧ 3 < s.size - 1) :
    Calls Tryd.prog 35 #[.string s, .int .i64 (at_ : Int)] w fun e w' => e = trEnd ((tokR0, (at_ : Int), 62)) ∧ Below w.heap.size w w' := by
  obtain ⟨w2, hw2⟩ : ∃ w2, (w.alloc (.cells #[.int .i64 0, .string ⟨#[]⟩, .int .i64 0, .int .i64 0, .int .i64 0, .int .i64 0, .int .i64 0, .int .i64 0, .int .i64 0] 32)).alloc (.cells #[.int .i64 3, .string s, .int .i64 (at_ : Int), .int .i64 0, .int .i64 0, .int .i64 0, .int .i64 0, .int .i64 0, .int .i64 0] 32) = w2 := ⟨_, rfl⟩
  have RZ := Lib.hid (p := RB w2 w.heap.size (.int .i64 0) (.string ⟨#[]⟩) (.int .i64 0) (.int .i64 0) (.int .i64 0) (.int .i64 0) (.int .i64 0) (.int .i64 0) (.int .i64 0)) ⟨by rw [← hw2]; exact (Below.heap_alloc _ _ _ (by simp)).trans (World.alloc_heap_new w _)⟩
  have RT := Lib.hid (p := RB w2 (w.heap.size + 1) (.int .i64 3) (.string s) (.int .i64 (at_ : Int)) (.int .i64 0) (.int .i64 0) (.int .i64 0) (.int .i64 0) (.int .i64 0) (.int .i64 0)) ⟨by rw [← hw2]; have := World.alloc_heap_new (w.alloc (.cells #[.int .i64 0, .string ⟨#[]⟩, .int .i64 0, .int .i64 0, .int .i64 0, .int .i64 0, .int .i64 0, .int .i64 0, .int .i64 0] 32)) (.cells #[.int .i64 3, .string s, .int .i64 (at_ : Int), .int .i64 0, .int .i64 0, .int .i64 0, .int .i64 0, .int .i64 0, .int .i64 0] 32); rwa [World.size_alloc] at this⟩
  have B2 := Lib.hid (p := Below w.heap.size w w2) (by rw [← hw2]; exact ((Below.refl _ _).alloc (Nat.le_refl _) _).alloc (by simp) _)
  obtain ⟨x0, x1, x2, x3, x4, x5, x6, x7, x8, xf⟩ := RT.out.c
  obtain ⟨y0, y1, y2, y3, y4, y5, y6, y7, y8, yf⟩ := RZ.out.c
  have HW := Lib.hid hw2
  clear hw2
  have z0 : 0 < s.size := by omega
  have K1 := Lib.hid (fun W => rdigits_any s W (by omega))
  rw [ha, Bool.false_and] at K1
  have P1 := Lib.hid (p := (1 : Nat) = 1) rfl
  have hlen := lst_len s
  have s1 := cutTo s ((s.size : Int) - 1) (by omega) (by omega)
  rw [show (List.take ((s.size : Int) - 1).toNat (lst s)) = (lst s).dropLast by rw [List.dropLast_eq_take, hlen, show ((s.size : Int) - 1).toNat = s.size - 1 by omega]] at s1
  obtain ⟨sd, hsd⟩ : ∃ sd, bs (lst s).dropLast = sd := ⟨_, rfl⟩
  have ed : lst sd = (lst s).dropLast := by rw [← hsd, lst_bs]
  have zd : sd.size = s.size - 1 := by rw [← hsd, bs_size, List.length_dropLast, hlen]
  rw [hsd] at s1
  have K2 := Lib.hid (fun W => rdigits_any sd W (by omega))
  rw [ed] at K2
  have kw : IntKind.i64.wrap ((s.size : Int) - 1) = (s.size : Int) - 1 := by simp [IntKind.wrap, IntKind.bits, IntKind.signed]; omega
  have ES := bs_lst s
  rw [zd, hc.1] at K2
  have q1 : (3 : Int) < (s.size : Int) - 1 := by have := hc.2; omega
  have FIN := Lib.hid (RZ.out.set9 (.int .i64 0) (.string ⟨#[]⟩) (.int .i64 0) (.int .i64 0) (.int .i64 0) (.int .i64 0) (.int .i64 0) (.int .i64 0) (.int .i64 0))
  obtain ⟨r0, r1, r2, r3, r4, r5, r6, r7, r8, rf⟩ := FIN.out.c
  clear ha hc hlen hsd ed zd
  go_enter Tryd.func35, Tryd.ntmps35
  go_wp2_with (first | (go_at_call 44; have qq := P1; refine (K1.out _).mono ?_; rintro e w' ⟨rfl, hw⟩; rw [HW.out] at hw; have hw' := hw.symm; clear hw; subst hw'; clear P1) | (go_at_call 44; refine (K2.out _).mono ?_; rintro e w' ⟨rfl, hw⟩; have hw' := hw.symm; clear hw; subst hw'))
  exact bodyPost_ret (v := .tuple #[tokR tokR0, .int .i64 (at_ : Int), .int .i64 62]) (by simp [results, Tryd.results35, go_sem, tokR, tokR0, bs, r0, r1, r2, r3, r4, r5, r6, r7, r8]) rfl ⟨rfl, belowR9 B2.out (Nat.le_refl _) _ _ _ _ _ _ _ _ _⟩
set_option maxRecDepth 100000 in
set_option maxHeartbeats 2000000 in
theorem rnumbers_b3 (s : ByteArray) (at_ : Nat) (w : World) (h1 : 1 ≤ s.size) (hs : s.size ≤ 65536) (ha : allD (lst s) = false) (zz : 0 < s.size) (hc : (allD (lst s).dropLast && decide (0 < s.size - 1)) = true ∧ ¬ 3 < s.size - 1 ∧ s[0].toNat = 48) :
    Calls Tryd.prog 35 #[.string s, .int .i64 (at_ : Int)] w fun e w' => e = trEnd ((tokR0, (at_ : Int), 62)) ∧ Below w.heap.size w w' := by
  obtain ⟨w2, hw2⟩ : ∃ w2, (w.alloc (.cells #[.int .i64 0, .string ⟨#[]⟩, .int .i64 0, .int .i64 0, .int .i64 0, .int .i64 0, .int .i64 0, .int .i64 0, .int .i64 0] 32)).alloc (.cells #[.int .i64 3, .string s, .int .i64 (at_ : Int), .int .i64 0, .int .i64 0, .int .i64 0, .int .i64 0, .int .i64 0, .int .i64 0] 32) = w2 := ⟨_, rfl⟩
  have RZ := Lib.hid (p := RB w2 w.heap.size (.int .i64 0) (.string ⟨#[]⟩) (.int .i64 0) (.int .i64 0) (.int .i64 0) (.int .i64 0) (.int .i64 0) (.int .i64 0) (.int .i64 0)) ⟨by rw [← hw2]; exact (Below.heap_alloc _ _ _ (by simp)).trans (World.alloc_heap_new w _)⟩
  have RT := Lib.hid (p := RB w2 (w.heap.size + 1) (.int .i64 3) (.string s) (.int .i64 (at_ : Int)) (.int .i64 0) (.int .i64 0) (.int .i64 0) (.int .i64 0) (.int .i64 0) (.int .i64 0)) ⟨by rw [← hw2]; have := World.alloc_heap_new (w.alloc (.cells #[.int .i64 0, .string ⟨#[]⟩, .int .i64 0, .int .i64 0, .int .i64 0, .int .i64 0, .int .i64 0, .int .i64 0, .int .i64 0] 32)) (.cells #[.int .i64 3, .string s, .int .i64 (at_ : Int), .int .i64 0, .int .i64 0, .int .i64 0, .int .i64 0, .int .i64 0, .int .i64 0] 32); rwa [World.size_alloc] at this⟩
  have B2 := Lib.hid (p := Below w.heap.size w w2) (by rw [← hw2]; exact ((Below.refl _ _).alloc (Nat.le_refl _) _).alloc (by simp) _)
  obtain ⟨x0, x1, x2, x3, x4, x5, x6, x7, x8, xf⟩ := RT.out.c
  obtain ⟨y0, y1, y2, y3, y4, y5, y6, y7, y8, yf⟩ := RZ.out.c
  have HW := Lib.hid hw2
  clear hw2
  have z0 : 0 < s.size := by omega
  have K1 := Lib.hid (fun W => rdigits_any s W (by omega))
  rw [ha, Bool.false_and] at K1
  have P1 := Lib.hid (p := (1 : Nat) = 1) rfl
  have hlen := lst_len s
  have s1 := cutTo s ((s.size : Int) - 1) (by omega) (by omega)
  rw [show (List.take ((s.size : Int) - 1).toNat (lst s)) = (lst s).dropLast by rw [List.dropLast_eq_take, hlen, show ((s.size : Int) - 1).toNat = s.size - 1 by omega]] at s1
  obtain ⟨sd, hsd⟩ : ∃ sd, bs (lst s).dropLast = sd := ⟨_, rfl⟩
  have ed : lst sd = (lst s).dropLast := by rw [← hsd, lst_bs]
  have zd : sd.size = s.size - 1 := by rw [← hsd, bs_size, List.length_dropLast, hlen]
  rw [hsd] at s1
  have K2 := Lib.hid (fun W => rdigits_any sd W (by omega))
  rw [ed] at K2
  have kw : IntKind.i64.wrap ((s.size : Int) - 1) = (s.size : Int) - 1 := by simp [IntKind.wrap, IntKind.bits, IntKind.signed]; omega
  have ES := bs_lst s
  rw [zd, hc.1] at K2
  have q1 : decide ((3 : Int) < (s.size : Int) - 1) = false := decide_eq_false (by have := hc.2.1; omega)
  have q3 : ((s[0].toNat : Int) == 48) = true := by rw [hc.2.2]; rfl
  have FIN := Lib.hid (RZ.out.set9 (.int .i64 0) (.string ⟨#[]⟩) (.int .i64 0) (.int .i64 0) (.int .i64 0) (.int .i64 0) (.int .i64 0) (.int .i64 0) (.int .i64 0))
  obtain ⟨r0, r1, r2, r3, r4, r5, r6, r7, r8, rf⟩ := FIN.out.c
  clear ha hc hlen hsd ed zd
  go_enter Tryd.func35, Tryd.ntmps35
  go_wp2_with (first | (go_at_call 44; have qq := P1; refine (K1.out _).mono ?_; rintro e w' ⟨rfl, hw⟩; rw [HW.out] at hw; have hw' := hw.symm; clear hw; subst hw'; clear P1) | (go_at_call 44; refine (K2.out _).mono ?_; rintro e w' ⟨rfl, hw⟩; have hw' := hw.symm; clear hw; subst hw'))
  exact bodyPost_ret (v := .tuple #[tokR tokR0, .int .i64 (at_ : Int), .int .i64 62]) (by simp [results, Tryd.results35, go_sem, tokR, tokR0, bs, r0, r1, r2, r3, r4, r5, r6, r7, r8]) rfl ⟨rfl, belowR9 B2.out (Nat.le_refl _) _ _ _ _ _ _ _ _ _⟩
set_option maxRecDepth 100000 in
set_option maxHeartbeats 2000000 in
theorem rnumbers_c0 (s : ByteArray) (at_ : Nat) (w : World) (h1 : 1 ≤ s.size) (hs : s.size ≤ 65536) (ha : allD (lst s) = false) (zz : 0 < s.size) (zl : s.size - 1 < s.size) (hc : (allD (lst s).dropLast && decide (0 < s.size - 1)) = true ∧ ¬ 3 < s.size - 1 ∧ s[0].toNat ≠ 48) (hx : s[s.size - 1].toNat = 100) :
    Calls Tryd.prog 35 #[.string s, .int .i64 (at_ : Int)] w fun e w' => e = trEnd ((⟨5, lst s, (at_ : Int), 0, 0, 0, 0, numR (lst s).dropLast, 1⟩, 0, 0)) ∧ Below w.heap.size w w' := by
  obtain ⟨w2, hw2⟩ : ∃ w2, (w.alloc (.cells #[.int .i64 0, .string ⟨#[]⟩, .int .i64 0, .int .i64 0, .int .i64 0, .int .i64 0, .int .i64 0, .int .i64 0, .int .i64 0] 32)).alloc (.cells #[.int .i64 3, .string s, .int .i64 (at_ : Int), .int .i64 0, .int .i64 0, .int .i64 0, .int .i64 0, .int .i64 0, .int .i64 0] 32) = w2 := ⟨_, rfl⟩
  have RZ := Lib.hid (p := RB w2 w.heap.size (.int .i64 0) (.string ⟨#[]⟩) (.int .i64 0) (.int .i64 0) (.int .i64 0) (.int .i64 0) (.int .i64 0) (.int .i64 0) (.int .i64 0)) ⟨by rw [← hw2]; exact (Below.heap_alloc _ _ _ (by simp)).trans (World.alloc_heap_new w _)⟩
  have RT := Lib.hid (p := RB w2 (w.heap.size + 1) (.int .i64 3) (.string s) (.int .i64 (at_ : Int)) (.int .i64 0) (.int .i64 0) (.int .i64 0) (.int .i64 0) (.int .i64 0) (.int .i64 0)) ⟨by rw [← hw2]; have := World.alloc_heap_new (w.alloc (.cells #[.int .i64 0, .string ⟨#[]⟩, .int .i64 0, .int .i64 0, .int .i64 0, .int .i64 0, .int .i64 0, .int .i64 0, .int .i64 0] 32)) (.cells #[.int .i64 3, .string s, .int .i64 (at_ : Int), .int .i64 0, .int .i64 0, .int .i64 0, .int .i64 0, .int .i64 0, .int .i64 0] 32); rwa [World.size_alloc] at this⟩
  have B2 := Lib.hid (p := Below w.heap.size w w2) (by rw [← hw2]; exact ((Below.refl _ _).alloc (Nat.le_refl _) _).alloc (by simp) _)
  obtain ⟨x0, x1, x2, x3, x4, x5, x6, x7, x8, xf⟩ := RT.out.c
  obtain ⟨y0, y1, y2, y3, y4, y5, y6, y7, y8, yf⟩ := RZ.out.c
  have HW := Lib.hid hw2
  clear hw2
  have z0 : 0 < s.size := by omega
  have K1 := Lib.hid (fun W => rdigits_any s W (by omega))
  rw [ha, Bool.false_and] at K1
  have P1 := Lib.hid (p := (1 : Nat) = 1) rfl
  have hlen := lst_len s
  have s1 := cutTo s ((s.size : Int) - 1) (by omega) (by omega)
  rw [show (List.take ((s.size : Int) - 1).toNat (lst s)) = (lst s).dropLast by rw [List.dropLast_eq_take, hlen, show ((s.size : Int) - 1).toNat = s.size - 1 by omega]] at s1
  obtain ⟨sd, hsd⟩ : ∃ sd, bs (lst s).dropLast = sd := ⟨_, rfl⟩
  have ed : lst sd = (lst s).dropLast := by rw [← hsd, lst_bs]
  have zd : sd.size = s.size - 1 := by rw [← hsd, bs_size, List.length_dropLast, hlen]
  rw [hsd] at s1
  have K2 := Lib.hid (fun W => rdigits_any sd W (by omega))
  rw [ed] at K2
  have kw : IntKind.i64.wrap ((s.size : Int) - 1) = (s.size : Int) - 1 := by simp [IntKind.wrap, IntKind.bits, IntKind.signed]; omega
  have ES := bs_lst s
  rw [zd, hc.1] at K2
  have q1 : decide ((3 : Int) < (s.size : Int) - 1) = false := decide_eq_false (by have := hc.2.1; omega)
  have q3 : ((s[0].toNat : Int) == 48) = false := by rw [beq_eq_false_iff_ne]; have := hc.2.2; omega
  have KN := Lib.hid (fun W => rnumber_any sd W (by omega) (by rw [ed]; have := hc.1; rw [Bool.and_eq_true] at this; exact this.1))
  rw [ed] at KN
  obtain ⟨V, hV⟩ : ∃ V, numR (lst s).dropLast = V := ⟨_, rfl⟩
  rw [hV] at KN
  rw [hV]
  obtain ⟨c, hcx⟩ : ∃ c : Nat, s[s.size - 1].toNat = c := ⟨_, rfl⟩
  rw [hcx] at hx
  subst hx
  have FIN := Lib.hid ((((RZ.out.other (g' := w.heap.size + 1) (i := 0) (by omega) (.int .i64 5)).other (g' := w.heap.size + 1) (i := 7) (by omega) (.int .i64 V)).other (g' := w.heap.size + 1) (i := 8) (by omega) (.int .i64 1)).set9 (.int .i64 5) (.string s) (.int .i64 (at_ : Int)) (.int .i64 0) (.int .i64 0) (.int .i64 0) (.int .i64 0) (.int .i64 V) (.int .i64 1))
  obtain ⟨r0, r1, r2, r3, r4, r5, r6, r7, r8, rf⟩ := FIN.out.c
  clear ha hc hlen hsd ed zd hV
  go_enter Tryd.func35, Tryd.ntmps35
  go_wp2_with (first | (go_at_call 44; have qq := P1; refine (K1.out _).mono ?_; rintro e w' ⟨rfl, hw⟩; rw [HW.out] at hw; have hw' := hw.symm; clear hw; subst hw'; clear P1) | (go_at_call 44; refine (K2.out _).mono ?_; rintro e w' ⟨rfl, hw⟩; have hw' := hw.symm; clear hw; subst hw') | (go_at_call 31; refine (KN.out _).mono ?_; rintro e w' ⟨rfl, hw⟩; have hw' := hw.symm; clear hw; subst hw'))
  exact bodyPost_ret (v := .tuple #[tokR ⟨5, lst s, (at_ : Int), 0, 0, 0, 0, V, 1⟩, .int .i64 0, .int .i64 0]) (by simp [results, Tryd.results35, go_sem, tokR, tokR0, ES, r0, r1, r2, r3, r4, r5, r6, r7, r8]) rfl ⟨rfl, belowR9 (((B2.out.setCell (p := ⟨w.heap.size + 1, 0, none⟩) (Nat.le_succ _) _).setCell (p := ⟨w.heap.size + 1, 7, none⟩) (Nat.le_succ _) _).setCell (p := ⟨w.heap.size + 1, 8, none⟩) (Nat.le_succ _) _) (Nat.le_refl _) _ _ _ _ _ _ _ _ _⟩
set_option maxRecDepth 100000 in
set_option maxHeartbeats 2000000 in
theorem rnumbers_c1 (s : ByteArray) (at_ : Nat) (w : World) (h1 : 1 ≤ s.size) (hs : s.size ≤ 65536) (ha : allD (lst s) = false) (zz : 0 < s.size) (zl : s.size - 1 < s.size) (hc : (allD (lst s).dropLast && decide (0 < s.size - 1)) = true ∧ ¬ 3 < s.size - 1 ∧ s[0].toNat ≠ 48) (hx : s[s.size - 1].toNat = 119) :
    Calls Tryd.prog 35 #[.string s, .int .i64 (at_ : Int)] w fun e w' => e = trEnd ((⟨5, lst s, (at_ : Int), 0, 0, 0, 0, numR (lst s).dropLast, 2⟩, 0, 0)) ∧ Below w.heap.size w w' := by
  obtain ⟨w2, hw2⟩ : ∃ w2, (w.alloc (.cells #[.int .i64 0, .string ⟨#[]⟩, .int .i64 0, .int .i64 0, .int .i64 0, .int .i64 0, .int .i64 0, .int .i64 0, .int .i64 0] 32)).alloc (.cells #[.int .i64 3, .string s, .int .i64 (at_ : Int), .int .i64 0, .int .i64 0, .int .i64 0, .int .i64 0, .int .i64 0, .int .i64 0] 32) = w2 := ⟨_, rfl⟩
  have RZ := Lib.hid (p := RB w2 w.heap.size (.int .i64 0) (.string ⟨#[]⟩) (.int .i64 0) (.int .i64 0) (.int .i64 0) (.int .i64 0) (.int .i64 0) (.int .i64 0) (.int .i64 0)) ⟨by rw [← hw2]; exact (Below.heap_alloc _ _ _ (by simp)).trans (World.alloc_heap_new w _)⟩
  have RT := Lib.hid (p := RB w2 (w.heap.size + 1) (.int .i64 3) (.string s) (.int .i64 (at_ : Int)) (.int .i64 0) (.int .i64 0) (.int .i64 0) (.int .i64 0) (.int .i64 0) (.int .i64 0)) ⟨by rw [← hw2]; have := World.alloc_heap_new (w.alloc (.cells #[.int .i64 0, .string ⟨#[]⟩, .int .i64 0, .int .i64 0, .int .i64 0, .int .i64 0, .int .i64 0, .int .i64 0, .int .i64 0] 32)) (.cells #[.int .i64 3, .string s, .int .i64 (at_ : Int), .int .i64 0, .int .i64 0, .int .i64 0, .int .i64 0, .int .i64 0, .int .i64 0] 32); rwa [World.size_alloc] at this⟩
  have B2 := Lib.hid (p := Below w.heap.size w w2) (by rw [← hw2]; exact ((Below.refl _ _).alloc (Nat.le_refl _) _).alloc (by simp) _)
  obtain ⟨x0, x1, x2, x3, x4, x5, x6, x7, x8, xf⟩ := RT.out.c
  obtain ⟨y0, y1, y2, y3, y4, y5, y6, y7, y8, yf⟩ := RZ.out.c
  have HW := Lib.hid hw2
  clear hw2
  have z0 : 0 < s.size := by omega
  have K1 := Lib.hid (fun W => rdigits_any s W (by omega))
  rw [ha, Bool.false_and] at K1
  have P1 := Lib.hid (p := (1 : Nat) = 1) rfl
  have hlen := lst_len s
  have s1 := cutTo s ((s.size : Int) - 1) (by omega) (by omega)
  rw [show (List.take ((s.size : Int) - 1).toNat (lst s)) = (lst s).dropLast by rw [List.dropLast_eq_take, hlen, show ((s.size : Int) - 1).toNat = s.size - 1 by omega]] at s1
  obtain ⟨sd, hsd⟩ : ∃ sd, bs (lst s).dropLast = sd := ⟨_, rfl⟩
  have ed : lst sd = (lst s).dropLast := by rw [← hsd, lst_bs]
  have zd : sd.size = s.size - 1 := by rw [← hsd, bs_size, List.length_dropLast, hlen]
  rw [hsd] at s1
  have K2 := Lib.hid (fun W => rdigits_any sd W (by omega))
  rw [ed] at K2
  have kw : IntKind.i64.wrap ((s.size : Int) - 1) = (s.size : Int) - 1 := by simp [IntKind.wrap, IntKind.bits, IntKind.signed]; omega
  have ES := bs_lst s
  rw [zd, hc.1] at K2
  have q1 : decide ((3 : Int) < (s.size : Int) - 1) = false := decide_eq_false (by have := hc.2.1; omega)
  have q3 : ((s[0].toNat : Int) == 48) = false := by rw [beq_eq_false_iff_ne]; have := hc.2.2; omega
  have KN := Lib.hid (fun W => rnumber_any sd W (by omega) (by rw [ed]; have := hc.1; rw [Bool.and_eq_true] at this; exact this.1))
  rw [ed] at KN
  obtain ⟨V, hV⟩ : ∃ V, numR (lst s).dropLast = V := ⟨_, rfl⟩
  rw [hV] at KN
  rw [hV]
  obtain ⟨c, hcx⟩ : ∃ c : Nat, s[s.size - 1].toNat = c := ⟨_, rfl⟩
  rw [hcx] at hx
  subst hx
  have FIN := Lib.hid ((((RZ.out.other (g' := w.heap.size + 1) (i := 0) (by omega) (.int .i64 5)).other (g' := w.heap.size + 1) (i := 7) (by omega) (.int .i64 V)).other (g' := w.heap.size + 1) (i := 8) (by omega) (.int .i64 2)).set9 (.int .i64 5) (.string s) (.int .i64 (at_ : Int)) (.int .i64 0) (.int .i64 0) (.int .i64 0) (.int .i64 0) (.int .i64 V) (.int .i64 2))
  obtain ⟨r0, r1, r2, r3, r4, r5, r6, r7, r8, rf⟩ := FIN.out.c
  clear ha hc hlen hsd ed zd hV
  go_enter Tryd.func35, Tryd.ntmps35
  go_wp2_with (first | (go_at_call 44; have qq := P1; refine (K1.out _).mono ?_; rintro e w' ⟨rfl, hw⟩; rw [HW.out] at hw; have hw' := hw.symm; clear hw; subst hw'; clear P1) | (go_at_call 44; refine (K2.out _).mono ?_; rintro e w' ⟨rfl, hw⟩; have hw' := hw.symm; clear hw; subst hw') | (go_at_call 31; refine (KN.out _).mono ?_; rintro e w' ⟨rfl, hw⟩; have hw' := hw.symm; clear hw; subst hw'))
  exact bodyPost_ret (v := .tuple #[tokR ⟨5, lst s, (at_ : Int), 0, 0, 0, 0, V, 2⟩, .int .i64 0, .int .i64 0]) (by simp [results, Tryd.results35, go_sem, tokR, tokR0, ES, r0, r1, r2, r3, r4, r5, r6, r7, r8]) rfl ⟨rfl, belowR9 (((B2.out.setCell (p := ⟨w.heap.size + 1, 0, none⟩) (Nat.le_succ _) _).setCell (p := ⟨w.heap.size + 1, 7, none⟩) (Nat.le_succ _) _).setCell (p := ⟨w.heap.size + 1, 8, none⟩) (Nat.le_succ _) _) (Nat.le_refl _) _ _ _ _ _ _ _ _ _⟩
set_option maxRecDepth 100000 in
set_option maxHeartbeats 2000000 in
theorem rnumbers_c2 (s : ByteArray) (at_ : Nat) (w : World) (h1 : 1 ≤ s.size) (hs : s.size ≤ 65536) (ha : allD (lst s) = false) (zz : 0 < s.size) (zl : s.size - 1 < s.size) (hc : (allD (lst s).dropLast && decide (0 < s.size - 1)) = true ∧ ¬ 3 < s.size - 1 ∧ s[0].toNat ≠ 48) (hx : s[s.size - 1].toNat = 109) :
    Calls Tryd.prog 35 #[.string s, .int .i64 (at_ : Int)] w fun e w' => e = trEnd ((⟨5, lst s, (at_ : Int), 0, 0, 0, 0, numR (lst s).dropLast, 3⟩, 0, 0)) ∧ Below w.heap.size w w' := by
  obtain ⟨w2, hw2⟩ : ∃ w2, (w.alloc (.cells #[.int .i64 0, .string ⟨#[]⟩, .int .i64 0, .int .i64 0, .int .i64 0, .int .i64 0, .int .i64 0, .int .i64 0, .int .i64 0] 32)).alloc (.cells #[.int .i64 3, .string s, .int .i64 (at_ : Int), .int .i64 0, .int .i64 0, .int .i64 0, .int .i64 0, .int .i64 0, .int .i64 0] 32) = w2 := ⟨_, rfl⟩
  have RZ := Lib.hid (p := RB w2 w.heap.size (.int .i64 0) (.string ⟨#[]⟩) (.int .i64 0) (.int .i64 0) (.int .i64 0) (.int .i64 0) (.int .i64 0) (.int .i64 0) (.int .i64 0)) ⟨by rw [← hw2]; exact (Below.heap_alloc _ _ _ (by simp)).trans (World.alloc_heap_new w _)⟩
  have RT := Lib.hid (p := RB w2 (w.heap.size + 1) (.int .i64 3) (.string s) (.int .i64 (at_ : Int)) (.int .i64 0) (.int .i64 0) (.int .i64 0) (.int .i64 0) (.int .i64 0) (.int .i64 0)) ⟨by rw [← hw2]; have := World.alloc_heap_new (w.alloc (.cells #[.int .i64 0, .string ⟨#[]⟩, .int .i64 0, .int .i64 0, .int .i64 0, .int .i64 0, .int .i64 0, .int .i64 0, .int .i64 0] 32)) (.cells #[.int .i64 3, .string s, .int .i64 (at_ : Int), .int .i64 0, .int .i64 0, .int .i64 0, .int .i64 0, .int .i64 0, .int .i64 0] 32); rwa [World.size_alloc] at this⟩
  have B2 := Lib.hid (p := Below w.heap.size w w2) (by rw [← hw2]; exact ((Below.refl _ _).alloc (Nat.le_refl _) _).alloc (by simp) _)
  obtain ⟨x0, x1, x2, x3, x4, x5, x6, x7, x8, xf⟩ := RT.out.c
  obtain ⟨y0, y1, y2, y3, y4, y5, y6, y7, y8, yf⟩ := RZ.out.c
  have HW := Lib.hid hw2
  clear hw2
  have z0 : 0 < s.size := by omega
  have K1 := Lib.hid (fun W => rdigits_any s W (by omega))
  rw [ha, Bool.false_and] at K1
  have P1 := Lib.hid (p := (1 : Nat) = 1) rfl
  have hlen := lst_len s
  have s1 := cutTo s ((s.size : Int) - 1) (by omega) (by omega)
  rw [show (List.take ((s.size : Int) - 1).toNat (lst s)) = (lst s).dropLast by rw [List.dropLast_eq_take, hlen, show ((s.size : Int) - 1).toNat = s.size - 1 by omega]] at s1
  obtain ⟨sd, hsd⟩ : ∃ sd, bs (lst s).dropLast = sd := ⟨_, rfl⟩
  have ed : lst sd = (lst s).dropLast := by rw [← hsd, lst_bs]
  have zd : sd.size = s.size - 1 := by rw [← hsd, bs_size, List.length_dropLast, hlen]
  rw [hsd] at s1
  have K2 := Lib.hid (fun W => rdigits_any sd W (by omega))
  rw [ed] at K2
  have kw : IntKind.i64.wrap ((s.size : Int) - 1) = (s.size : Int) - 1 := by simp [IntKind.wrap, IntKind.bits, IntKind.signed]; omega
  have ES := bs_lst s
  rw [zd, hc.1] at K2
  have q1 : decide ((3 : Int) < (s.size : Int) - 1) = false := decide_eq_false (by have := hc.2.1; omega)
  have q3 : ((s[0].toNat : Int) == 48) = false := by rw [beq_eq_false_iff_ne]; have := hc.2.2; omega
  have KN := Lib.hid (fun W => rnumber_any sd W (by omega) (by rw [ed]; have := hc.1; rw [Bool.and_eq_true] at this; exact this.1))
  rw [ed] at KN
  obtain ⟨V, hV⟩ : ∃ V, numR (lst s).dropLast = V := ⟨_, rfl⟩
  rw [hV] at KN
  rw [hV]
  obtain ⟨c, hcx⟩ : ∃ c : Nat, s[s.size - 1].toNat = c := ⟨_, rfl⟩
  rw [hcx] at hx
  subst hx
  have FIN := Lib.hid ((((RZ.out.other (g' := w.heap.size + 1) (i := 0) (by omega) (.int .i64 5)).other (g' := w.heap.size + 1) (i := 7) (by omega) (.int .i64 V)).other (g' := w.heap.size + 1) (i := 8) (by omega) (.int .i64 3)).set9 (.int .i64 5) (.string s) (.int .i64 (at_ : Int)) (.int .i64 0) (.int .i64 0) (.int .i64 0) (.int .i64 0) (.int .i64 V) (.int .i64 3))
  obtain ⟨r0, r1, r2, r3, r4, r5, r6, r7, r8, rf⟩ := FIN.out.c
  clear ha hc hlen hsd ed zd hV
  go_enter Tryd.func35, Tryd.ntmps35
  go_wp2_with (first | (go_at_call 44; have qq := P1; refine (K1.out _).mono ?_; rintro e w' ⟨rfl, hw⟩; rw [HW.out] at hw; have hw' := hw.symm; clear hw; subst hw'; clear P1) | (go_at_call 44; refine (K2.out _).mono ?_; rintro e w' ⟨rfl, hw⟩; have hw' := hw.symm; clear hw; subst hw') | (go_at_call 31; refine (KN.out _).mono ?_; rintro e w' ⟨rfl, hw⟩; have hw' := hw.symm; clear hw; subst hw'))
  exact bodyPost_ret (v := .tuple #[tokR ⟨5, lst s, (at_ : Int), 0, 0, 0, 0, V, 3⟩, .int .i64 0, .int .i64 0]) (by simp [results, Tryd.results35, go_sem, tokR, tokR0, ES, r0, r1, r2, r3, r4, r5, r6, r7, r8]) rfl ⟨rfl, belowR9 (((B2.out.setCell (p := ⟨w.heap.size + 1, 0, none⟩) (Nat.le_succ _) _).setCell (p := ⟨w.heap.size + 1, 7, none⟩) (Nat.le_succ _) _).setCell (p := ⟨w.heap.size + 1, 8, none⟩) (Nat.le_succ _) _) (Nat.le_refl _) _ _ _ _ _ _ _ _ _⟩
set_option maxRecDepth 100000 in
set_option maxHeartbeats 2000000 in
theorem rnumbers_c3 (s : ByteArray) (at_ : Nat) (w : World) (h1 : 1 ≤ s.size) (hs : s.size ≤ 65536) (ha : allD (lst s) = false) (zz : 0 < s.size) (zl : s.size - 1 < s.size) (hc : (allD (lst s).dropLast && decide (0 < s.size - 1)) = true ∧ ¬ 3 < s.size - 1 ∧ s[0].toNat ≠ 48) (hx : s[s.size - 1].toNat = 121) :
    Calls Tryd.prog 35 #[.string s, .int .i64 (at_ : Int)] w fun e w' => e = trEnd ((⟨5, lst s, (at_ : Int), 0, 0, 0, 0, numR (lst s).dropLast, 4⟩, 0, 0)) ∧ Below w.heap.size w w' := by
  obtain ⟨w2, hw2⟩ : ∃ w2, (w.alloc (.cells #[.int .i64 0, .string ⟨#[]⟩, .int .i64 0, .int .i64 0, .int .i64 0, .int .i64 0, .int .i64 0, .int .i64 0, .int .i64 0] 32)).alloc (.cells #[.int .i64 3, .string s, .int .i64 (at_ : Int), .int .i64 0, .int .i64 0, .int .i64 0, .int .i64 0, .int .i64 0, .int .i64 0] 32) = w2 := ⟨_, rfl⟩
  have RZ := Lib.hid (p := RB w2 w.heap.size (.int .i64 0) (.string ⟨#[]⟩) (.int .i64 0) (.int .i64 0) (.int .i64 0) (.int .i64 0) (.int .i64 0) (.int .i64 0) (.int .i64 0)) ⟨by rw [← hw2]; exact (Below.heap_alloc _ _ _ (by simp)).trans (World.alloc_heap_new w _)⟩
  have RT := Lib.hid (p := RB w2 (w.heap.size + 1) (.int .i64 3) (.string s) (.int .i64 (at_ : Int)) (.int .i64 0) (.int .i64 0) (.int .i64 0) (.int .i64 0) (.int .i64 0) (.int .i64 0)) ⟨by rw [← hw2]; have := World.alloc_heap_new (w.alloc (.cells #[.int .i64 0, .string ⟨#[]⟩, .int .i64 0, .int .i64 0, .int .i64 0, .int .i64 0, .int .i64 0, .int .i64 0, .int .i64 0] 32)) (.cells #[.int .i64 3, .string s, .int .i64 (at_ : Int), .int .i64 0, .int .i64 0, .int .i64 0, .int .i64 0, .int .i64 0, .int .i64 0] 32); rwa [World.size_alloc] at this⟩
  have B2 := Lib.hid (p := Below w.heap.size w w2) (by rw [← hw2]; exact ((Below.refl _ _).alloc (Nat.le_refl _) _).alloc (by simp) _)
  obtain ⟨x0, x1, x2, x3, x4, x5, x6, x7, x8, xf⟩ := RT.out.c
  obtain ⟨y0, y1, y2, y3, y4, y5, y6, y7, y8, yf⟩ := RZ.out.c
  have HW := Lib.hid hw2
  clear hw2
  have z0 : 0 < s.size := by omega
  have K1 := Lib.hid (fun W => rdigits_any s W (by omega))
  rw [ha, Bool.false_and] at K1
  have P1 := Lib.hid (p := (1 : Nat) = 1) rfl
  have hlen := lst_len s
  have s1 := cutTo s ((s.size : Int) - 1) (by omega) (by omega)
  rw [show (List.take ((s.size : Int) - 1).toNat (lst s)) = (lst s).dropLast by rw [List.dropLast_eq_take, hlen, show ((s.size : Int) - 1).toNat = s.size - 1 by omega]] at s1
  obtain ⟨sd, hsd⟩ : ∃ sd, bs (lst s).dropLast = sd := ⟨_, rfl⟩
  have ed : lst sd = (lst s).dropLast := by rw [← hsd, lst_bs]
  have zd : sd.size = s.size - 1 := by rw [← hsd, bs_size, List.length_dropLast, hlen]
  rw [hsd] at s1
  have K2 := Lib.hid (fun W => rdigits_any sd W (by omega))
  rw [ed] at K2
  have kw : IntKind.i64.wrap ((s.size : Int) - 1) = (s.size : Int) - 1 := by simp [IntKind.wrap, IntKind.bits, IntKind.signed]; omega
  have ES := bs_lst s
  rw [zd, hc.1] at K2
  have q1 : decide ((3 : Int) < (s.size : Int) - 1) = false := decide_eq_false (by have := hc.2.1; omega)
  have q3 : ((s[0].toNat : Int) == 48) = false := by rw [beq_eq_false_iff_ne]; have := hc.2.2; omega
  have KN := Lib.hid (fun W => rnumber_any sd W (by omega) (by rw [ed]; have := hc.1; rw [Bool.and_eq_true] at this; exact this.1))
  rw [ed] at KN
  obtain ⟨V, hV⟩ : ∃ V, numR (lst s).dropLast = V := ⟨_, rfl⟩
  rw [hV] at KN
  rw [hV]
  obtain ⟨c, hcx⟩ : ∃ c : Nat, s[s.size - 1].toNat = c := ⟨_, rfl⟩
  rw [hcx] at hx
  subst hx
  have FIN := Lib.hid ((((RZ.out.other (g' := w.heap.size + 1) (i := 0) (by omega) (.int .i64 5)).other (g' := w.heap.size + 1) (i := 7) (by omega) (.int .i64 V)).other (g' := w.heap.size + 1) (i := 8) (by omega) (.int .i64 4)).set9 (.int .i64 5) (.string s) (.int .i64 (at_ : Int)) (.int .i64 0) (.int .i64 0) (.int .i64 0) (.int .i64 0) (.int .i64 V) (.int .i64 4))
  obtain ⟨r0, r1, r2, r3, r4, r5, r6, r7, r8, rf⟩ := FIN.out.c
  clear ha hc hlen hsd ed zd hV
  go_enter Tryd.func35, Tryd.ntmps35
  go_wp2_with (first | (go_at_call 44; have qq := P1; refine (K1.out _).mono ?_; rintro e w' ⟨rfl, hw⟩; rw [HW.out] at hw; have hw' := hw.symm; clear hw; subst hw'; clear P1) | (go_at_call 44; refine (K2.out _).mono ?_; rintro e w' ⟨rfl, hw⟩; have hw' := hw.symm; clear hw; subst hw') | (go_at_call 31; refine (KN.out _).mono ?_; rintro e w' ⟨rfl, hw⟩; have hw' := hw.symm; clear hw; subst hw'))
  exact bodyPost_ret (v := .tuple #[tokR ⟨5, lst s, (at_ : Int), 0, 0, 0, 0, V, 4⟩, .int .i64 0, .int .i64 0]) (by simp [results, Tryd.results35, go_sem, tokR, tokR0, ES, r0, r1, r2, r3, r4, r5, r6, r7, r8]) rfl ⟨rfl, belowR9 (((B2.out.setCell (p := ⟨w.heap.size + 1, 0, none⟩) (Nat.le_succ _) _).setCell (p := ⟨w.heap.size + 1, 7, none⟩) (Nat.le_succ _) _).setCell (p := ⟨w.heap.size + 1, 8, none⟩) (Nat.le_succ _) _) (Nat.le_refl _) _ _ _ _ _ _ _ _ _⟩
end Go.Proofs.YtlihkmhhfnkkoaaDoor
