/-
  WALK: the document's numbers, a letter that is no unit.
-/
import Derived.Test.YtlihkmhhfnkkoaaDoorWRefLex5
namespace Go.Proofs.YtlihkmhhfnkkoaaDoor
open Go.RowKit Lx
set_option linter.unusedVariables false
set_option linter.unusedSimpArgs false

set_option maxRecDepth 100000 in
set_option maxHeartbeats 800000 in
theorem rnumbers_c9 (s : ByteArray) (at_ : Nat) (w : World) (h1 : 1 ≤ s.size) (hs : s.size ≤ 65536) (ha : allD (lst s) = false) (zz : 0 < s.size) (zl : s.size - 1 < s.size) (hc : (allD (lst s).dropLast && decide (0 < s.size - 1)) = true ∧ ¬ 3 < s.size - 1 ∧ s[0].toNat ≠ 48) (hx : s[s.size - 1].toNat ≠ 100 ∧ s[s.size - 1].toNat ≠ 119 ∧ s[s.size - 1].toNat ≠ 109 ∧ s[s.size - 1].toNat ≠ 121) :
    Calls Tryd.prog 35 #[.string s, .int .i64 (at_ : Int)] w fun e w' => e = trEnd ((tokR0, (at_ : Int), 62)) ∧ Below w.heap.size w w' := by
  obtain ⟨w2, hw2⟩ : ∃ w2, (w.alloc (.cells #[.int .i64 0, .string ⟨#[]⟩, .int .i64 0, .int .i64 0, .int .i64 0, .int .i64 0, .int .i64 0, .int .i64 0, .int .i64 0] 32)).alloc (.cells #[.int .i64 3, .string s, .int .i64 (at_ : Int), .int .i64 0, .int .i64 0, .int .i64 0, .int .i64 0, .int .i64 0, .int .i64 0] 32) = w2 := ⟨_, rfl⟩
  have RZ := Lib.hid (p := RB w2 w.heap.size (.int .i64 0) (.string ⟨#[]⟩) (.int .i64 0) (.int .i64 0) (.int .i64 0) (.int .i64 0) (.int .i64 0) (.int .i64 0) (.int .i64 0)) ⟨by rw [← hw2]; exact (Below.heap_alloc _ _ _ (by simp)).trans (World.alloc_heap_new w _)⟩
  have RT := Lib.hid (p := RB w2 (w.heap.size + 1) (.int .i64 3) (.string s) (.int .i64 (at_ : Int)) (.int .i64 0) (.int .i64 0) (.int .i64 0) (.int .i64 0) (.int .i64 0) (.int .i64 0)) ⟨by rw [← hw2]; have := World.alloc_heap_new (w.alloc (.cells #[.int .i64 0, .string ⟨#[]⟩, .int .i64 0, .int .i64 0, .int .i64 0, .int .i64 0, .int .i64 0, .int .i64 0, .int .i64 0] 32)) (.cells #[.int .i64 3, .string s, .int .i64 (at_ : Int), .int .i64 0, .int .i64 0, .int .i64 0, .int .i64 0, .int .i64 0, .int .i64 0] 32); rwa [World.size_alloc] at this⟩
  have B2 := Lib.hid (p := Below w.heap.size w w2) (by rw [← hw2]; exact ((Below.refl _ _).alloc (Nat.le_refl _) _).alloc (by simp) _)
  obtain ⟨x0, x1, x2, x3, x4, x5, x6, x7, x8, xf⟩ := RT.out.c
  obtain ⟨y0, y1, y2, y3, y4, y5, y6, y7, y8, yf⟩ := RZ.out.c
  have HW := Lib.hid hw2
  clear hw2
  have z0 : 0 < s.size := by omega
  have K1 := Lib.hid (fun W => rdigits_any s W (by omega))
  rw [ha, Bool.false_and] at K1
  have P1 := Lib.hid (p := (1 : Nat) = 1) rfl
  have hlen := lst_len s
  have s1 := cutTo s ((s.size : Int) - 1) (by omega) (by omega)
  rw [show (List.take ((s.size : Int) - 1).toNat (lst s)) = (lst s).dropLast by rw [List.dropLast_eq_take, hlen, show ((s.size : Int) - 1).toNat = s.size - 1 by omega]] at s1
  obtain ⟨sd, hsd⟩ : ∃ sd, bs (lst s).dropLast = sd := ⟨_, rfl⟩
  have ed : lst sd = (lst s).dropLast := by rw [← hsd, lst_bs]
  have zd : sd.size = s.size - 1 := by rw [← hsd, bs_size, List.length_dropLast, hlen]
  rw [hsd] at s1
  have K2 := Lib.hid (fun W => rdigits_any sd W (by omega))
  rw [ed] at K2
  have kw : IntKind.i64.wrap ((s.size : Int) - 1) = (s.size : Int) - 1 := by simp [IntKind.wrap, IntKind.bits, IntKind.signed]; omega
  have ES := bs_lst s
  rw [zd, hc.1] at K2
  have q1 : decide ((3 : Int) < (s.size : Int) - 1) = false := decide_eq_false (by have := hc.2.1; omega)
  have q3 : ((s[0].toNat : Int) == 48) = false := by rw [beq_eq_false_iff_ne]; have := hc.2.2; omega
  have KN := Lib.hid (fun W => rnumber_any sd W (by omega) (by rw [ed]; have := hc.1; rw [Bool.and_eq_true] at this; exact this.1))
  rw [ed] at KN
  obtain ⟨V, hV⟩ : ∃ V, numR (lst s).dropLast = V := ⟨_, rfl⟩
  rw [hV] at KN
  obtain ⟨c, hcx⟩ : ∃ c : Nat, s[s.size - 1].toNat = c := ⟨_, rfl⟩
  rw [hcx] at hx
  have l100 : ¬ (s[s.size - 1].toNat : Int) = 100 := by have := hx; omega
  have l119 : ¬ (s[s.size - 1].toNat : Int) = 119 := by have := hx; omega
  have l109 : ¬ (s[s.size - 1].toNat : Int) = 109 := by have := hx; omega
  have l121 : ¬ (s[s.size - 1].toNat : Int) = 121 := by have := hx; omega
  have m100 : ((c : Int) == 100) = false := by rw [beq_eq_false_iff_ne]; have := hx; omega
  have n100 : ((s[s.size - 1].toNat : Int) == 100) = false := by rw [hcx]; exact m100
  have m119 : ((c : Int) == 119) = false := by rw [beq_eq_false_iff_ne]; have := hx; omega
  have n119 : ((s[s.size - 1].toNat : Int) == 119) = false := by rw [hcx]; exact m119
  have m109 : ((c : Int) == 109) = false := by rw [beq_eq_false_iff_ne]; have := hx; omega
  have n109 : ((s[s.size - 1].toNat : Int) == 109) = false := by rw [hcx]; exact m109
  have m121 : ((c : Int) == 121) = false := by rw [beq_eq_false_iff_ne]; have := hx; omega
  have n121 : ((s[s.size - 1].toNat : Int) == 121) = false := by rw [hcx]; exact m121
  obtain ⟨k100, k119, k109, k121⟩ := hx
  clear ha hc hlen hsd ed zd hV l100 l119 l109 l121 n100 n119 n109 n121
  go_enter Tryd.func35, Tryd.ntmps35
  go_wp2_with (first | (go_at_call 44; have qq := P1; refine (K1.out _).mono ?_; rintro e w' ⟨rfl, hw⟩; rw [HW.out] at hw; have hw' := hw.symm; clear hw; subst hw'; clear P1) | (go_at_call 44; refine (K2.out _).mono ?_; rintro e w' ⟨rfl, hw⟩; have hw' := hw.symm; clear hw; subst hw'))
  go_at_call 31
  refine (KN.out _).mono ?_
  rintro e w' ⟨rfl, hw⟩
  have R0 := Lib.hid (p := RB w' w.heap.size (.int .i64 0) (.string ⟨#[]⟩) (.int .i64 0) (.int .i64 0) (.int .i64 0) (.int .i64 0) (.int .i64 0) (.int .i64 0) (.int .i64 0)) (by rw [hw]; exact RZ.out.other (g' := w.heap.size + 1) (i := 0) (by omega) _)
  have R1 := Lib.hid (p := w'.cell? ⟨w.heap.size + 1, 7, none⟩ = some (.int .i64 0) ∧ w'.frozen? ⟨w.heap.size + 1, 7, none⟩ = false) (by rw [hw]; exact ⟨(World.cell?_setCell_other _ ⟨w.heap.size + 1, 0, none⟩ ⟨w.heap.size + 1, 7, none⟩ _ (by intro e; injection e with _ e _; cases e)).trans x7, (World.frozen?_setCell ..).trans (xf 7)⟩)
  have B3 := Lib.hid (p := Below w.heap.size w w') (by rw [hw]; exact B2.out.setCell (p := ⟨w.heap.size + 1, 0, none⟩) (Nat.le_succ _) _)
  have FIN := Lib.hid ((R0.out.other (g' := w.heap.size + 1) (i := 7) (by omega) (.int .i64 V)).set9 (.int .i64 0) (.string ⟨#[]⟩) (.int .i64 0) (.int .i64 0) (.int .i64 0) (.int .i64 0) (.int .i64 0) (.int .i64 0) (.int .i64 0))
  obtain ⟨r0, r1, r2, r3, r4, r5, r6, r7, r8, rf⟩ := FIN.out.c
  clear x0 x1 x2 x3 x4 x5 x6 x7 x8 xf y0 y1 y2 y3 y4 y5 y6 y7 y8 yf hw
  obtain ⟨y0, y1, y2, y3, y4, y5, y6, y7, y8, yf⟩ := R0.out.c
  obtain ⟨x7, xf⟩ := R1.out
  go_wp2
  exact bodyPost_ret (v := .tuple #[tokR tokR0, .int .i64 (at_ : Int), .int .i64 62]) (by simp [results, Tryd.results35, go_sem, tokR, tokR0, bs, r0, r1, r2, r3, r4, r5, r6, r7, r8]) rfl ⟨rfl, belowR9 (B3.out.setCell (p := ⟨w.heap.size + 1, 7, none⟩) (Nat.le_succ _) _) (Nat.le_refl _) _ _ _ _ _ _ _ _ _⟩
end Go.Proofs.YtlihkmhhfnkkoaaDoor
