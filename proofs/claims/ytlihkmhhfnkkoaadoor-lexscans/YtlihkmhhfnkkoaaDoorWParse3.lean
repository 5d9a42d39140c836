/-
  WALKS: Parse (the program's and the document's).
-/
import Derived.Test.YtlihkmhhfnkkoaaDoorWParse2
namespace Go.Proofs.YtlihkmhhfnkkoaaDoor
open Go.RowKit
open Cal
set_option linter.unusedVariables false
set_option linter.unusedSimpArgs false

theorem cutA (s : ByteArray) (h : s.size = 10) (W : World) : (Instr.slice 9 (.string s) none (some (.int .i64 4)) none).run Tryd.prog W = .ok (.string (s.extract 0 4)) W := by
  rw [run_slice_string_h W 9 s (by kernel_rfl) .i64 4 (by omega) (by omega)]; rfl
theorem cutB (s : ByteArray) (h : s.size = 10) (W : World) : (Instr.slice 9 (.string s) (some (.int .i64 5)) (some (.int .i64 7)) none).run Tryd.prog W = .ok (.string (s.extract 5 7)) W := by
  rw [run_slice_string W 9 s .i64 .i64 5 7 (by kernel_rfl) (by omega) (by omega) (by omega)]; rfl
theorem cutC (s : ByteArray) (h : s.size = 10) (W : World) : (Instr.slice 9 (.string s) (some (.int .i64 8)) none none).run Tryd.prog W = .ok (.string (s.extract 8 10)) W := by
  rw [run_slice_string_l W 9 s (by kernel_rfl) .i64 8 (by omega) (by omega), h]; rfl

theorem parse_unshaped (s : ByteArray) (w : World) (hs : s.size ≤ 9223372036854775807) (h : shB s = false) :
    Calls Tryd.prog 24 #[.string s] w fun e w' => e = .returned (.tuple #[.agg #[.int .i64 0, .int .i64 0, .int .i64 0], .int .i64 21]) ∧ Below w.heap.size w w' := by
  go_enter Tryd.func24, Tryd.ntmps24
  go_wp2_with (go_at_call 39; refine (shaped_any _ _ hs).mono ?_; rintro e w' ⟨rfl, rfl⟩; rw [h])
  exact bodyPost_ret (v := .tuple #[.agg #[.int .i64 0, .int .i64 0, .int .i64 0], .int .i64 21]) (by simp [results, Tryd.results24, go_sem]) rfl ⟨rfl, (Below.refl _ _).alloc (Nat.le_refl _) _⟩

/-- Two boxes, the first for the answer. -/
structure InP (w w2 : World) (y m d : Int) : Prop where
  c0 : w2.cell? ⟨w.heap.size, 0, none⟩ = some (.int .i64 0)
  c1 : w2.cell? ⟨w.heap.size, 1, none⟩ = some (.int .i64 0)
  c2 : w2.cell? ⟨w.heap.size, 2, none⟩ = some (.int .i64 0)
  c3 : w2.cell? ⟨w.heap.size + 1, 0, none⟩ = some (.int .i64 y)
  c4 : w2.cell? ⟨w.heap.size + 1, 1, none⟩ = some (.int .i64 m)
  c5 : w2.cell? ⟨w.heap.size + 1, 2, none⟩ = some (.int .i64 d)
  f0 : w2.frozen? ⟨w.heap.size, 0, none⟩ = false
  f1 : w2.frozen? ⟨w.heap.size, 1, none⟩ = false
  f2 : w2.frozen? ⟨w.heap.size, 2, none⟩ = false
  sz : w.heap.size + 1 < w2.heap.size
theorem boxesP {w w2 : World} {t : TypeId} {y m d : Int}
    (hb : Below ((w.alloc (.cells #[.int .i64 0, .int .i64 0, .int .i64 0] t)).alloc (.cells #[.int .i64 y, .int .i64 m, .int .i64 d] t)).drew.heap.size ((w.alloc (.cells #[.int .i64 0, .int .i64 0, .int .i64 0] t)).alloc (.cells #[.int .i64 y, .int .i64 m, .int .i64 d] t)).drew w2) : InP w w2 y m d := by
  obtain ⟨hc, hf⟩ := bcell hb
  refine ⟨?_, ?_, ?_, ?_, ?_, ?_, ?_, ?_, ?_, ?_⟩
  all_goals first
    | (rw [hc _ _ (by simp <;> omega)]; go_simp; done)
    | (rw [hf _ _ (by simp <;> omega)]; go_simp; done)
    | (have := hb.size; simp at this; omega)
theorem mon_dr {w : World} (h : Mon w) : Mon w.drew := by
  refine ⟨by simpa using h.1, fun k hk => ?_⟩
  have := h.2 k hk
  simpa using this

set_option maxHeartbeats 1000000 in
theorem parse_yes (s : ByteArray) (w : World) (hM : Mon w) (h : shB s = true) (hE : exB (dv (fA s)) (dv (fB s)) (dv (fC s)) = true) :
    Calls Tryd.prog 24 #[.string s] w fun e w' => e = .returned (.tuple #[.agg #[.int .i64 (dv (fA s)), .int .i64 (dv (fB s)), .int .i64 (dv (fC s))], .int .i64 0]) ∧ Below w.heap.size w w' := by
  obtain ⟨h10, _⟩ := sh_out h
  obtain ⟨dA, dB, dC, _, _⟩ := sh_digs h
  have DA := Lib.hid (fun w => digits_any (s.extract 0 4) w (by rw [ByteArray.size_extract]; omega) dA)
  have DB := Lib.hid (fun w => digits_any (s.extract 5 7) w (by rw [ByteArray.size_extract]; omega) dB)
  have DC := Lib.hid (fun w => digits_any (s.extract 8 10) w (by rw [ByteArray.size_extract]; omega) dC)
  have SH := Lib.hid (fun w => shaped_any s w (by omega))
  rw [h] at SH
  change Hid (∀ w, Calls Tryd.prog 40 #[.string (s.extract 0 4)] w fun e w' => e = .returned (.int .i64 (dv (fA s))) ∧ w' = w) at DA
  change Hid (∀ w, Calls Tryd.prog 40 #[.string (s.extract 5 7)] w fun e w' => e = .returned (.int .i64 (dv (fB s))) ∧ w' = w) at DB
  change Hid (∀ w, Calls Tryd.prog 40 #[.string (s.extract 8 10)] w fun e w' => e = .returned (.int .i64 (dv (fC s))) ∧ w' = w) at DC
  have s1 := cutA s h10
  have s2 := cutB s h10
  have s3 := cutC s h10
  generalize s.extract 0 4 = sA at *
  generalize s.extract 5 7 = sB at *
  generalize s.extract 8 10 = sC at *
  generalize dv (fA s) = Y at *
  generalize dv (fB s) = M at *
  generalize dv (fC s) = D at *
  clear dA dB dC
  go_enter Tryd.func24, Tryd.ntmps24
  go_wp2_with (go_at_call 39; refine (SH.out _).mono ?_; rintro e w' ⟨rfl, rfl⟩)
  go_region_held3 (fun _ => True) (exact trivial)
    (first
    | (go_at_call 40; (first
      | (have qq := Q2; refine (DC.out _).mono ?_; rintro e w' ⟨rfl, rfl⟩; have Q3 := Lib.hid (p := (1 : Nat) = 1) rfl)
      | (have qq := Q1; refine (DB.out _).mono ?_; rintro e w' ⟨rfl, rfl⟩; have Q2 := Lib.hid (p := (1 : Nat) = 1) rfl)
      | (refine (DA.out _).mono ?_; rintro e w' ⟨rfl, rfl⟩; have Q1 := Lib.hid (p := (1 : Nat) = 1) rfl))))
  all_goals
    go_wp2_with (go_at_call 41; refine (exists_any _ _ _ _ (mon_dr (mon_alloc (mon_alloc hM)))).mono ?_; rintro e w1 ⟨rfl, b1⟩; rw [hE]; obtain ⟨c0, c1, c2, c3, c4, c5, f0, f1, f2, z1⟩ := boxesP b1; have z0 : w.heap.size < w1.heap.size := (by omega))
    exact bodyPost_ret (v := .tuple #[.agg #[.int .i64 Y, .int .i64 M, .int .i64 D], .int .i64 0]) (by simp [results, Tryd.results24, go_sem, c0, c1, c2]) rfl ⟨rfl, ((((((Below.refl _ _).alloc (Nat.le_refl _) _).alloc (by simp) _).drew.trans (b1.mono (by simp; omega))).setCell (by simp) _).setCell (by simp) _).setCell (by simp) _⟩

set_option maxHeartbeats 1000000 in
theorem parse_no (s : ByteArray) (w : World) (hM : Mon w) (h : shB s = true) (hE : exB (dv (fA s)) (dv (fB s)) (dv (fC s)) = false) :
    Calls Tryd.prog 24 #[.string s] w fun e w' => e = .returned (.tuple #[.agg #[.int .i64 0, .int .i64 0, .int .i64 0], .int .i64 21]) ∧ Below w.heap.size w w' := by
  obtain ⟨h10, _⟩ := sh_out h
  obtain ⟨dA, dB, dC, _, _⟩ := sh_digs h
  have DA := Lib.hid (fun w => digits_any (s.extract 0 4) w (by rw [ByteArray.size_extract]; omega) dA)
  have DB := Lib.hid (fun w => digits_any (s.extract 5 7) w (by rw [ByteArray.size_extract]; omega) dB)
  have DC := Lib.hid (fun w => digits_any (s.extract 8 10) w (by rw [ByteArray.size_extract]; omega) dC)
  have SH := Lib.hid (fun w => shaped_any s w (by omega))
  rw [h] at SH
  change Hid (∀ w, Calls Tryd.prog 40 #[.string (s.extract 0 4)] w fun e w' => e = .returned (.int .i64 (dv (fA s))) ∧ w' = w) at DA
  change Hid (∀ w, Calls Tryd.prog 40 #[.string (s.extract 5 7)] w fun e w' => e = .returned (.int .i64 (dv (fB s))) ∧ w' = w) at DB
  change Hid (∀ w, Calls Tryd.prog 40 #[.string (s.extract 8 10)] w fun e w' => e = .returned (.int .i64 (dv (fC s))) ∧ w' = w) at DC
  have s1 := cutA s h10
  have s2 := cutB s h10
  have s3 := cutC s h10
  generalize s.extract 0 4 = sA at *
  generalize s.extract 5 7 = sB at *
  generalize s.extract 8 10 = sC at *
  generalize dv (fA s) = Y at *
  generalize dv (fB s) = M at *
  generalize dv (fC s) = D at *
  clear dA dB dC
  go_enter Tryd.func24, Tryd.ntmps24
  go_wp2_with (go_at_call 39; refine (SH.out _).mono ?_; rintro e w' ⟨rfl, rfl⟩)
  go_region_held3 (fun _ => True) (exact trivial)
    (first
    | (go_at_call 40; (first
      | (have qq := Q2; refine (DC.out _).mono ?_; rintro e w' ⟨rfl, rfl⟩; have Q3 := Lib.hid (p := (1 : Nat) = 1) rfl)
      | (have qq := Q1; refine (DB.out _).mono ?_; rintro e w' ⟨rfl, rfl⟩; have Q2 := Lib.hid (p := (1 : Nat) = 1) rfl)
      | (refine (DA.out _).mono ?_; rintro e w' ⟨rfl, rfl⟩; have Q1 := Lib.hid (p := (1 : Nat) = 1) rfl))))
  all_goals
    go_wp2_with (go_at_call 41; refine (exists_any _ _ _ _ (mon_dr (mon_alloc (mon_alloc hM)))).mono ?_; rintro e w1 ⟨rfl, b1⟩; rw [hE]; obtain ⟨c0, c1, c2, c3, c4, c5, f0, f1, f2, z1⟩ := boxesP b1; have z0 : w.heap.size < w1.heap.size := (by omega))
    exact bodyPost_ret (v := .tuple #[.agg #[.int .i64 0, .int .i64 0, .int .i64 0], .int .i64 21]) (by simp [results, Tryd.results24, go_sem, c0, c1, c2]) rfl ⟨rfl, ((((((Below.refl _ _).alloc (Nat.le_refl _) _).alloc (by simp) _).drew.trans (b1.mono (by simp; omega))).setCell (by simp) _).setCell (by simp) _).setCell (by simp) _⟩
end Go.Proofs.YtlihkmhhfnkkoaaDoor
