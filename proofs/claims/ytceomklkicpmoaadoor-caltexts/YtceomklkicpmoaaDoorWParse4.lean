/-
  WALKS: Parse (the document's).
-/
import Derived.Test.YtceomklkicpmoaaDoorWParse3
namespace Go.Proofs.YtceomklkicpmoaaDoor
open Go.RowKit
open Cal
set_option linter.unusedVariables false
set_option linter.unusedSimpArgs false

set_option maxHeartbeats 1000000 in
theorem rparse_form (s : ByteArray) (w : World) (hs : s.size ≤ 9223372036854775807) (h : ¬ (s.size = 10 ∧ at8 s 4 = 45 ∧ at8 s 7 = 45)) :
    Calls Tryd.prog 20 #[.string s] w fun e w' => e = .returned (.tuple #[.agg #[.int .i64 0, .int .i64 0, .int .i64 0], .int .i64 21]) ∧ Below w.heap.size w w' := by
  by_cases h10 : s.size = 10
  · have z4 : 4 < s.size := by omega
    have z7 : 7 < s.size := by omega
    have h2 : (s.size : Int) = 10 := by omega
    rw [at8_lt z4, at8_lt z7] at h
    by_cases c4 : (s[4].toNat : Int) = 45
    · have c7 : ¬ (s[7].toNat : Int) = 45 := fun g => h ⟨h10, c4, g⟩
      clear h
      go_enter Tryd.func20, Tryd.ntmps20
      go_wp2
      exact bodyPost_ret (v := .tuple #[.agg #[.int .i64 0, .int .i64 0, .int .i64 0], .int .i64 21]) (by simp [results, Tryd.results20, go_sem]) rfl ⟨rfl, (Below.refl _ _).alloc (Nat.le_refl _) _⟩
    · clear h
      go_enter Tryd.func20, Tryd.ntmps20
      go_wp2
      exact bodyPost_ret (v := .tuple #[.agg #[.int .i64 0, .int .i64 0, .int .i64 0], .int .i64 21]) (by simp [results, Tryd.results20, go_sem]) rfl ⟨rfl, (Below.refl _ _).alloc (Nat.le_refl _) _⟩
  · have h' : ¬ (s.size : Int) = 10 := by omega
    clear h
    go_enter Tryd.func20, Tryd.ntmps20
    go_wp2
    exact bodyPost_ret (v := .tuple #[.agg #[.int .i64 0, .int .i64 0, .int .i64 0], .int .i64 21]) (by simp [results, Tryd.results20, go_sem]) rfl ⟨rfl, (Below.refl _ _).alloc (Nat.le_refl _) _⟩

set_option maxHeartbeats 1000000 in
theorem rparse_yes (s : ByteArray) (w : World) (h10 : s.size = 10) (h4 : at8 s 4 = 45) (h7 : at8 s 7 = 45) (hE : exB (nv (fA s)) (nv (fB s)) (nv (fC s)) = true) :
    Calls Tryd.prog 20 #[.string s] w fun e w' => e = .returned (.tuple #[.agg #[.int .i64 (nv (fA s)), .int .i64 (nv (fB s)), .int .i64 (nv (fC s))], .int .i64 0]) ∧ Below w.heap.size w w' := by
  have z4 : 4 < s.size := by omega
  have z7 : 7 < s.size := by omega
  have h2 : (s.size : Int) = 10 := by omega
  rw [at8_lt z4] at h4
  rw [at8_lt z7] at h7
  have DA := Lib.hid (fun w => number_rd (s.extract 0 4) w (by rw [ByteArray.size_extract]; omega))
  have DB := Lib.hid (fun w => number_rd (s.extract 5 7) w (by rw [ByteArray.size_extract]; omega))
  have DC := Lib.hid (fun w => number_rd (s.extract 8 10) w (by rw [ByteArray.size_extract]; omega))
  change Hid (∀ w, Calls Tryd.prog 39 #[.string (s.extract 0 4)] w fun e w' => e = .returned (.int .i64 (nv (fA s))) ∧ w' = w) at DA
  change Hid (∀ w, Calls Tryd.prog 39 #[.string (s.extract 5 7)] w fun e w' => e = .returned (.int .i64 (nv (fB s))) ∧ w' = w) at DB
  change Hid (∀ w, Calls Tryd.prog 39 #[.string (s.extract 8 10)] w fun e w' => e = .returned (.int .i64 (nv (fC s))) ∧ w' = w) at DC
  have s1 := cutA s h10
  have s2 := cutB s h10
  have s3 := cutC s h10
  generalize s.extract 0 4 = sA at *
  generalize s.extract 5 7 = sB at *
  generalize s.extract 8 10 = sC at *
  generalize nv (fA s) = Y at *
  generalize nv (fB s) = M at *
  generalize nv (fC s) = D at *
  go_enter Tryd.func20, Tryd.ntmps20
  go_wp2
  go_region_held3 (fun _ => True) (exact trivial)
    (first
    | (go_at_call 39; (first
      | (have qq := Q2; refine (DC.out _).mono ?_; rintro e w' ⟨rfl, rfl⟩; have Q3 := Lib.hid (p := (1 : Nat) = 1) rfl)
      | (have qq := Q1; refine (DB.out _).mono ?_; rintro e w' ⟨rfl, rfl⟩; have Q2 := Lib.hid (p := (1 : Nat) = 1) rfl)
      | (refine (DA.out _).mono ?_; rintro e w' ⟨rfl, rfl⟩; have Q1 := Lib.hid (p := (1 : Nat) = 1) rfl))))
  all_goals
    go_wp2_with (go_at_call 27; refine (is_any _ _ _ _).mono ?_; rintro e w1 ⟨rfl, b1⟩; rw [hE]; obtain ⟨c0, c1, c2, c3, c4, c5, f0, f1, f2, z1⟩ := boxesP b1; have z0 : w.heap.size < w1.heap.size := (by omega))
    exact bodyPost_ret (v := .tuple #[.agg #[.int .i64 Y, .int .i64 M, .int .i64 D], .int .i64 0]) (by simp [results, Tryd.results20, go_sem, c0, c1, c2]) rfl ⟨rfl, ((((((Below.refl _ _).alloc (Nat.le_refl _) _).alloc (by simp) _).drew.trans (b1.mono (by simp; omega))).setCell (by simp) _).setCell (by simp) _).setCell (by simp) _⟩

set_option maxHeartbeats 1000000 in
theorem rparse_no (s : ByteArray) (w : World) (h10 : s.size = 10) (h4 : at8 s 4 = 45) (h7 : at8 s 7 = 45) (hE : exB (nv (fA s)) (nv (fB s)) (nv (fC s)) = false) :
    Calls Tryd.prog 20 #[.string s] w fun e w' => e = .returned (.tuple #[.agg #[.int .i64 0, .int .i64 0, .int .i64 0], .int .i64 21]) ∧ Below w.heap.size w w' := by
  have z4 : 4 < s.size := by omega
  have z7 : 7 < s.size := by omega
  have h2 : (s.size : Int) = 10 := by omega
  rw [at8_lt z4] at h4
  rw [at8_lt z7] at h7
  have DA := Lib.hid (fun w => number_rd (s.extract 0 4) w (by rw [ByteArray.size_extract]; omega))
  have DB := Lib.hid (fun w => number_rd (s.extract 5 7) w (by rw [ByteArray.size_extract]; omega))
  have DC := Lib.hid (fun w => number_rd (s.extract 8 10) w (by rw [ByteArray.size_extract]; omega))
  change Hid (∀ w, Calls Tryd.prog 39 #[.string (s.extract 0 4)] w fun e w' => e = .returned (.int .i64 (nv (fA s))) ∧ w' = w) at DA
  change Hid (∀ w, Calls Tryd.prog 39 #[.string (s.extract 5 7)] w fun e w' => e = .returned (.int .i64 (nv (fB s))) ∧ w' = w) at DB
  change Hid (∀ w, Calls Tryd.prog 39 #[.string (s.extract 8 10)] w fun e w' => e = .returned (.int .i64 (nv (fC s))) ∧ w' = w) at DC
  have s1 := cutA s h10
  have s2 := cutB s h10
  have s3 := cutC s h10
  generalize s.extract 0 4 = sA at *
  generalize s.extract 5 7 = sB at *
  generalize s.extract 8 10 = sC at *
  generalize nv (fA s) = Y at *
  generalize nv (fB s) = M at *
  generalize nv (fC s) = D at *
  go_enter Tryd.func20, Tryd.ntmps20
  go_wp2
  go_region_held3 (fun _ => True) (exact trivial)
    (first
    | (go_at_call 39; (first
      | (have qq := Q2; refine (DC.out _).mono ?_; rintro e w' ⟨rfl, rfl⟩; have Q3 := Lib.hid (p := (1 : Nat) = 1) rfl)
      | (have qq := Q1; refine (DB.out _).mono ?_; rintro e w' ⟨rfl, rfl⟩; have Q2 := Lib.hid (p := (1 : Nat) = 1) rfl)
      | (refine (DA.out _).mono ?_; rintro e w' ⟨rfl, rfl⟩; have Q1 := Lib.hid (p := (1 : Nat) = 1) rfl))))
  all_goals
    go_wp2_with (go_at_call 27; refine (is_any _ _ _ _).mono ?_; rintro e w1 ⟨rfl, b1⟩; rw [hE]; obtain ⟨c0, c1, c2, c3, c4, c5, f0, f1, f2, z1⟩ := boxesP b1; have z0 : w.heap.size < w1.heap.size := (by omega))
    exact bodyPost_ret (v := .tuple #[.agg #[.int .i64 0, .int .i64 0, .int .i64 0], .int .i64 21]) (by simp [results, Tryd.results20, go_sem, c0, c1, c2]) rfl ⟨rfl, ((((((Below.refl _ _).alloc (Nat.le_refl _) _).alloc (by simp) _).drew.trans (b1.mono (by simp; omega))).setCell (by simp) _).setCell (by simp) _).setCell (by simp) _⟩

/-- What both Parses answer. -/
abbrev prEnd (s : ByteArray) : Ending := .returned (.tuple #[.agg #[.int .i64 (prV s (dv (fA s))), .int .i64 (prV s (dv (fB s))), .int .i64 (prV s (dv (fC s)))], .int .i64 (if prB s = true then 0 else 21)])
theorem prEnd_yes {s : ByteArray} (h : prB s = true) : prEnd s = .returned (.tuple #[.agg #[.int .i64 (dv (fA s)), .int .i64 (dv (fB s)), .int .i64 (dv (fC s))], .int .i64 0]) := by
  unfold prEnd prV; rw [if_pos h, if_pos h, if_pos h, if_pos h]
theorem prEnd_no {s : ByteArray} (h : prB s = false) : prEnd s = .returned (.tuple #[.agg #[.int .i64 0, .int .i64 0, .int .i64 0], .int .i64 21]) := by
  unfold prEnd prV; rw [h]; rfl
theorem parse_any (s : ByteArray) (w : World) (hM : Mon w) (hs : s.size ≤ 9223372036854775807) :
    Calls Tryd.prog 18 #[.string s] w fun e w' => e = prEnd s ∧ Below w.heap.size w w' := by
  cases h : shB s with
  | false => rw [prEnd_no (by unfold prB; rw [h]; rfl)]; exact parse_unshaped s w hs h
  | true =>
    cases g : exB (dv (fA s)) (dv (fB s)) (dv (fC s)) with
    | false => rw [prEnd_no (by unfold prB; rw [h, g]; rfl)]; exact parse_no s w hM h g
    | true => rw [prEnd_yes (by unfold prB; rw [h, g]; rfl)]; exact parse_yes s w hM h g
theorem rparse_any (s : ByteArray) (w : World) (hs : s.size ≤ 9223372036854775807) :
    Calls Tryd.prog 20 #[.string s] w fun e w' => e = prEnd s ∧ Below w.heap.size w w' := by
  by_cases f : s.size = 10 ∧ at8 s 4 = 45 ∧ at8 s 7 = 45
  · obtain ⟨h10, h4, h7⟩ := f
    cases g : exB (nv (fA s)) (nv (fB s)) (nv (fC s)) with
    | false =>
      have e : prB s = false := by
        cases q : prB s with
        | false => rfl
        | true =>
          unfold prB at q
          rw [Bool.and_eq_true] at q
          obtain ⟨dA, dB, dC, _, _⟩ := sh_digs q.1
          rw [nv_yes dA, nv_yes dB, nv_yes dC, q.2] at g
          cases g
      rw [prEnd_no e]; exact rparse_no s w h10 h4 h7 g
    | true =>
      have q := ref_sh h10 h4 h7 g
      obtain ⟨dA, dB, dC, _, _⟩ := sh_digs q
      have e : prB s = true := by unfold prB; rw [q, ← nv_yes dA, ← nv_yes dB, ← nv_yes dC, g]; rfl
      rw [prEnd_yes e]
      have := rparse_yes s w h10 h4 h7 g
      rw [nv_yes dA, nv_yes dB, nv_yes dC] at this
      exact this
  · have e : prB s = false := by
      cases q : prB s with
      | false => rfl
      | true =>
        unfold prB at q
        rw [Bool.and_eq_true] at q
        obtain ⟨_, _, _, a, b⟩ := sh_digs q.1
        exact absurd ⟨(sh_out q.1).1, a, b⟩ f
    rw [prEnd_no e]; exact rparse_form s w hs f
end Go.Proofs.YtceomklkicpmoaaDoor
