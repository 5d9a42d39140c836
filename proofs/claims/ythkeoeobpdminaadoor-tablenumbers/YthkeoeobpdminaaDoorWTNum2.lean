/-
  WALK: TableNumbers.
-/
import Derived.Test.YthkeoeobpdminaaDoorWTNum1
import Derived.Test.YthkeoeobpdminaaDoorWTPrint
namespace Go.Proofs.YthkeoeobpdminaaDoor
open Go.RowKit
set_option linter.unusedVariables false
set_option linter.unusedSimpArgs false

theorem told_any (v : Int) (w : World) : Calls Tryd.prog 15 #[.int .i64 v] w fun e w' => e = .returned (.agg #[.bool true, .int .i64 v]) ∧ w' = w.alloc (.cells #[.bool true, .int .i64 v] 35) := by
  obtain ⟨r0, r1, _, _⟩ := box_all2 (World.alloc_heap_new w (.cells #[.bool true, .int .i64 v] 35))
  go_enter Tryd.func15, Tryd.ntmps15
  go_wp2
  exact bodyPost_ret (v := .agg #[.bool true, .int .i64 v]) (by simp [results, Tryd.results15, go_sem, r0, r1]) rfl ⟨rfl, rfl⟩
theorem num_valid (v : Int) : validE [⟨#[65]⟩] [[⟨true, v⟩]] = 0 := by
  have e1 : nameB ⟨#[65]⟩ = true := by decide
  have e2 : dupB [⟨#[65]⟩] = false := by decide
  have e3 : stB ⟨true, v⟩ = false := by unfold stB; simp
  unfold validE
  simp [e1, e2, e3]
theorem num_text (v : Int) : (⟨(textT [⟨#[65]⟩] [[⟨true, v⟩]] 1).toArray⟩ : ByteArray) = p8 ++ ⟨(Lib.itoa v).toArray⟩ ++ ⟨#[10]⟩ := by
  have h0 : Lib.itoa 0 = [48] := by kernel_rfl
  apply ByteArray.ext
  rw [ByteArray.data_append, ByteArray.data_append]
  simp [textT, headT, rowsT, lineT, rowT, nameW, cellW, wordC, h0, List.range_succ]
theorem prT_num {v : Int} (hv : (Lit.int .i64 v).wf = true) {e : Ending} (h : PrT [⟨#[65]⟩] [[⟨true, v⟩]] e) : e = .returned (.tuple #[.string (p8 ++ ⟨(Lib.itoa v).toArray⟩ ++ ⟨#[10]⟩), .int .i64 0]) := by
  have L : (textT [⟨#[65]⟩] [[⟨true, v⟩]] 1).length ≤ 1048576 := by
    have d0 : -9223372036854775808 ≤ v ∧ v ≤ 9223372036854775807 := by simpa [Lit.wf, IntKind.min, IntKind.max, IntKind.bits, IntKind.signed] using hv
    have := Lib.itoa_length_le v d0.1 d0.2
    have h0 : Lib.itoa 0 = [48] := by kernel_rfl
    simp [textT, headT, rowsT, lineT, rowT, nameW, cellW, wordC, h0, List.range_succ]
    omega
  rcases h with ⟨a, b⟩ | ⟨a, b, c⟩ | ⟨a, b, c⟩
  · exact absurd (num_valid v) a
  · exact absurd b (by show ¬ (1048576 < (textT [⟨#[65]⟩] [[⟨true, v⟩]] 1).length); omega)
  · rw [c]
    show Ending.returned (.tuple #[.string ⟨(textT [⟨#[65]⟩] [[⟨true, v⟩]] 1).toArray⟩, .int .i64 0]) = _
    rw [num_text]

theorem num_start (v : Int) (hv : (Lit.int .i64 v).wf = true) (w : World) (ht : Pows w) :
    Calls Tryd.prog 13 #[.agg #[.slice (some ⟨w.heap.size, 0, none⟩) 1 1, .slice (some ⟨w.heap.size + 1 + 1 + 1, 0, none⟩) 1 1]] (((((w.alloc (.cells #[.string ⟨#[65]⟩] 9)).alloc (.cells #[.bool true, .int .i64 v] 35)).alloc (.cells #[.bool true, .int .i64 v] 35)).alloc (.cells #[.slice (some ⟨w.heap.size + 1 + 1, 0, none⟩) 1 1] 37)).alloc (.cells #[.slice (some ⟨w.heap.size, 0, none⟩) 1 1, .slice (some ⟨w.heap.size + 1 + 1 + 1, 0, none⟩) 1 1] 25)) fun e w' => e = .returned (.tuple #[.string (p8 ++ ⟨(Lib.itoa v).toArray⟩ ++ ⟨#[10]⟩), .int .i64 0]) ∧ Below w.heap.size w w' := by
  have b : Below w.heap.size w (((((w.alloc (.cells #[.string ⟨#[65]⟩] 9)).alloc (.cells #[.bool true, .int .i64 v] 35)).alloc (.cells #[.bool true, .int .i64 v] 35)).alloc (.cells #[.slice (some ⟨w.heap.size + 1 + 1, 0, none⟩) 1 1] 37)).alloc (.cells #[.slice (some ⟨w.heap.size, 0, none⟩) 1 1, .slice (some ⟨w.heap.size + 1 + 1 + 1, 0, none⟩) 1 1] 25)) := (((((Below.refl _ w).alloc (Nat.le_refl _) _).alloc (by simp) _).alloc (by first | (simp; done) | (simp; omega)) _).alloc (by first | (simp; done) | (simp; omega)) _).alloc (by first | (simp; done) | (simp; omega)) _
  refine (printT_any (some ⟨w.heap.size, 0, none⟩) (some ⟨w.heap.size + 1 + 1 + 1, 0, none⟩) 1 1 1 1 [⟨#[65]⟩] [⟨some ⟨w.heap.size + 1 + 1, 0, none⟩, 1, 1, [⟨true, v⟩]⟩] _ ?_ ?_ (Lib.tabBelow_of_tabIs ht _ b)).mono ?_
  · refine ⟨rfl, by omega, fun s hs => by simp at hs; subst hs; decide, .inr ⟨_, _, rfl, by first | (simp; done) | (simp; omega), fun i hi => ?_⟩⟩
    obtain rfl : i = 0 := by omega
    go_simp
  · refine ⟨rfl, by omega, fun r hr => ?_, .inr ⟨_, _, rfl, by simp, fun i hi => ?_⟩⟩
    · simp at hr
      subst hr
      refine ⟨⟨rfl, by simp, fun c hc => by simp at hc; subst hc; exact hv, .inr ⟨_, _, rfl, by first | (simp; done) | (simp; omega), fun i hi => ?_⟩⟩, fun e => (by simp at e), Nat.le_refl _, by unfold maxLen; simp⟩
      simp at hi
      subst hi
      constructor <;> go_simp
    · obtain rfl : i = 0 := by omega
      go_simp
  · rintro e w' ⟨h1, h2⟩
    exact ⟨prT_num hv h1, b.trans (h2.mono b.size)⟩
theorem itoa_sz {v : Int} (hv : (Lit.int .i64 v).wf = true) : (⟨(Lib.itoa v).toArray⟩ : ByteArray).size ≤ 21 := by
  have d0 : -9223372036854775808 ≤ v ∧ v ≤ 9223372036854775807 := by simpa [Lit.wf, IntKind.min, IntKind.max, IntKind.bits, IntKind.signed] using hv
  have := Lib.itoa_length_le v d0.1 d0.2
  show (Lib.itoa v).toArray.size ≤ 21
  simpa using this
theorem wd_of {c : Int} (h0 : 0 ≤ c) (h1 : ¬ c = 32) (h2 : ¬ c = 9) (h3 : ¬ c = 13) (h4 : ¬ c = 10) (h5 : ¬ c = 35) : wdB c = true := by
  unfold wdB blB
  simp [h0, h1, h2, h3, h4, h5]
theorem num_cells {w8 : World} {x cx y cy z : Nat} {n : Int} (y0 : w8.cell? ⟨y, 0, none⟩ = some (.slice (some ⟨z, 0, none⟩) 1 1)) (z0 : w8.cell? ⟨z, 0, none⟩ = some (.bool true)) (z1 : w8.cell? ⟨z, 1, none⟩ = some (.int .i64 n)) (W : World)
    (b : Below (w8.alloc (.cells #[.slice (some ⟨x, 0, none⟩) 1 cx, .slice (some ⟨y, 0, none⟩) 1 cy] 25)).heap.size (w8.alloc (.cells #[.slice (some ⟨x, 0, none⟩) 1 cx, .slice (some ⟨y, 0, none⟩) 1 cy] 25)) W) :
    W.cell? ⟨w8.heap.size, 1, none⟩ = some (.slice (some ⟨y, 0, none⟩) 1 cy) ∧ W.cell? ⟨y, 0, none⟩ = some (.slice (some ⟨z, 0, none⟩) 1 1) ∧ W.cell? ⟨z, 0, none⟩ = some (.bool true) ∧ W.cell? ⟨z, 1, none⟩ = some (.int .i64 n) := by
  have hy := World.block_lt_of_cell? w8 _ y0
  have hz := World.block_lt_of_cell? w8 _ z0
  refine ⟨?_, ?_, ?_, ?_⟩
  · rw [b.cell (p := ⟨w8.heap.size, 1, none⟩) (by simp)]; go_simp
  · rw [b.cell (p := ⟨y, 0, none⟩) (by simp; exact Nat.lt_succ_of_lt hy)]; exact Lib.cell?_alloc_marked _ y0
  · rw [b.cell (p := ⟨z, 0, none⟩) (by simp; exact Nat.lt_succ_of_lt hz)]; exact Lib.cell?_alloc_marked _ z0
  · rw [b.cell (p := ⟨z, 1, none⟩) (by simp; exact Nat.lt_succ_of_lt hz)]; exact Lib.cell?_alloc_marked _ z1
theorem isEmpty_of {s : ByteArray} (h : ¬ s.size = 0) : s.toList.isEmpty = false := by
  rw [Go.ByteArray.toList_eq]
  cases e : s.data.toList with
  | nil =>
    exfalso
    have := congrArg List.length e
    simp at this
    exact h (by rw [this]; rfl)
  | cons c l => rfl
theorem empty_of {u : ByteArray} (h : u.size = 0) : u = ⟨#[]⟩ := ByteArray.ext (Array.eq_empty_of_size_eq_zero h)
/-- cellOf of the word, in whatever world. -/
theorem cell_word (u : ByteArray) (n E : Int) (w : World) (hp : ∀ W, Below w.heap.size w W → Calls Tryd.prog 18 #[.string u, .int .i64 0] W fun e w' => e = .returned (.tuple #[.int .i64 n, .int .i64 E]) ∧ Below W.heap.size W w') (W0 : World) (b0 : Below w.heap.size w W0) (W : World) (b : Below W0.heap.size W0 W) :
    Calls Tryd.prog 59 #[.string u] W fun e w' => e = celE u n E ∧ Below W.heap.size W w' :=
  cellOf_any u n E W (fun W' b' => hp W' ((b0.trans (b.mono b0.size)).trans (b'.mono (Nat.le_trans b0.size b.size))))
set_option maxRecDepth 100000 in
set_option maxHeartbeats 8000000 in
theorem tableNumbers_walk (v : Int) (u : ByteArray) (hv : (Lit.int .i64 v).wf = true) (hu : u.size ≤ 9223372036854775807) (w : World) (ht : Pows w) (n E : Int)
    (hp : ∀ W, Below w.heap.size w W → Calls Tryd.prog 18 #[.string u, .int .i64 0] W fun e w' => e = .returned (.tuple #[.int .i64 n, .int .i64 E]) ∧ Below W.heap.size W w') (h45 : (u.toList == [45]) = true → E ≠ 0) :
    Calls Tryd.prog 6 #[.int .i64 v, .string u] w fun e w' => e = .returned (.bool true) ∧ Below w.heap.size w w' := by
  have KTo := Lib.hid (fun W => told_any v W)
  have KTn := Lib.hid (fun W => told_any n W)
  have KP := Lib.hid (num_start v hv w ht)
  have TB := Lib.hid (Lib.tabBelow_of_tabIs ht)
  have KX := Lib.hid (fun W (b : Below w.heap.size w W) => numText0 v (wf_in hv) W (TB.out W b))
  have HP := Lib.hid hp
  have H45 := Lib.hid h45
  have fs := itoa_sz hv
  have KCW := Lib.hid (cell_word u n E w hp)
  clear hp ht h45
  generalize (⟨(Lib.itoa v).toArray⟩ : ByteArray) = f at *
  have f1 : ¬ 9223372036854775807 < 8 + f.size := by omega
  have f2 : ¬ 9223372036854775807 < 8 + f.size + 1 := by omega
  go_enter Tryd.func6, Tryd.ntmps6
  go_wp2_with (first
    | (go_at_call 15; refine (KTo.out _).mono ?_; rintro e w' ⟨rfl, rfl⟩)
    | (go_at_call 13; refine KP.out.mono ?_; rintro e w6 ⟨rfl, b6⟩; have B6 := Lib.hid b6; clear b6)
    | (go_at_call 16; refine (KX.out _ B6.out).mono ?_; rintro e w7 ⟨rfl, b7⟩; have B7 := Lib.hid (B6.out.trans (b7.mono B6.out.size)); clear b7))
  go_loopw [10] (fun t wr => wr = w7 ∧ ∃ i : Nat, i ≤ u.size ∧ t = .int .i64 i ∧ RowKit.Hid (∀ j, j < i → wdB (bt u j) = true)) (fun t _ => u.size - (intOf t).toNat)
  case atStart => exact ⟨rfl, 0, Nat.zero_le _, rfl, fun j hj => absurd hj (by omega)⟩
  case round =>
    rename World => wr
    obtain ⟨rfl, i, hi, rfl, hW⟩ := hrel
    rename World => w7
    by_cases hl : i < u.size
    · have ic : (i : Int) < (u.size : Int) := by omega
      obtain ⟨c, hc⟩ : ∃ c : Nat, u[i].toNat = c := ⟨_, rfl⟩
      have NX := Lib.hid (p := wdB (c : Int) = true → ∀ j, j < i + 1 → wdB (bt u j) = true) (fun h j hj => by
        rcases (show j < i ∨ j = i by omega) with q | q
        · exact hW.out j q
        · rw [q, bt_lt hl, hc]; exact h)
      by_cases c1 : (c : Int) = 32
      · have d1 : ((c : Int) == 32) = true := by rw [beq_iff_eq]; exact c1
        clear c1
        go_wp2
        go_ret
        exact ⟨rfl, B7.out⟩
      · have d1 : ((c : Int) == 32) = false := by rw [beq_eq_false_iff_ne]; exact c1
        by_cases c2 : (c : Int) = 9
        · have d2 : ((c : Int) == 9) = true := by rw [beq_iff_eq]; exact c2
          clear c1 c2
          go_wp2
          go_ret
          exact ⟨rfl, B7.out⟩
        · have d2 : ((c : Int) == 9) = false := by rw [beq_eq_false_iff_ne]; exact c2
          by_cases c3 : (c : Int) = 13
          · have d3 : ((c : Int) == 13) = true := by rw [beq_iff_eq]; exact c3
            clear c1 c2 c3
            go_wp2
            go_ret
            exact ⟨rfl, B7.out⟩
          · have d3 : ((c : Int) == 13) = false := by rw [beq_eq_false_iff_ne]; exact c3
            by_cases c4 : (c : Int) = 10
            · have d4 : ((c : Int) == 10) = true := by rw [beq_iff_eq]; exact c4
              clear c1 c2 c3 c4
              go_wp2
              go_ret
              exact ⟨rfl, B7.out⟩
            · have d4 : ((c : Int) == 10) = false := by rw [beq_eq_false_iff_ne]; exact c4
              by_cases c5 : (c : Int) = 35
              · have d5 : ((c : Int) == 35) = true := by rw [beq_iff_eq]; exact c5
                clear c1 c2 c3 c4 c5
                go_wp2
                go_ret
                exact ⟨rfl, B7.out⟩
              · have d5 : ((c : Int) == 35) = false := by rw [beq_eq_false_iff_ne]; exact c5
                have NY := Lib.hid (NX.out (wd_of (by omega) c1 c2 c3 c4 c5))
                clear c1 c2 c3 c4 c5
                go_wp2
                go_roundw
                case rel => first | exact ⟨trivial, i + 1, by omega, by go_num, NY.out⟩ | exact ⟨rfl, i + 1, by omega, by go_num, NY.out⟩
                case measure => simp [intOf]; omega
    · obtain rfl : i = u.size := by omega
      by_cases z0 : u.size = 0
      · obtain rfl := empty_of z0
        go_wp2
        go_ret
        exact ⟨rfl, B7.out⟩
      · have z1 : u.toList.isEmpty = false := isEmpty_of z0
        by_cases zl : 1048568 < u.size
        · have zI : (1048568 : Int) < (u.size : Int) := by omega
          go_wp2
          go_ret
          exact ⟨rfl, B7.out⟩
        · have zI : ¬ (1048568 : Int) < (u.size : Int) := by omega
          have g1 : ¬ 9223372036854775807 < 8 + u.size := by omega
          have FW := Lib.hid (wf_of u (by omega) (by rw [p8_size]; omega) hW.out)
          have S8 : (p8 ++ u).size ≤ 1048576 := by rw [p8_size]; omega
          have S9 : 8 < (p8 ++ u).size := by rw [p8_size]; omega
          by_cases dash : (u.toList == [45]) = true
          · have nE := H45.out dash
            have nE2 : (E == 0) = false := by rw [beq_eq_false_iff_ne]; exact nE
            have KPA := Lib.hid (parse_ok (p8 ++ u) u false 0 w7 S8 S9 FW.out (fun W b => (KCW.out w7 B7.out W b).mono (by rintro e w' ⟨rfl, h⟩; exact ⟨by unfold celE; rw [if_pos dash], h⟩)))
            clear S8 S9
            go_wp2_with (first
              | (go_at_call 17; refine KPA.out.mono ?_; rintro e w8 ⟨x, cx, y, cy, z, rfl, y0, z0, z1, b8⟩; have B8 := Lib.hid (B7.out.trans (b8.mono B7.out.size)); have A8 := Lib.hid (p := Below w.heap.size w (w8.alloc (.cells #[.slice (some ⟨x, 0, none⟩) 1 cx, .slice (some ⟨y, 0, none⟩) 1 cy] 25))) ((B7.out.trans (b8.mono B7.out.size)).alloc (Nat.le_trans B7.out.size b8.size) _); clear b8)
              | (go_at_call 18; refine (HP.out _ A8.out).mono ?_; rintro e w9 ⟨rfl, b9⟩; have B9 := Lib.hid (A8.out.trans (b9.mono A8.out.size)); clear b9))
            go_ret
            exact ⟨rfl, B9.out⟩
          · have dash2 : (u.toList == [45]) = false := by simpa using dash
            by_cases hE : E = 0
            · have KPA := Lib.hid (parse_ok (p8 ++ u) u true n w7 S8 S9 FW.out (fun W b => (KCW.out w7 B7.out W b).mono (by rintro e w' ⟨rfl, h⟩; exact ⟨by unfold celE; rw [if_neg dash, if_pos hE], h⟩)))
              clear S8 S9 dash
              subst hE
              go_wp2_with (first
                | (go_at_call 17; refine KPA.out.mono ?_; rintro e w8 ⟨x, cx, y, cy, z, rfl, y0, z0, z1, b8⟩; have C8 := Lib.hid (p := ∀ W, Below (w8.alloc (.cells #[.slice (some ⟨x, 0, none⟩) 1 cx, .slice (some ⟨y, 0, none⟩) 1 cy] 25)).heap.size (w8.alloc (.cells #[.slice (some ⟨x, 0, none⟩) 1 cx, .slice (some ⟨y, 0, none⟩) 1 cy] 25)) W → W.cell? ⟨w8.heap.size, 1, none⟩ = some (.slice (some ⟨y, 0, none⟩) 1 cy) ∧ W.cell? ⟨y, 0, none⟩ = some (.slice (some ⟨z, 0, none⟩) 1 1) ∧ W.cell? ⟨z, 0, none⟩ = some (.bool true) ∧ W.cell? ⟨z, 1, none⟩ = some (.int .i64 n)) (num_cells y0 z0 z1); have A8 := Lib.hid (p := Below w.heap.size w (w8.alloc (.cells #[.slice (some ⟨x, 0, none⟩) 1 cx, .slice (some ⟨y, 0, none⟩) 1 cy] 25))) ((B7.out.trans (b8.mono B7.out.size)).alloc (Nat.le_trans B7.out.size b8.size) _); clear b8 y0 z0 z1)
                | (go_at_call 18; refine (HP.out _ A8.out).mono ?_; rintro e w9 ⟨rfl, b9⟩; have B9 := Lib.hid (A8.out.trans (b9.mono A8.out.size)); obtain ⟨m0, m1, m2, m3⟩ := C8.out _ b9; have C9 := Lib.hid (p := ∀ W, Below w9.drew.heap.size w9.drew W → (W.cell? ⟨w8.heap.size, 1, none⟩ = some (.slice (some ⟨y, 0, none⟩) 1 cy) ∧ W.cell? ⟨y, 0, none⟩ = some (.slice (some ⟨z, 0, none⟩) 1 1) ∧ W.cell? ⟨z, 0, none⟩ = some (.bool true) ∧ W.cell? ⟨z, 1, none⟩ = some (.int .i64 n)) ∧ Below w.heap.size w W) (fun W b => ⟨C8.out W (b9.drew.trans (b.mono b9.size)), (A8.out.trans (b9.mono A8.out.size)).drew.trans (b.mono (Nat.le_trans A8.out.size b9.size))⟩); clear b9))
              have KT9 := Lib.hid (p := Calls Tryd.prog 15 #[.int .i64 n] w9.drew fun e w' => e = .returned (.agg #[.bool true, .int .i64 n]) ∧ Below w9.drew.heap.size w9.drew w') ((KTn.out w9.drew).mono (by rintro e w' ⟨rfl, rfl⟩; exact ⟨rfl, (Below.refl _ _).alloc (Nat.le_refl _) _⟩))
              go_region_held3 (fun w' => w'.cell? ⟨w8.heap.size, 1, none⟩ = some (.slice (some ⟨y, 0, none⟩) 1 cy) ∧ w'.cell? ⟨y, 0, none⟩ = some (.slice (some ⟨z, 0, none⟩) 1 1) ∧ w'.cell? ⟨z, 0, none⟩ = some (.bool true) ∧ w'.cell? ⟨z, 1, none⟩ = some (.int .i64 n))
                (refine ⟨?_, ?_, ?_, ?_⟩ <;> first | assumption | (go_simp; done))
                (first | (go_at_call 15; refine KT9.out.mono ?_; rintro e w10 ⟨rfl, b10⟩; obtain ⟨⟨p0, p1, p2, p3⟩, B10⟩ := C9.out _ b10))
              all_goals go_wp2
              all_goals go_ret
              all_goals exact ⟨rfl, B10⟩
            · have hE2 : (E == 0) = false := by rw [beq_eq_false_iff_ne]; exact hE
              have KPA := Lib.hid (parse_bad (p8 ++ u) u false 0 w7 S8 S9 FW.out (fun W b => (KCW.out w7 B7.out W b).mono (by rintro e w' ⟨rfl, h⟩; exact ⟨by unfold celE; rw [if_neg dash, if_neg hE], h⟩)))
              clear S8 S9 dash
              go_wp2_with (first
                | (go_at_call 17; refine KPA.out.mono ?_; rintro e w8 ⟨rfl, b8⟩; have A8 := Lib.hid (p := Below w.heap.size w (w8.alloc (.cells #[.slice none 0 0, .slice none 0 0] 25))) ((B7.out.trans (b8.mono B7.out.size)).alloc (Nat.le_trans B7.out.size b8.size) _); clear b8)
                | (go_at_call 18; refine (HP.out _ A8.out).mono ?_; rintro e w9 ⟨rfl, b9⟩; have B9 := Lib.hid (A8.out.trans (b9.mono A8.out.size)); clear b9))
              go_ret
              exact ⟨rfl, B9.out⟩
end Go.Proofs.YthkeoeobpdminaaDoor
