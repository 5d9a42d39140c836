/-
  WALK: dateToken.
-/
import Derived.Test.YtlihkmhhfnkkoaaDoorWLex7
namespace Go.Proofs.YtlihkmhhfnkkoaaDoor
open Go.RowKit Lx
set_option linter.unusedVariables false
set_option linter.unusedSimpArgs false

theorem fits_nth : ∀ {fs : List Nat} {r : L}, fits fs r = true → ∀ i, i < fs.length → fitN (nthN r i) (fs.getD i 0) = true
  | [], r, h, i, hi => by simp at hi
  | f :: fs, [], h, i, hi => by simp [fits] at h
  | f :: fs, c :: r, h, 0, hi => by simp only [fits, Bool.and_eq_true] at h; simpa [nthN] using h.1
  | f :: fs, c :: r, h, i + 1, hi => by
    simp only [fits, Bool.and_eq_true] at h
    have := fits_nth h.2 i (by simpa using hi)
    simpa [nthN] using this
theorem sh_fits {s : ByteArray} (h10 : s.size = 10) (h : fits form (lst s) = true) : shB s = true := by
  refine sh_true h10 (fun i hi => ?_)
  have h1 := fits_nth h i hi
  rw [nth_lst (by omega)] at h1
  rw [at8_lt (by omega)]
  have key : ∀ (c i : Nat), i < 10 → fitN c (form.getD i 0) = true → okB i (c : Int) = true := by
    intro c i hi hf
    rcases (show i = 0 ∨ i = 1 ∨ i = 2 ∨ i = 3 ∨ i = 4 ∨ i = 5 ∨ i = 6 ∨ i = 7 ∨ i = 8 ∨ i = 9 by omega) with rfl|rfl|rfl|rfl|rfl|rfl|rfl|rfl|rfl|rfl
    all_goals
      simp [form, fitN, dgN, List.getD] at hf
      simp [okB]
      omega
  exact key _ i hi h1
theorem ext_lst (s : ByteArray) (a b : Nat) : (s.extract a b).data.toList = ((lst s).take b).drop a := by
  obtain ⟨⟨l⟩⟩ := s
  rw [ByteArray.data_extract]
  simp [lst, List.drop_take]
theorem date_vals {s : ByteArray} (h10 : s.size = 10) : dv (fA s) = dY (lst s) ∧ dv (fB s) = dM (lst s) ∧ dv (fC s) = dD (lst s) := by
  have hl := lst_len s
  unfold fA fB fC dY dM dD
  rw [ext_lst, ext_lst, ext_lst]
  refine ⟨by simp [dv, dvL], ?_, ?_⟩
  · rw [List.drop_take]; rfl
  · rw [List.drop_take]; rfl
theorem datT_yes {s : ByteArray} (h10 : s.size = 10) (h : fits form (lst s) = true) (hp : prB s = true) : datT (lst s) = .tok ⟨4, lst s, 0, 0, dv (fA s), dv (fB s), dv (fC s), 0, 0⟩ := by
  obtain ⟨a, b, c⟩ := date_vals h10
  have hp' : Cal.exB (dv (fA s)) (dv (fB s)) (dv (fC s)) = true := by unfold prB at hp; rw [Bool.and_eq_true] at hp; exact hp.2
  unfold datT
  rw [← a, ← b, ← c, if_pos hp', List.take_of_length_le (by rw [lst_len]; omega)]
theorem datT_no {s : ByteArray} (h10 : s.size = 10) (h : fits form (lst s) = true) (hp : prB s = false) : datT (lst s) = .err 0 62 := by
  obtain ⟨a, b, c⟩ := date_vals h10
  have hp' : Cal.exB (dv (fA s)) (dv (fB s)) (dv (fC s)) = false := by unfold prB at hp; rw [sh_fits h10 h, Bool.true_and] at hp; exact hp
  unfold datT
  rw [← a, ← b, ← c, if_neg (by rw [hp']; simp)]
theorem two_kept {w w1 : World} {o o' : Obj} (b : Below (w.alloc o).heap.size (w.alloc o) w1) : (w1.alloc o').heap[w.heap.size]? = some o := (Below.heap_alloc _ _ _ (size_kept b)).trans (alloc_kept b)
theorem set9 {w : World} {g : Nat} {b0 b1 b2 b3 b4 b5 b6 b7 b8 : Value} {T : TypeId} (h : w.heap[g]? = some (.cells #[b0, b1, b2, b3, b4, b5, b6, b7, b8] T)) (a0 a1 a2 a3 a4 a5 a6 a7 a8 : Value) :
    (((((((((w.setCell ⟨g, 0, none⟩ a0).setCell ⟨g, 1, none⟩ a1).setCell ⟨g, 2, none⟩ a2).setCell ⟨g, 3, none⟩ a3).setCell ⟨g, 4, none⟩ a4).setCell ⟨g, 5, none⟩ a5).setCell ⟨g, 6, none⟩ a6).setCell ⟨g, 7, none⟩ a7).setCell ⟨g, 8, none⟩ a8).heap[g]? = some (.cells #[a0, a1, a2, a3, a4, a5, a6, a7, a8] T) := by
  have h0 : (w.setCell ⟨g, 0, none⟩ a0).heap[g]? = some (.cells #[a0, b1, b2, b3, b4, b5, b6, b7, b8] T) := Joins.block_setCell (i := 0) h a0
  generalize w.setCell ⟨g, 0, none⟩ a0 = w at h0 ⊢
  have h1 : (w.setCell ⟨g, 1, none⟩ a1).heap[g]? = some (.cells #[a0, a1, b2, b3, b4, b5, b6, b7, b8] T) := Joins.block_setCell (i := 1) h0 a1
  generalize w.setCell ⟨g, 1, none⟩ a1 = w at h1 ⊢
  have h2 : (w.setCell ⟨g, 2, none⟩ a2).heap[g]? = some (.cells #[a0, a1, a2, b3, b4, b5, b6, b7, b8] T) := Joins.block_setCell (i := 2) h1 a2
  generalize w.setCell ⟨g, 2, none⟩ a2 = w at h2 ⊢
  have h3 : (w.setCell ⟨g, 3, none⟩ a3).heap[g]? = some (.cells #[a0, a1, a2, a3, b4, b5, b6, b7, b8] T) := Joins.block_setCell (i := 3) h2 a3
  generalize w.setCell ⟨g, 3, none⟩ a3 = w at h3 ⊢
  have h4 : (w.setCell ⟨g, 4, none⟩ a4).heap[g]? = some (.cells #[a0, a1, a2, a3, a4, b5, b6, b7, b8] T) := Joins.block_setCell (i := 4) h3 a4
  generalize w.setCell ⟨g, 4, none⟩ a4 = w at h4 ⊢
  have h5 : (w.setCell ⟨g, 5, none⟩ a5).heap[g]? = some (.cells #[a0, a1, a2, a3, a4, a5, b6, b7, b8] T) := Joins.block_setCell (i := 5) h4 a5
  generalize w.setCell ⟨g, 5, none⟩ a5 = w at h5 ⊢
  have h6 : (w.setCell ⟨g, 6, none⟩ a6).heap[g]? = some (.cells #[a0, a1, a2, a3, a4, a5, a6, b7, b8] T) := Joins.block_setCell (i := 6) h5 a6
  generalize w.setCell ⟨g, 6, none⟩ a6 = w at h6 ⊢
  have h7 : (w.setCell ⟨g, 7, none⟩ a7).heap[g]? = some (.cells #[a0, a1, a2, a3, a4, a5, a6, a7, b8] T) := Joins.block_setCell (i := 7) h6 a7
  generalize w.setCell ⟨g, 7, none⟩ a7 = w at h7 ⊢
  have h8 : (w.setCell ⟨g, 8, none⟩ a8).heap[g]? = some (.cells #[a0, a1, a2, a3, a4, a5, a6, a7, a8] T) := Joins.block_setCell (i := 8) h7 a8
  exact h8
theorem set9a {w : World} {g : Nat} {b0 b1 b2 b3 b4 b5 b6 b7 b8 : Value} {T : TypeId} (h : w.heap[g]? = some (.cells #[b0, b1, b2, b3, b4, b5, b6, b7, b8] T)) (o : Obj) (a0 a1 a2 a3 a4 a5 a6 a7 a8 : Value) :
    TB ((((((((((w.setCell ⟨g, 0, none⟩ a0).setCell ⟨g, 1, none⟩ a1).setCell ⟨g, 2, none⟩ a2).setCell ⟨g, 3, none⟩ a3).setCell ⟨g, 4, none⟩ a4).setCell ⟨g, 5, none⟩ a5).setCell ⟨g, 6, none⟩ a6).setCell ⟨g, 7, none⟩ a7).setCell ⟨g, 8, none⟩ a8).alloc o) g a0 a1 a2 a3 a4 a5 a6 a7 a8 :=
  box_tok ((Below.heap_alloc _ _ _ (Array.getElem?_eq_some_iff.1 (set9 h a0 a1 a2 a3 a4 a5 a6 a7 a8)).1).trans (set9 h a0 a1 a2 a3 a4 a5 a6 a7 a8))
theorem below9a {B : Nat} {w0 w : World} {g : Nat} (h : Below B w0 w) (hg : B ≤ g) (hl : B ≤ w.heap.size) (o : Obj) (a0 a1 a2 a3 a4 a5 a6 a7 a8 : Value) :
    Below B w0 ((((((((((w.setCell ⟨g, 0, none⟩ a0).setCell ⟨g, 1, none⟩ a1).setCell ⟨g, 2, none⟩ a2).setCell ⟨g, 3, none⟩ a3).setCell ⟨g, 4, none⟩ a4).setCell ⟨g, 5, none⟩ a5).setCell ⟨g, 6, none⟩ a6).setCell ⟨g, 7, none⟩ a7).setCell ⟨g, 8, none⟩ a8).alloc o) :=
  (((((((((h.setCell (p := ⟨g, 0, none⟩) hg _).setCell (p := ⟨g, 1, none⟩) hg _).setCell (p := ⟨g, 2, none⟩) hg _).setCell (p := ⟨g, 3, none⟩) hg _).setCell (p := ⟨g, 4, none⟩) hg _).setCell (p := ⟨g, 5, none⟩) hg _).setCell (p := ⟨g, 6, none⟩) hg _).setCell (p := ⟨g, 7, none⟩) hg _).setCell (p := ⟨g, 8, none⟩) hg _).alloc (by simp; exact hl) _
set_option maxHeartbeats 1000000 in
theorem dateToken_any (s : ByteArray) (w : World) (hM : Mon w) (h10 : s.size = 10) (h : fits form (lst s) = true) :
    Calls Tryd.prog 10 #[.string s] w fun e w' => e = stEnd (datT (lst s)) ∧ Below w.heap.size w w' := by
  have KP := Lib.hid (fun W hM => parse_any s W hM (by omega))
  have MA := Lib.hid (p := ∀ o, Mon (w.alloc o)) (fun o => mon_alloc hM)
  have ES := bs_lst s
  cases hp : prB s with
  | true =>
    rw [datT_yes h10 h hp]
    rw [prEnd_yes hp] at KP
    generalize dv (fA s) = Y at *
    generalize dv (fB s) = M at *
    generalize dv (fC s) = D at *
    clear h h10 hM hp
    go_enter Tryd.func10, Tryd.ntmps10
    go_wp2_with (go_at_call 24; refine (KP.out _ (MA.out _)).mono ?_; rintro e w1 ⟨rfl, b1⟩; have B1 := Lib.hid (alloc_below b1); obtain ⟨c0, c1, c2, c3, c4, c5, c6, c7, c8, ff⟩ := box_tok (alloc_kept b1); have z0 := size_kept b1; have HB := Lib.hid (alloc_kept b1); clear b1)
    obtain ⟨r0, r1, r2, r3, r4, r5, r6, r7, r8, rf⟩ := set9a HB.out (.cells #[.int .i64 Y, .int .i64 M, .int .i64 D] 28) (.int .i64 4) (.string s) (.int .i64 0) (.int .i64 0) (.int .i64 Y) (.int .i64 M) (.int .i64 D) (.int .i64 0) (.int .i64 0)
    exact bodyPost_ret (v := .tuple #[tokV ⟨4, lst s, 0, 0, Y, M, D, 0, 0⟩, .int .i64 0]) (by simp [results, Tryd.results10, go_sem, tokV, ES, r0, r1, r2, r3, r4, r5, r6, r7, r8]) rfl ⟨rfl, below9a B1.out (Nat.le_refl _) B1.out.size _ _ _ _ _ _ _ _ _ _⟩
  | false =>
    rw [datT_no h10 h hp]
    rw [prEnd_no hp] at KP
    clear h h10 hM hp
    go_enter Tryd.func10, Tryd.ntmps10
    go_wp2_with (go_at_call 24; refine (KP.out _ (MA.out _)).mono ?_; rintro e w1 ⟨rfl, b1⟩; have B1 := Lib.hid (alloc_below b1); obtain ⟨c0, c1, c2, c3, c4, c5, c6, c7, c8, ff⟩ := box_tok (alloc_kept b1); have z0 := size_kept b1; have HB := Lib.hid (alloc_kept b1); clear b1)
    obtain ⟨r0, r1, r2, r3, r4, r5, r6, r7, r8, rf⟩ := set9a HB.out (.cells #[.int .i64 0, .int .i64 0, .int .i64 0] 28) (.int .i64 0) (.string ⟨#[]⟩) (.int .i64 0) (.int .i64 0) (.int .i64 0) (.int .i64 0) (.int .i64 0) (.int .i64 0) (.int .i64 0)
    exact bodyPost_ret (v := .tuple #[tokV tok0, .int .i64 62]) (by simp [results, Tryd.results10, go_sem, tokV, tok0, bs, r0, r1, r2, r3, r4, r5, r6, r7, r8]) rfl ⟨rfl, below9a B1.out (Nat.le_refl _) B1.out.size _ _ _ _ _ _ _ _ _ _⟩
end Go.Proofs.YtlihkmhhfnkkoaaDoor
