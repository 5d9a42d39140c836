/-
  WALK: the document's token, marks.
-/
import Derived.Test.YtlihkmhhfnkkoaaDoorWRefLex10
namespace Go.Proofs.YtlihkmhhfnkkoaaDoor
open Go.RowKit Lx
set_option linter.unusedVariables false
set_option linter.unusedSimpArgs false

set_option maxRecDepth 100000 in
set_option maxHeartbeats 2000000 in
theorem rtoken_no0 (s : ByteArray) (at_ : Nat) (w : World) (hs : s.size ≤ 65536) (ha : at_ < s.size) (hf : fits form ((lst s).drop at_) = false) (hd : rnN (((lst s).drop at_).headD 0).toNat = false) (hm : markL ((lst s).drop at_) = []) :
    Calls Tryd.prog 20 #[.string s, .int .i64 (at_ : Int)] w fun e w' => e = trEnd ((tokR0, (at_ : Int), 61)) ∧ Below w.heap.size w w' := by
  have hr : (lst s).drop at_ ≠ [] := by intro e; have := congrArg List.length e; rw [List.length_drop, lst_len] at this; simp at this; omega
  have KD := Lib.hid (fun W => rdated_any s at_ W hs (by omega))
  rw [hf] at KD
  have KR := Lib.hid (fun W => rrun_any s at_ W (by omega) (by omega))
  have KM := Lib.hid (fun W => rmarks_any s at_ W hs ha)
  rw [run_nil hd, show bs [] = (⟨#[]⟩ : ByteArray) from rfl] at KR
  rw [hm, show bs [] = (⟨#[]⟩ : ByteArray) from rfl] at KM
  clear hm
  clear hf hd hr
  go_enter Tryd.func20, Tryd.ntmps20
  go_wp2_with (first | (go_at_call 30; refine (KD.out _).mono ?_; rintro e w' ⟨rfl, hw⟩; have hw' := hw.symm; clear hw; subst hw') | (go_at_call 33; refine (KR.out _).mono ?_; rintro e w' ⟨rfl, hw⟩; have hw' := hw.symm; clear hw; subst hw') | (go_at_call 37; refine (KM.out _).mono ?_; rintro e w5 ⟨rfl, b5⟩; have B5 := Lib.hid (below_in b5); have R5 := Lib.hid (p := RB w5 w.heap.size (.int .i64 0) (.string ⟨#[]⟩) (.int .i64 0) (.int .i64 0) (.int .i64 0) (.int .i64 0) (.int .i64 0) (.int .i64 0) (.int .i64 0)) ⟨(b5.block _ (by simp)).trans (World.alloc_heap_new w _)⟩; have FIN := Lib.hid (R5.out.set9 (.int .i64 0) (.string ⟨#[]⟩) (.int .i64 0) (.int .i64 0) (.int .i64 0) (.int .i64 0) (.int .i64 0) (.int .i64 0) (.int .i64 0)); obtain ⟨y0, y1, y2, y3, y4, y5, y6, y7, y8, yf⟩ := R5.out.c; obtain ⟨r0, r1, r2, r3, r4, r5, r6, r7, r8, rf⟩ := FIN.out.c; clear b5))
  exact bodyPost_ret (v := .tuple #[tokR tokR0, .int .i64 (at_ : Int), .int .i64 61]) (by simp [results, Tryd.results20, go_sem, tokR, tokR0, bs, r0, r1, r2, r3, r4, r5, r6, r7, r8]) rfl ⟨rfl, belowR9 B5.out (Nat.le_refl _) _ _ _ _ _ _ _ _ _⟩
set_option maxRecDepth 100000 in
set_option maxHeartbeats 2000000 in
theorem rtoken_no1 (s : ByteArray) (at_ : Nat) (w : World) (hs : s.size ≤ 65536) (ha : at_ < s.size) (hf : fits form ((lst s).drop at_) = false) (hd : rnN (((lst s).drop at_).headD 0).toNat = false) (hm : markL ((lst s).drop at_) ≠ []) :
    Calls Tryd.prog 20 #[.string s, .int .i64 (at_ : Int)] w fun e w' => e = trEnd (⟨6, markL ((lst s).drop at_), at_, 0, 0, 0, 0, 0, 0⟩, 0, 0) ∧ Below w.heap.size w w' := by
  have hr : (lst s).drop at_ ≠ [] := by intro e; have := congrArg List.length e; rw [List.length_drop, lst_len] at this; simp at this; omega
  have KD := Lib.hid (fun W => rdated_any s at_ W hs (by omega))
  rw [hf] at KD
  have KR := Lib.hid (fun W => rrun_any s at_ W (by omega) (by omega))
  have KM := Lib.hid (fun W => rmarks_any s at_ W hs ha)
  rw [run_nil hd, show bs [] = (⟨#[]⟩ : ByteArray) from rfl] at KR
  obtain ⟨M, hM⟩ : ∃ M, markL ((lst s).drop at_) = M := ⟨_, rfl⟩
  rw [hM] at KM hm
  obtain ⟨sm, hsm⟩ : ∃ sm, bs M = sm := ⟨_, rfl⟩
  rw [hsm] at KM
  have mm := lst_isEmpty (s := sm) (by rw [← hsm, bs_size]; exact List.length_pos_iff.2 hm)
  have HS := Lib.hid hsm
  rw [hM]
  clear hm hsm hM
  clear hf hd hr
  go_enter Tryd.func20, Tryd.ntmps20
  go_wp2_with (first | (go_at_call 30; refine (KD.out _).mono ?_; rintro e w' ⟨rfl, hw⟩; have hw' := hw.symm; clear hw; subst hw') | (go_at_call 33; refine (KR.out _).mono ?_; rintro e w' ⟨rfl, hw⟩; have hw' := hw.symm; clear hw; subst hw') | (go_at_call 37; refine (KM.out _).mono ?_; rintro e w5 ⟨rfl, b5⟩; have B5 := Lib.hid (below_in b5); have R5 := Lib.hid (p := RB w5 w.heap.size (.int .i64 0) (.string ⟨#[]⟩) (.int .i64 0) (.int .i64 0) (.int .i64 0) (.int .i64 0) (.int .i64 0) (.int .i64 0) (.int .i64 0)) ⟨(b5.block _ (by simp)).trans (World.alloc_heap_new w _)⟩; have FIN := Lib.hid (R5.out.set9 (.int .i64 6) (.string sm) (.int .i64 (at_ : Int)) (.int .i64 0) (.int .i64 0) (.int .i64 0) (.int .i64 0) (.int .i64 0) (.int .i64 0)); obtain ⟨y0, y1, y2, y3, y4, y5, y6, y7, y8, yf⟩ := R5.out.c; obtain ⟨r0, r1, r2, r3, r4, r5, r6, r7, r8, rf⟩ := FIN.out.c; clear b5))
  exact bodyPost_ret (v := .tuple #[tokR ⟨6, M, at_, 0, 0, 0, 0, 0, 0⟩, .int .i64 0, .int .i64 0]) (by simp [results, Tryd.results20, go_sem, tokR, HS.out, r0, r1, r2, r3, r4, r5, r6, r7, r8]) rfl ⟨rfl, belowR9 B5.out (Nat.le_refl _) _ _ _ _ _ _ _ _ _⟩
set_option maxRecDepth 100000 in
set_option maxHeartbeats 2000000 in
theorem rtoken_us0 (s : ByteArray) (at_ : Nat) (w : World) (hs : s.size ≤ 65536) (ha : at_ < s.size) (hf : fits form ((lst s).drop at_) = false) (hd : (((lst s).drop at_).headD 0).toNat = 95) (hm : markL ((lst s).drop at_) = []) :
    Calls Tryd.prog 20 #[.string s, .int .i64 (at_ : Int)] w fun e w' => e = trEnd ((tokR0, (at_ : Int), 61)) ∧ Below w.heap.size w w' := by
  have hr : (lst s).drop at_ ≠ [] := by intro e; have := congrArg List.length e; rw [List.length_drop, lst_len] at this; simp at this; omega
  have KD := Lib.hid (fun W => rdated_any s at_ W hs (by omega))
  rw [hf] at KD
  have KR := Lib.hid (fun W => rrun_any s at_ W (by omega) (by omega))
  have KM := Lib.hid (fun W => rmarks_any s at_ W hs ha)
  obtain ⟨q, hq⟩ := run_head hr (by rw [hd]; rfl)
  obtain ⟨sr, hsr⟩ : ∃ sr, bs (run ((lst s).drop at_)) = sr := ⟨_, rfl⟩
  have HR : lst sr = run ((lst s).drop at_) := by rw [← hsr, lst_bs]
  have hz : sr.size = (run ((lst s).drop at_)).length := by rw [← hsr, bs_size]
  have z0 : 0 < sr.size := by rw [hz, hq]; simp
  have EH : (((lst s).drop at_).headD 0).toNat = sr[0].toNat := by rw [← nth_lst z0, HR, hq]; rfl
  have em := lst_isEmpty z0
  rw [hsr] at KR
  rw [EH] at hd
  have KG := Lib.hid (fun W => rdigit_any (sr[0].toNat) W)
  rw [hd, show dgN 95 = false from rfl] at KG
  have n95 : ((sr[0].toNat : Int) != 95) = false := by rw [hd]; rfl
  rw [hm, show bs [] = (⟨#[]⟩ : ByteArray) from rfl] at KM
  clear hm
  clear hf hq hsr HR hz EH hr
  go_enter Tryd.func20, Tryd.ntmps20
  go_wp2_with (first | (go_at_call 30; refine (KD.out _).mono ?_; rintro e w' ⟨rfl, hw⟩; have hw' := hw.symm; clear hw; subst hw') | (go_at_call 33; refine (KR.out _).mono ?_; rintro e w' ⟨rfl, hw⟩; have hw' := hw.symm; clear hw; subst hw') | (go_at_call 34; refine (KG.out _).mono ?_; rintro e w' ⟨rfl, hw⟩; have hw' := hw.symm; clear hw; subst hw') | (go_at_call 37; refine (KM.out _).mono ?_; rintro e w5 ⟨rfl, b5⟩; have B5 := Lib.hid (below_in b5); have R5 := Lib.hid (p := RB w5 w.heap.size (.int .i64 0) (.string ⟨#[]⟩) (.int .i64 0) (.int .i64 0) (.int .i64 0) (.int .i64 0) (.int .i64 0) (.int .i64 0) (.int .i64 0)) ⟨(b5.block _ (by simp)).trans (World.alloc_heap_new w _)⟩; have FIN := Lib.hid (R5.out.set9 (.int .i64 0) (.string ⟨#[]⟩) (.int .i64 0) (.int .i64 0) (.int .i64 0) (.int .i64 0) (.int .i64 0) (.int .i64 0) (.int .i64 0)); obtain ⟨y0, y1, y2, y3, y4, y5, y6, y7, y8, yf⟩ := R5.out.c; obtain ⟨r0, r1, r2, r3, r4, r5, r6, r7, r8, rf⟩ := FIN.out.c; clear b5))
  exact bodyPost_ret (v := .tuple #[tokR tokR0, .int .i64 (at_ : Int), .int .i64 61]) (by simp [results, Tryd.results20, go_sem, tokR, tokR0, bs, r0, r1, r2, r3, r4, r5, r6, r7, r8]) rfl ⟨rfl, belowR9 B5.out (Nat.le_refl _) _ _ _ _ _ _ _ _ _⟩
set_option maxRecDepth 100000 in
set_option maxHeartbeats 2000000 in
theorem rtoken_us1 (s : ByteArray) (at_ : Nat) (w : World) (hs : s.size ≤ 65536) (ha : at_ < s.size) (hf : fits form ((lst s).drop at_) = false) (hd : (((lst s).drop at_).headD 0).toNat = 95) (hm : markL ((lst s).drop at_) ≠ []) :
    Calls Tryd.prog 20 #[.string s, .int .i64 (at_ : Int)] w fun e w' => e = trEnd (⟨6, markL ((lst s).drop at_), at_, 0, 0, 0, 0, 0, 0⟩, 0, 0) ∧ Below w.heap.size w w' := by
  have hr : (lst s).drop at_ ≠ [] := by intro e; have := congrArg List.length e; rw [List.length_drop, lst_len] at this; simp at this; omega
  have KD := Lib.hid (fun W => rdated_any s at_ W hs (by omega))
  rw [hf] at KD
  have KR := Lib.hid (fun W => rrun_any s at_ W (by omega) (by omega))
  have KM := Lib.hid (fun W => rmarks_any s at_ W hs ha)
  obtain ⟨q, hq⟩ := run_head hr (by rw [hd]; rfl)
  obtain ⟨sr, hsr⟩ : ∃ sr, bs (run ((lst s).drop at_)) = sr := ⟨_, rfl⟩
  have HR : lst sr = run ((lst s).drop at_) := by rw [← hsr, lst_bs]
  have hz : sr.size = (run ((lst s).drop at_)).length := by rw [← hsr, bs_size]
  have z0 : 0 < sr.size := by rw [hz, hq]; simp
  have EH : (((lst s).drop at_).headD 0).toNat = sr[0].toNat := by rw [← nth_lst z0, HR, hq]; rfl
  have em := lst_isEmpty z0
  rw [hsr] at KR
  rw [EH] at hd
  have KG := Lib.hid (fun W => rdigit_any (sr[0].toNat) W)
  rw [hd, show dgN 95 = false from rfl] at KG
  have n95 : ((sr[0].toNat : Int) != 95) = false := by rw [hd]; rfl
  obtain ⟨M, hM⟩ : ∃ M, markL ((lst s).drop at_) = M := ⟨_, rfl⟩
  rw [hM] at KM hm
  obtain ⟨sm, hsm⟩ : ∃ sm, bs M = sm := ⟨_, rfl⟩
  rw [hsm] at KM
  have mm := lst_isEmpty (s := sm) (by rw [← hsm, bs_size]; exact List.length_pos_iff.2 hm)
  have HS := Lib.hid hsm
  rw [hM]
  clear hm hsm hM
  clear hf hq hsr HR hz EH hr
  go_enter Tryd.func20, Tryd.ntmps20
  go_wp2_with (first | (go_at_call 30; refine (KD.out _).mono ?_; rintro e w' ⟨rfl, hw⟩; have hw' := hw.symm; clear hw; subst hw') | (go_at_call 33; refine (KR.out _).mono ?_; rintro e w' ⟨rfl, hw⟩; have hw' := hw.symm; clear hw; subst hw') | (go_at_call 34; refine (KG.out _).mono ?_; rintro e w' ⟨rfl, hw⟩; have hw' := hw.symm; clear hw; subst hw') | (go_at_call 37; refine (KM.out _).mono ?_; rintro e w5 ⟨rfl, b5⟩; have B5 := Lib.hid (below_in b5); have R5 := Lib.hid (p := RB w5 w.heap.size (.int .i64 0) (.string ⟨#[]⟩) (.int .i64 0) (.int .i64 0) (.int .i64 0) (.int .i64 0) (.int .i64 0) (.int .i64 0) (.int .i64 0)) ⟨(b5.block _ (by simp)).trans (World.alloc_heap_new w _)⟩; have FIN := Lib.hid (R5.out.set9 (.int .i64 6) (.string sm) (.int .i64 (at_ : Int)) (.int .i64 0) (.int .i64 0) (.int .i64 0) (.int .i64 0) (.int .i64 0) (.int .i64 0)); obtain ⟨y0, y1, y2, y3, y4, y5, y6, y7, y8, yf⟩ := R5.out.c; obtain ⟨r0, r1, r2, r3, r4, r5, r6, r7, r8, rf⟩ := FIN.out.c; clear b5))
  exact bodyPost_ret (v := .tuple #[tokR ⟨6, M, at_, 0, 0, 0, 0, 0, 0⟩, .int .i64 0, .int .i64 0]) (by simp [results, Tryd.results20, go_sem, tokR, HS.out, r0, r1, r2, r3, r4, r5, r6, r7, r8]) rfl ⟨rfl, belowR9 B5.out (Nat.le_refl _) _ _ _ _ _ _ _ _ _⟩
theorem rtoken_mark (s : ByteArray) (at_ : Nat) (w : World) (hs : s.size ≤ 65536) (ha : at_ < s.size) (hf : fits form ((lst s).drop at_) = false) (hd : rnN (((lst s).drop at_).headD 0).toNat = false ∨ (((lst s).drop at_).headD 0).toNat = 95) :
    Calls Tryd.prog 20 #[.string s, .int .i64 (at_ : Int)] w fun e w' => e = trEnd (atV at_ (marT ((lst s).drop at_))) ∧ Below w.heap.size w w' := by
  have hr : (lst s).drop at_ ≠ [] := by intro e; have := congrArg List.length e; rw [List.length_drop, lst_len] at this; simp at this; omega
  rw [atV_mar hr]
  by_cases hm : markL ((lst s).drop at_) = []
  · rw [if_pos hm]
    rcases hd with hd | hd
    · exact rtoken_no0 s at_ w hs ha hf hd hm
    · exact rtoken_us0 s at_ w hs ha hf hd hm
  · rw [if_neg hm]
    rcases hd with hd | hd
    · exact rtoken_no1 s at_ w hs ha hf hd hm
    · exact rtoken_us1 s at_ w hs ha hf hd hm
end Go.Proofs.YtlihkmhhfnkkoaaDoor
