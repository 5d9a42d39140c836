/-
  WALK: the document's token, what is no date.
-/
import Derived.Test.YtlihkmhhfnkkoaaDoorWRefLex9
import Derived.Test.YtlihkmhhfnkkoaaDoorWRefLex8
import Derived.Test.YtlihkmhhfnkkoaaDoorPlainRef7
namespace Go.Proofs.YtlihkmhhfnkkoaaDoor
open Go.RowKit Lx
set_option linter.unusedVariables false
set_option linter.unusedSimpArgs false

theorem lst_isEmpty {s : ByteArray} (h : 0 < s.size) : s.toList.isEmpty = false := by
  rw [toL]
  cases hl : lst s with
  | nil => have := lst_len s; rw [hl] at this; simp at this; omega
  | cons c q => rfl
theorem atV_nam (p : Nat → Bool) (k : Int) (l : L) (at_ : Nat) : namV p k l at_ = atV at_ (namT p k l) := by
  unfold namV namT
  split <;> rfl
theorem atV_mar {r : L} (hr : r ≠ []) (at_ : Nat) : atV at_ (marT r) = if markL r = [] then (tokR0, (at_ : Int), 61) else (⟨6, markL r, at_, 0, 0, 0, 0, 0, 0⟩, 0, 0) := by
  obtain ⟨c, q, rfl⟩ : ∃ c q, r = c :: q := by cases r with | nil => exact absurd rfl hr | cons c q => exact ⟨c, q, rfl⟩
  unfold marT markL
  by_cases h1 : isPair (c :: q) = true
  · rw [if_pos h1, if_pos h1, if_neg (by simp)]; rfl
  · rw [if_neg h1, if_neg h1]
    by_cases h2 : mkN ((c :: q).headD 0).toNat = true
    · rw [if_pos h2, if_pos h2, if_neg (by simp)]; rfl
    · rw [if_neg h2, if_neg h2, if_pos rfl, atV_err]
theorem below_in {w w' : World} {o : Obj} (b : Below (w.alloc o).heap.size (w.alloc o) w') : Below w.heap.size w w' :=
  ((Below.refl _ w).alloc (Nat.le_refl _) o).trans (b.mono (by simp))
set_option maxRecDepth 100000 in
set_option maxHeartbeats 2000000 in
theorem rtoken_num (s : ByteArray) (at_ : Nat) (w : World) (hs : s.size ≤ 65536) (ha : at_ < s.size) (hf : fits form ((lst s).drop at_) = false) (hd : dgN (((lst s).drop at_).headD 0).toNat = true) :
    Calls Tryd.prog 20 #[.string s, .int .i64 (at_ : Int)] w fun e w' => e = trEnd (atV at_ (digR (run ((lst s).drop at_)))) ∧ Below w.heap.size w w' := by
  have hr : (lst s).drop at_ ≠ [] := by intro e; have := congrArg List.length e; rw [List.length_drop, lst_len] at this; simp at this; omega
  have KD := Lib.hid (fun W => rdated_any s at_ W hs (by omega))
  rw [hf] at KD
  have KR := Lib.hid (fun W => rrun_any s at_ W (by omega) (by omega))
  obtain ⟨q, hq⟩ := run_head hr (rn_dg hd)
  have RI := run_mem ((lst s).drop at_)
  have RL := run_len ((lst s).drop at_)
  rw [List.length_drop, lst_len] at RL
  obtain ⟨sr, hsr⟩ : ∃ sr, bs (run ((lst s).drop at_)) = sr := ⟨_, rfl⟩
  have HR : lst sr = run ((lst s).drop at_) := by rw [← hsr, lst_bs]
  have hz : sr.size = (run ((lst s).drop at_)).length := by rw [← hsr, bs_size]
  have h1 : 1 ≤ sr.size := by rw [hz, hq]; simp
  have z0 : 0 < sr.size := by omega
  have EH : (((lst s).drop at_).headD 0).toNat = sr[0].toNat := by rw [← nth_lst z0, HR, hq]; rfl
  have em := lst_isEmpty z0
  rw [hsr] at KR
  rw [EH] at hd
  have KG := Lib.hid (fun W => rdigit_any (sr[0].toNat) W)
  rw [hd] at KG
  have KX := Lib.hid (fun W => rnumbers_any sr at_ W h1 (by omega))
  rw [HR] at KX
  obtain ⟨V, hV⟩ : ∃ V, atV at_ (digR (run ((lst s).drop at_))) = V := ⟨_, rfl⟩
  rw [hV] at KX ⊢
  obtain ⟨⟨tk, tt, ta, tn, ty, tm, td, tnn, tu⟩, tp, te⟩ := V
  obtain ⟨st, hst⟩ : ∃ st, bs tt = st := ⟨_, rfl⟩
  simp only [trEnd, tokR] at KX ⊢
  rw [hst] at KX ⊢
  clear hV hst
  clear hf hd hq RI RL hsr HR hz EH
  go_enter Tryd.func20, Tryd.ntmps20
  go_wp2_with (first | (go_at_call 30; refine (KD.out _).mono ?_; rintro e w' ⟨rfl, hw⟩; have hw' := hw.symm; clear hw; subst hw') | (go_at_call 33; refine (KR.out _).mono ?_; rintro e w' ⟨rfl, hw⟩; have hw' := hw.symm; clear hw; subst hw') | (go_at_call 34; refine (KG.out _).mono ?_; rintro e w' ⟨rfl, hw⟩; have hw' := hw.symm; clear hw; subst hw') | (go_at_call 35; refine (KX.out _).mono ?_; rintro e w5 ⟨rfl, b5⟩; have B5 := Lib.hid (below_in b5); have R5 := Lib.hid (p := RB w5 w.heap.size (.int .i64 0) (.string ⟨#[]⟩) (.int .i64 0) (.int .i64 0) (.int .i64 0) (.int .i64 0) (.int .i64 0) (.int .i64 0) (.int .i64 0)) ⟨(b5.block _ (by simp)).trans (World.alloc_heap_new w _)⟩; have FIN := Lib.hid (R5.out.set9 (.int .i64 tk) (.string st) (.int .i64 ta) (.int .i64 tn) (.int .i64 ty) (.int .i64 tm) (.int .i64 td) (.int .i64 tnn) (.int .i64 tu)); obtain ⟨y0, y1, y2, y3, y4, y5, y6, y7, y8, yf⟩ := R5.out.c; obtain ⟨r0, r1, r2, r3, r4, r5, r6, r7, r8, rf⟩ := FIN.out.c; clear b5))
  exact bodyPost_ret (v := .tuple #[.agg #[.int .i64 tk, .string st, .int .i64 ta, .int .i64 tn, .int .i64 ty, .int .i64 tm, .int .i64 td, .int .i64 tnn, .int .i64 tu], .int .i64 tp, .int .i64 te]) (by simp [results, Tryd.results20, go_sem, r0, r1, r2, r3, r4, r5, r6, r7, r8]) rfl ⟨rfl, belowR9 B5.out (Nat.le_refl _) _ _ _ _ _ _ _ _ _⟩
set_option maxRecDepth 100000 in
set_option maxHeartbeats 2000000 in
theorem rtoken_small (s : ByteArray) (at_ : Nat) (w : World) (hs : s.size ≤ 65536) (ha : at_ < s.size) (hf : fits form ((lst s).drop at_) = false) (hd : smN (((lst s).drop at_).headD 0).toNat = true) :
    Calls Tryd.prog 20 #[.string s, .int .i64 (at_ : Int)] w fun e w' => e = trEnd (atV at_ (namT smN 1 (run ((lst s).drop at_)))) ∧ Below w.heap.size w w' := by
  have hr : (lst s).drop at_ ≠ [] := by intro e; have := congrArg List.length e; rw [List.length_drop, lst_len] at this; simp at this; omega
  have KD := Lib.hid (fun W => rdated_any s at_ W hs (by omega))
  rw [hf] at KD
  have KR := Lib.hid (fun W => rrun_any s at_ W (by omega) (by omega))
  obtain ⟨q, hq⟩ := run_head hr (rn_sm hd)
  have RI := run_mem ((lst s).drop at_)
  have RL := run_len ((lst s).drop at_)
  rw [List.length_drop, lst_len] at RL
  obtain ⟨sr, hsr⟩ : ∃ sr, bs (run ((lst s).drop at_)) = sr := ⟨_, rfl⟩
  have HR : lst sr = run ((lst s).drop at_) := by rw [← hsr, lst_bs]
  have hz : sr.size = (run ((lst s).drop at_)).length := by rw [← hsr, bs_size]
  have h1 : 1 ≤ sr.size := by rw [hz, hq]; simp
  have z0 : 0 < sr.size := by omega
  have EH : (((lst s).drop at_).headD 0).toNat = sr[0].toNat := by rw [← nth_lst z0, HR, hq]; rfl
  have em := lst_isEmpty z0
  rw [hsr] at KR
  rw [EH] at hd
  have KG := Lib.hid (fun W => rdigit_any (sr[0].toNat) W)
  rw [(sm_noT hd).1] at KG
  have n95 : ((sr[0].toNat : Int) != 95) = true := by rw [bne_iff_ne]; have := (sm_noT hd).2.2; omega
  have KX := Lib.hid (fun W => rnames_small sr at_ W h1 (by omega) (fun i hi => by
    have hl : i < (lst sr).length := by rw [lst_len]; exact hi
    rw [show nthN (lst sr) i = ((lst sr)[i]).toNat by simp [nthN, List.getD, hl]]
    exact RI _ (by rw [← HR]; exact List.getElem_mem hl)) (by rw [nth_lst z0]; exact (sm_noT hd).2.1))
  rw [HR, atV_nam] at KX
  obtain ⟨V, hV⟩ : ∃ V, atV at_ (namT smN 1 (run ((lst s).drop at_))) = V := ⟨_, rfl⟩
  rw [hV] at KX ⊢
  obtain ⟨⟨tk, tt, ta, tn, ty, tm, td, tnn, tu⟩, tp, te⟩ := V
  obtain ⟨st, hst⟩ : ∃ st, bs tt = st := ⟨_, rfl⟩
  simp only [trEnd, tokR] at KX ⊢
  rw [hst] at KX ⊢
  clear hV hst
  clear hf hd hq RI RL hsr HR hz EH
  go_enter Tryd.func20, Tryd.ntmps20
  go_wp2_with (first | (go_at_call 30; refine (KD.out _).mono ?_; rintro e w' ⟨rfl, hw⟩; have hw' := hw.symm; clear hw; subst hw') | (go_at_call 33; refine (KR.out _).mono ?_; rintro e w' ⟨rfl, hw⟩; have hw' := hw.symm; clear hw; subst hw') | (go_at_call 34; refine (KG.out _).mono ?_; rintro e w' ⟨rfl, hw⟩; have hw' := hw.symm; clear hw; subst hw') | (go_at_call 36; refine (KX.out _).mono ?_; rintro e w5 ⟨rfl, b5⟩; have B5 := Lib.hid (below_in b5); have R5 := Lib.hid (p := RB w5 w.heap.size (.int .i64 0) (.string ⟨#[]⟩) (.int .i64 0) (.int .i64 0) (.int .i64 0) (.int .i64 0) (.int .i64 0) (.int .i64 0) (.int .i64 0)) ⟨(b5.block _ (by simp)).trans (World.alloc_heap_new w _)⟩; have FIN := Lib.hid (R5.out.set9 (.int .i64 tk) (.string st) (.int .i64 ta) (.int .i64 tn) (.int .i64 ty) (.int .i64 tm) (.int .i64 td) (.int .i64 tnn) (.int .i64 tu)); obtain ⟨y0, y1, y2, y3, y4, y5, y6, y7, y8, yf⟩ := R5.out.c; obtain ⟨r0, r1, r2, r3, r4, r5, r6, r7, r8, rf⟩ := FIN.out.c; clear b5))
  exact bodyPost_ret (v := .tuple #[.agg #[.int .i64 tk, .string st, .int .i64 ta, .int .i64 tn, .int .i64 ty, .int .i64 tm, .int .i64 td, .int .i64 tnn, .int .i64 tu], .int .i64 tp, .int .i64 te]) (by simp [results, Tryd.results20, go_sem, r0, r1, r2, r3, r4, r5, r6, r7, r8]) rfl ⟨rfl, belowR9 B5.out (Nat.le_refl _) _ _ _ _ _ _ _ _ _⟩
set_option maxRecDepth 100000 in
set_option maxHeartbeats 2000000 in
theorem rtoken_cap (s : ByteArray) (at_ : Nat) (w : World) (hs : s.size ≤ 65536) (ha : at_ < s.size) (hf : fits form ((lst s).drop at_) = false) (hd : cpN (((lst s).drop at_).headD 0).toNat = true) :
    Calls Tryd.prog 20 #[.string s, .int .i64 (at_ : Int)] w fun e w' => e = trEnd (atV at_ (namT cpN 2 (run ((lst s).drop at_)))) ∧ Below w.heap.size w w' := by
  have hr : (lst s).drop at_ ≠ [] := by intro e; have := congrArg List.length e; rw [List.length_drop, lst_len] at this; simp at this; omega
  have KD := Lib.hid (fun W => rdated_any s at_ W hs (by omega))
  rw [hf] at KD
  have KR := Lib.hid (fun W => rrun_any s at_ W (by omega) (by omega))
  obtain ⟨q, hq⟩ := run_head hr (rn_cp hd)
  have RI := run_mem ((lst s).drop at_)
  have RL := run_len ((lst s).drop at_)
  rw [List.length_drop, lst_len] at RL
  obtain ⟨sr, hsr⟩ : ∃ sr, bs (run ((lst s).drop at_)) = sr := ⟨_, rfl⟩
  have HR : lst sr = run ((lst s).drop at_) := by rw [← hsr, lst_bs]
  have hz : sr.size = (run ((lst s).drop at_)).length := by rw [← hsr, bs_size]
  have h1 : 1 ≤ sr.size := by rw [hz, hq]; simp
  have z0 : 0 < sr.size := by omega
  have EH : (((lst s).drop at_).headD 0).toNat = sr[0].toNat := by rw [← nth_lst z0, HR, hq]; rfl
  have em := lst_isEmpty z0
  rw [hsr] at KR
  rw [EH] at hd
  have KG := Lib.hid (fun W => rdigit_any (sr[0].toNat) W)
  rw [(cp_noT hd).1] at KG
  have n95 : ((sr[0].toNat : Int) != 95) = true := by rw [bne_iff_ne]; have := (cp_noT hd).2.2; omega
  have KX := Lib.hid (fun W => rnames_capital sr at_ W h1 (by omega) (fun i hi => by
    have hl : i < (lst sr).length := by rw [lst_len]; exact hi
    rw [show nthN (lst sr) i = ((lst sr)[i]).toNat by simp [nthN, List.getD, hl]]
    exact RI _ (by rw [← HR]; exact List.getElem_mem hl)) (by rw [nth_lst z0]; exact hd))
  rw [HR, atV_nam] at KX
  obtain ⟨V, hV⟩ : ∃ V, atV at_ (namT cpN 2 (run ((lst s).drop at_))) = V := ⟨_, rfl⟩
  rw [hV] at KX ⊢
  obtain ⟨⟨tk, tt, ta, tn, ty, tm, td, tnn, tu⟩, tp, te⟩ := V
  obtain ⟨st, hst⟩ : ∃ st, bs tt = st := ⟨_, rfl⟩
  simp only [trEnd, tokR] at KX ⊢
  rw [hst] at KX ⊢
  clear hV hst
  clear hf hd hq RI RL hsr HR hz EH
  go_enter Tryd.func20, Tryd.ntmps20
  go_wp2_with (first | (go_at_call 30; refine (KD.out _).mono ?_; rintro e w' ⟨rfl, hw⟩; have hw' := hw.symm; clear hw; subst hw') | (go_at_call 33; refine (KR.out _).mono ?_; rintro e w' ⟨rfl, hw⟩; have hw' := hw.symm; clear hw; subst hw') | (go_at_call 34; refine (KG.out _).mono ?_; rintro e w' ⟨rfl, hw⟩; have hw' := hw.symm; clear hw; subst hw') | (go_at_call 36; refine (KX.out _).mono ?_; rintro e w5 ⟨rfl, b5⟩; have B5 := Lib.hid (below_in b5); have R5 := Lib.hid (p := RB w5 w.heap.size (.int .i64 0) (.string ⟨#[]⟩) (.int .i64 0) (.int .i64 0) (.int .i64 0) (.int .i64 0) (.int .i64 0) (.int .i64 0) (.int .i64 0)) ⟨(b5.block _ (by simp)).trans (World.alloc_heap_new w _)⟩; have FIN := Lib.hid (R5.out.set9 (.int .i64 tk) (.string st) (.int .i64 ta) (.int .i64 tn) (.int .i64 ty) (.int .i64 tm) (.int .i64 td) (.int .i64 tnn) (.int .i64 tu)); obtain ⟨y0, y1, y2, y3, y4, y5, y6, y7, y8, yf⟩ := R5.out.c; obtain ⟨r0, r1, r2, r3, r4, r5, r6, r7, r8, rf⟩ := FIN.out.c; clear b5))
  exact bodyPost_ret (v := .tuple #[.agg #[.int .i64 tk, .string st, .int .i64 ta, .int .i64 tn, .int .i64 ty, .int .i64 tm, .int .i64 td, .int .i64 tnn, .int .i64 tu], .int .i64 tp, .int .i64 te]) (by simp [results, Tryd.results20, go_sem, r0, r1, r2, r3, r4, r5, r6, r7, r8]) rfl ⟨rfl, belowR9 B5.out (Nat.le_refl _) _ _ _ _ _ _ _ _ _⟩
end Go.Proofs.YtlihkmhhfnkkoaaDoor
