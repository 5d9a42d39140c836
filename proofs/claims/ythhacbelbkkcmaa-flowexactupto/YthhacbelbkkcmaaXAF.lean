import Derived.Test.YthhacbelbkkcmaaXAE
import Derived.Deep.RegionHeld3
import Derived.Test.YthhacbelbkkcmaaXAB
namespace Go.Proofs.Ythhacbelbkkcmaa
open Go.RowKit Go.Maps
set_option linter.unusedVariables false
set_option linter.unusedSimpArgs false

theorem boxA (w : World) (cs : Array Value) (T : TypeId) (o1 o2 : Obj) {o3 : Obj} (j : Nat) {v : Value} (h : cs[j]? = some v) : ((((w.alloc (.cells cs T)).alloc o1).alloc o2).alloc o3).cell? ⟨w.heap.size, j, none⟩ = some v := by
  rw [World.cell?_alloc_old _ _ _ (by simp; omega), World.cell?_alloc_old _ _ _ (by simp; omega), World.cell?_alloc_old _ _ _ (by simp), World.cell?_alloc_at _ _ _ _ rfl]
  exact h
theorem boxB (w : World) {o0 : Obj} (cs : Array Value) (T : TypeId) (o1 o2 : Obj) (j : Nat) {v : Value} (h : cs[j]? = some v) : ((((w.alloc o0).alloc o1).alloc o2).alloc (.cells cs T)).cell? ⟨w.heap.size + 1 + 1 + 1, j, none⟩ = some v := by
  rw [World.cell?_alloc_at _ _ _ _ (by simp)]
  exact h
set_option maxHeartbeats 2000000 in
set_option maxRecDepth 100000 in
theorem addUpN_out (b o n cap : Nat) (fs : List Fl) (w : World) (h1 : fs.length = n) (h2 : n ≤ 4398046511000) (hb : b < w.heap.size) (hc : ∀ i, i < n → FC w b (o + i * 3) (fs.getD i default)) (hw : ∀ i, i < n → inR (fs.getD i default).a ∧ (fs.getD i default).c.size ≤ maxLen ∧ inR (fs.getD i default).d)
    (ht : nets fs = none) :
    Calls Try.prog 26 #[.slice (some ⟨b, o, none⟩) n cap, .func (.func 24) #[] #[], .func (.func 25) #[] #[], .func (.func 27) #[] #[]] w fun e w' => e = .returned (.tuple #[.slice none 0 0, .int .i64 1]) ∧ Below w.heap.size w w' := by
  have HC := Lib.hid hc
  have HW := Lib.hid hw
  have HT := Lib.hid ht
  clear hc hw ht
  have hmm := @run_makeMap Try.prog
  go_enter Try.func26, Try.ntmps26
  go_wp2
  go_loopw [22] (fun t wr => ∃ k : Nat, ∃ D acc, k ≤ n ∧ t = .int .i64 k ∧ wr.ownsMap Try.prog 59 (plainElem Try.prog 3) w.heap.size k D ∧ RowKit.Hid (nets (fs.take k) = some acc) ∧ RowKit.Hid (SumsN D acc) ∧ Below w.heap.size w wr) (fun t _ => n - (intOf t).toNat)
  case atStart => exact ⟨0, _, _, by omega, rfl, World.ownsMap_made _ _ _ _, rfl, sumsN_none, (Below.refl _ _).alloc (Nat.le_refl _) _⟩
  case round =>
    obtain ⟨k, D, acc, hk, rfl, hown, hT, hS, hB⟩ := hrel
    rename World => wr
    by_cases hlt : k < n
    · obtain ⟨c0, c1, c2⟩ := (HC.out k hlt).later hB hb
      have kc : (k : Int) < (n : Int) := by omega
      obtain ⟨f, hf⟩ : ∃ f, fs.getD k default = f := ⟨_, rfl⟩
      have HN := Lib.hid (nets_step (k := k) (f := f) (by omega) hf)
      have HV := Lib.hid (HW.out k hlt)
      rw [hf] at c0 c1 c2 HV
      clear hf
      obtain ⟨fd, fc, fa⟩ := f
      simp only at c0 c1 c2
      obtain ⟨s, hs⟩ : ∃ s, (sumAt (fd, fc) acc).getD 0 = s := ⟨_, rfl⟩
      have HD := Lib.hid (p := ∀ c : Int, D.atKey (litK (fd, fc)) (.lit (.int .i64 0)) = .lit (.int .i64 c) → c = s) (fun c e => by
        rw [hS.out.2.1 (fd, fc) ⟨wf_of HV.out.2.2, HV.out.2.1⟩, hs] at e; injection e with e; injection e with _ e; exact e.symm)
      have hkey := keyP (wf_of HV.out.2.2) HV.out.2.1
      have BB := Lib.hid hB
      clear hB
      by_cases hfit : inR (s + fa)
      · have KA := Lib.hid (p := ∀ c : Int, D.atKey (litK (fd, fc)) (.lit (.int .i64 0)) = .lit (.int .i64 c) → (Lit.int .i64 c).wf = true → ∀ W, Calls Try.prog 41 #[.int .i64 c, .int .i64 fa] W fun e w' => e = .returned (.tuple #[.int .i64 (s + fa), .int .i64 0]) ∧ w' = W) (fun c e hwc W => by
          refine (add_any c fa (wf_inR hwc) HV.out.1 W).mono ?_
          rw [HD.out c e, fitV_in hfit, fitF_in hfit]
          exact fun _ _ h => h)
        have NX := Lib.hid (p := nets (fs.take (k + 1)) = some (setAt (fd, fc) (s + fa) acc)) (by
          rw [HN.out, hT.out]; simp only [Option.bind_some, hs]; rw [if_pos (fitB_in hfit)])
        have SX := Lib.hid (hS.out.set (fd, fc) ⟨wf_of HV.out.2.2, HV.out.2.1⟩ (s + fa))
        have WX := Lib.hid (wf_of hfit)
        generalize s + fa = S at *
        clear HN HD hs
        go_wp2_with (go_at_call 24; refine (netKeyW fd fa fc _).mono ?_; rintro e w1 ⟨rfl, o1, o2, rfl⟩)
        obtain ⟨W, hW⟩ : ∃ W, (((wr.alloc (.cells #[.int .i64 fd, .string fc, .int .i64 fa] 40)).alloc o1).alloc o2).alloc (.cells #[.int .i64 fd, .string fc] 59) = W := ⟨_, rfl⟩
        have a2 : W.cell? ⟨wr.heap.size, 2, none⟩ = some (.int .i64 fa) := by rw [← hW]; exact boxA wr _ _ _ _ 2 (by rfl)
        have p0 : W.cell? ⟨wr.heap.size + 1 + 1 + 1, 0, none⟩ = some (.int .i64 fd) := by rw [← hW]; exact boxB wr _ _ _ _ 0 (by rfl)
        have p1 : W.cell? ⟨wr.heap.size + 1 + 1 + 1, 1, none⟩ = some (.string fc) := by rw [← hW]; exact boxB wr _ _ _ _ 1 (by rfl)
        have OW := Lib.hid (p := W.ownsMap Try.prog 59 (plainElem Try.prog 3) w.heap.size k D) (by rw [← hW]; exact (((hown.alloc _).alloc _).alloc _).alloc _)
        have BW := Lib.hid (p := Below w.heap.size w W) (by rw [← hW]; exact (((BB.out.alloc BB.out.size _).alloc (Nat.le_trans BB.out.size (by simp)) _).alloc (Nat.le_trans BB.out.size (by simp; omega)) _).alloc (Nat.le_trans BB.out.size (by simp; omega)) _)
        rw [hW]
        clear hW hown c0 c1 c2
        obtain ⟨c, hrun, hat, hwc⟩ := OW.out.drew.lookup_int lawP Try.underlying82 Try.underlying3 (zeroI _) hkey
        have HA := Lib.hid (KA.out c hat hwc)
        clear hat hwc
        go_region_held3 (fun w' => w'.cell? ⟨wr.heap.size, 2, none⟩ = some (.int .i64 fa) ∧ w'.cell? ⟨wr.heap.size + 1 + 1 + 1, 0, none⟩ = some (.int .i64 fd) ∧ w'.cell? ⟨wr.heap.size + 1 + 1 + 1, 1, none⟩ = some (.string fc))
          (refine ⟨?_, ?_, ?_⟩ <;> first | assumption | (go_simp; done))
          (first | (go_at_call 41; refine (HA.out _).mono ?_; rintro e w1 ⟨rfl, rfl⟩))
        all_goals
          go_wp2_with (at_mapUpdate; refine wpList_mapUpdate_own _ rfl _ _ _ 82 rfl 59 3 lawP Try.underlying82 _ w.heap.size k _ rfl OW.out.drew (by unfold maxLen; omega) _ _ _ rfl rfl hkey _ [] (plainElem_int Try.underlying3 WX.out) ?_; intro w1 hown1 hgrow1)
          have R1 := Lib.hid hown1
          have R2 := Lib.hid (BW.out.drew.grown hgrow1 BW.out.size (fun j hj => by cases hj; exact Nat.le_refl _))
          clear hown1 hgrow1
          go_roundw
          case rel => exact ⟨k + 1, _, _, by omega, by go_num, R1.out, NX.out, SX.out, R2.out⟩
          case measure => simp [intOf]; omega
      · have KA := Lib.hid (p := ∀ c : Int, D.atKey (litK (fd, fc)) (.lit (.int .i64 0)) = .lit (.int .i64 c) → (Lit.int .i64 c).wf = true → ∀ W, Calls Try.prog 41 #[.int .i64 c, .int .i64 fa] W fun e w' => e = .returned (.tuple #[.int .i64 0, .int .i64 1]) ∧ w' = W) (fun c e hwc W => by
          refine (add_any c fa (wf_inR hwc) HV.out.1 W).mono ?_
          rw [HD.out c e, fitV_out hfit, fitF_out hfit]
          exact fun _ _ h => h)
        clear HN HD hs hfit
        go_wp2_with (go_at_call 24; refine (netKeyW fd fa fc _).mono ?_; rintro e w1 ⟨rfl, o1, o2, rfl⟩)
        obtain ⟨W, hW⟩ : ∃ W, (((wr.alloc (.cells #[.int .i64 fd, .string fc, .int .i64 fa] 40)).alloc o1).alloc o2).alloc (.cells #[.int .i64 fd, .string fc] 59) = W := ⟨_, rfl⟩
        have a2 : W.cell? ⟨wr.heap.size, 2, none⟩ = some (.int .i64 fa) := by rw [← hW]; exact boxA wr _ _ _ _ 2 (by rfl)
        have p0 : W.cell? ⟨wr.heap.size + 1 + 1 + 1, 0, none⟩ = some (.int .i64 fd) := by rw [← hW]; exact boxB wr _ _ _ _ 0 (by rfl)
        have p1 : W.cell? ⟨wr.heap.size + 1 + 1 + 1, 1, none⟩ = some (.string fc) := by rw [← hW]; exact boxB wr _ _ _ _ 1 (by rfl)
        have OW := Lib.hid (p := W.ownsMap Try.prog 59 (plainElem Try.prog 3) w.heap.size k D) (by rw [← hW]; exact (((hown.alloc _).alloc _).alloc _).alloc _)
        have BW := Lib.hid (p := Below w.heap.size w W) (by rw [← hW]; exact (((BB.out.alloc BB.out.size _).alloc (Nat.le_trans BB.out.size (by simp)) _).alloc (Nat.le_trans BB.out.size (by simp; omega)) _).alloc (Nat.le_trans BB.out.size (by simp; omega)) _)
        rw [hW]
        clear hW hown c0 c1 c2
        obtain ⟨c, hrun, hat, hwc⟩ := OW.out.drew.lookup_int lawP Try.underlying82 Try.underlying3 (zeroI _) hkey
        have HA := Lib.hid (KA.out c hat hwc)
        clear hat hwc
        go_region_held3 (fun w' => w'.cell? ⟨wr.heap.size, 2, none⟩ = some (.int .i64 fa) ∧ w'.cell? ⟨wr.heap.size + 1 + 1 + 1, 0, none⟩ = some (.int .i64 fd) ∧ w'.cell? ⟨wr.heap.size + 1 + 1 + 1, 1, none⟩ = some (.string fc))
          (refine ⟨?_, ?_, ?_⟩ <;> first | assumption | (go_simp; done))
          (first | (go_at_call 41; refine (HA.out _).mono ?_; rintro e w1 ⟨rfl, rfl⟩))
        all_goals
          go_wp2
          go_ret2
          exact ⟨rfl, BW.out.drew⟩
    · exfalso
      obtain rfl : k = n := by omega
      have := hT.out
      rw [List.take_of_length_le (by omega), HT.out] at this
      cases this
end Go.Proofs.Ythhacbelbkkcmaa

namespace Go.Proofs.Ythhacbelbkkcmaa
open Go.RowKit Go.Maps
set_option linter.unusedVariables false
set_option linter.unusedSimpArgs false

/-- What is asked of slices.SortFunc at Net (WSortF pays it). -/
def SortsN : Prop := ∀ (B g cap : Nat) (fs : List Fl) (w : World), fs.length ≤ 4398046511000 → w.ownsRow B 40 3 (.slice (some ⟨g, 0, none⟩) fs.length cap) fs.length (fcs fs) →
  Calls Try.prog 42 #[.slice (some ⟨g, 0, none⟩) fs.length cap, .func (.func 27) #[] #[]] w fun e w' => e = .returned (.tuple #[]) ∧ ∃ ts : List Fl, ts.Perm fs ∧ ts.Pairwise (fun x y => fLt y x = false) ∧ (∀ N, N ≤ g → N ≤ w.heap.size → Below N w w') ∧ w'.ownsRow B 40 3 (.slice (some ⟨g, 0, none⟩) fs.length cap) ts.length (fcs ts)

theorem row_apartN {w : World} {base : Nat} {e : TypeId} {sz : Nat} {v : Value} {m : Nat} {xs : List Value} {b r n : Nat} {D : DataW Unit} {left : Lit → Bool} {cnt : Nat} (h : w.ownsRow base e sz v m xs) (hr : w.ranges Try.prog 59 (plainElem Try.prog 3) b r n D left cnt) : some b ≠ v.ownBlock ∧ some r ≠ v.ownBlock := by
  obtain ⟨es, clock, since, seen, c0, hb, _, _, _, hr, _⟩ := hr
  rcases h.2 with ⟨rfl, _⟩ | ⟨g, cap, cur, rfl, _, hg, _⟩
  · simp [Value.ownBlock]
  · constructor
    · intro q; simp [Value.ownBlock] at q; subst q; rw [hg] at hb; cases hb
    · intro q; simp [Value.ownBlock] at q; subst q; rw [hg] at hr; cases hr

set_option maxHeartbeats 2000000 in
set_option maxRecDepth 100000 in
theorem addUpN_fits (b o n cap : Nat) (fs : List Fl) (w : World) (h1 : fs.length = n) (h2 : n ≤ 4398046511000) (hb : b < w.heap.size) (hc : ∀ i, i < n → FC w b (o + i * 3) (fs.getD i default)) (hw : ∀ i, i < n → inR (fs.getD i default).a ∧ (fs.getD i default).c.size ≤ maxLen ∧ inR (fs.getD i default).d)
    (A : List (DC × Int)) (ht : nets fs = some A) (hsort : SortsN) :
    Calls Try.prog 26 #[.slice (some ⟨b, o, none⟩) n cap, .func (.func 24) #[] #[], .func (.func 25) #[] #[], .func (.func 27) #[] #[]] w fun e w' => ∃ v ts, e = .returned (.tuple #[v, .int .i64 0]) ∧ Below w.heap.size w w' ∧ ts.Perm (A.map fzN) ∧ ts.Pairwise (fun x y => fLt y x = false) ∧ w'.ownsRow w.heap.size 40 3 v ts.length (fcs ts) := by
  have HC := Lib.hid hc
  have HW := Lib.hid hw
  have HT := Lib.hid ht
  clear hc hw ht
  have hmm := @run_makeMap Try.prog
  go_enter Try.func26, Try.ntmps26
  go_wp2
  go_loopw [22] (fun t wr => ∃ k : Nat, ∃ D acc, k ≤ n ∧ t = .int .i64 k ∧ wr.ownsMap Try.prog 59 (plainElem Try.prog 3) w.heap.size k D ∧ RowKit.Hid (nets (fs.take k) = some acc) ∧ RowKit.Hid (SumsN D acc) ∧ Below w.heap.size w wr) (fun t _ => n - (intOf t).toNat)
  case atStart => exact ⟨0, _, _, by omega, rfl, World.ownsMap_made _ _ _ _, rfl, sumsN_none, (Below.refl _ _).alloc (Nat.le_refl _) _⟩
  case round =>
    obtain ⟨k, D, acc, hk, rfl, hown, hT, hS, hB⟩ := hrel
    rename World => wr
    by_cases hlt : k < n
    · obtain ⟨c0, c1, c2⟩ := (HC.out k hlt).later hB hb
      have kc : (k : Int) < (n : Int) := by omega
      obtain ⟨f, hf⟩ : ∃ f, fs.getD k default = f := ⟨_, rfl⟩
      have HN := Lib.hid (nets_step (k := k) (f := f) (by omega) hf)
      have HV := Lib.hid (HW.out k hlt)
      rw [hf] at c0 c1 c2 HV
      clear hf
      obtain ⟨fd, fc, fa⟩ := f
      simp only at c0 c1 c2
      obtain ⟨s, hs⟩ : ∃ s, (sumAt (fd, fc) acc).getD 0 = s := ⟨_, rfl⟩
      have HD := Lib.hid (p := ∀ c : Int, D.atKey (litK (fd, fc)) (.lit (.int .i64 0)) = .lit (.int .i64 c) → c = s) (fun c e => by
        rw [hS.out.2.1 (fd, fc) ⟨wf_of HV.out.2.2, HV.out.2.1⟩, hs] at e; injection e with e; injection e with _ e; exact e.symm)
      have hkey := keyP (wf_of HV.out.2.2) HV.out.2.1
      have BB := Lib.hid hB
      clear hB
      by_cases hfit : inR (s + fa)
      · have KA := Lib.hid (p := ∀ c : Int, D.atKey (litK (fd, fc)) (.lit (.int .i64 0)) = .lit (.int .i64 c) → (Lit.int .i64 c).wf = true → ∀ W, Calls Try.prog 41 #[.int .i64 c, .int .i64 fa] W fun e w' => e = .returned (.tuple #[.int .i64 (s + fa), .int .i64 0]) ∧ w' = W) (fun c e hwc W => by
          refine (add_any c fa (wf_inR hwc) HV.out.1 W).mono ?_
          rw [HD.out c e, fitV_in hfit, fitF_in hfit]
          exact fun _ _ h => h)
        have NX := Lib.hid (p := nets (fs.take (k + 1)) = some (setAt (fd, fc) (s + fa) acc)) (by
          rw [HN.out, hT.out]; simp only [Option.bind_some, hs]; rw [if_pos (fitB_in hfit)])
        have SX := Lib.hid (hS.out.set (fd, fc) ⟨wf_of HV.out.2.2, HV.out.2.1⟩ (s + fa))
        have WX := Lib.hid (wf_of hfit)
        generalize s + fa = S at *
        clear HN HD hs
        go_wp2_with (go_at_call 24; refine (netKeyW fd fa fc _).mono ?_; rintro e w1 ⟨rfl, o1, o2, rfl⟩)
        obtain ⟨W, hW⟩ : ∃ W, (((wr.alloc (.cells #[.int .i64 fd, .string fc, .int .i64 fa] 40)).alloc o1).alloc o2).alloc (.cells #[.int .i64 fd, .string fc] 59) = W := ⟨_, rfl⟩
        have a2 : W.cell? ⟨wr.heap.size, 2, none⟩ = some (.int .i64 fa) := by rw [← hW]; exact boxA wr _ _ _ _ 2 (by rfl)
        have p0 : W.cell? ⟨wr.heap.size + 1 + 1 + 1, 0, none⟩ = some (.int .i64 fd) := by rw [← hW]; exact boxB wr _ _ _ _ 0 (by rfl)
        have p1 : W.cell? ⟨wr.heap.size + 1 + 1 + 1, 1, none⟩ = some (.string fc) := by rw [← hW]; exact boxB wr _ _ _ _ 1 (by rfl)
        have OW := Lib.hid (p := W.ownsMap Try.prog 59 (plainElem Try.prog 3) w.heap.size k D) (by rw [← hW]; exact (((hown.alloc _).alloc _).alloc _).alloc _)
        have BW := Lib.hid (p := Below w.heap.size w W) (by rw [← hW]; exact (((BB.out.alloc BB.out.size _).alloc (Nat.le_trans BB.out.size (by simp)) _).alloc (Nat.le_trans BB.out.size (by simp; omega)) _).alloc (Nat.le_trans BB.out.size (by simp; omega)) _)
        rw [hW]
        clear hW hown c0 c1 c2
        obtain ⟨c, hrun, hat, hwc⟩ := OW.out.drew.lookup_int lawP Try.underlying82 Try.underlying3 (zeroI _) hkey
        have HA := Lib.hid (KA.out c hat hwc)
        clear hat hwc
        go_region_held3 (fun w' => w'.cell? ⟨wr.heap.size, 2, none⟩ = some (.int .i64 fa) ∧ w'.cell? ⟨wr.heap.size + 1 + 1 + 1, 0, none⟩ = some (.int .i64 fd) ∧ w'.cell? ⟨wr.heap.size + 1 + 1 + 1, 1, none⟩ = some (.string fc))
          (refine ⟨?_, ?_, ?_⟩ <;> first | assumption | (go_simp; done))
          (first | (go_at_call 41; refine (HA.out _).mono ?_; rintro e w1 ⟨rfl, rfl⟩))
        all_goals
          go_wp2_with (at_mapUpdate; refine wpList_mapUpdate_own _ rfl _ _ _ 82 rfl 59 3 lawP Try.underlying82 _ w.heap.size k _ rfl OW.out.drew (by unfold maxLen; omega) _ _ _ rfl rfl hkey _ [] (plainElem_int Try.underlying3 WX.out) ?_; intro w1 hown1 hgrow1)
          have R1 := Lib.hid hown1
          have R2 := Lib.hid (BW.out.drew.grown hgrow1 BW.out.size (fun j hj => by cases hj; exact Nat.le_refl _))
          clear hown1 hgrow1
          go_roundw
          case rel => exact ⟨k + 1, _, _, by omega, by go_num, R1.out, NX.out, SX.out, R2.out⟩
          case measure => simp [intOf]; omega
      · exfalso
        have q := HN.out
        rw [hT.out] at q
        simp only [Option.bind_some, hs] at q
        rw [if_neg (by rw [fitB_out hfit]; simp)] at q
        have := nets_no q
        rw [HT.out] at this
        cases this
    · obtain rfl : k = n := by omega
      have hA : acc = A := by
        have := hT.out
        rw [List.take_of_length_le (by omega), HT.out] at this
        injection this with this; exact this.symm
      subst hA
      have HND := Lib.hid (tally_apart (acc := []) List.nodup_nil HT.out)
      have hsl := hown.size_le
      obtain ⟨i0, hi, hz0, hz1, hz2⟩ := info_parts infoF
      have BB := Lib.hid hB
      go_wp2_with (first
        | (at_len; refine wpList_len_own _ rfl _ 82 rfl 59 3 Try.underlying82 _ w.heap.size k _ rfl hown ?_)
        | (at_make; refine wpList_make_own _ rfl _ _ 24 rfl w.heap.size 40 i0 (.agg #[.int .i64 0, .string ⟨#[]⟩, .int .i64 0]) 3 Try.underlying24 hi hz0 hz1 .i64 .i64 _ (Maps.size D) rfl rfl rfl (by rw [hz2]; omega) (by unfold maxLen; omega) BB.out.size ?_; intro w0 hown0 hg0)
        | (at_range; refine wpList_range_own _ rfl _ 82 rfl 59 3 lawP Try.underlying82 _ w.heap.size k _ rfl (hown.kept hg0 (by simp)) ?_; intro w1 hrg1 hg1 hs1))
      go_frame
      go_loopw [16] (fun v wr2 => ∃ (left : Lit → Bool) (cnt : Nat) (out : List (DC × Int)) (ls : List Fl), wr2.ranges Try.prog 59 (plainElem Try.prog 3) w.heap.size w0.heap.size k D left cnt ∧ wr2.ownsRow w.heap.size 40 3 v ls.length (fcs ls) ∧ RowKit.Hid (GathN acc left out ∧ ls = out.map fzN) ∧ ls.length + cnt ≤ Maps.size D ∧ (∃ g cp, v = .slice (some ⟨g, 0, none⟩) ls.length cp) ∧ Below w.heap.size w wr2) (fun _ wr2 => wr2.rangeLeft w.heap.size w0.heap.size)
      case atStart => exact ⟨_, _, [], [], hrg1, hown0.kept hg1 (.inr (by simp [Value.ownBlock])), ⟨gathN_start hS.out, rfl⟩, by simp, ⟨_, _, rfl⟩, (BB.out.grown hg0 BB.out.size (fun j hj => by cases hj)).grown hg1 (Nat.le_trans BB.out.size hg0.size) (fun j hj => by cases hj)⟩
      case round =>
        obtain ⟨left, cnt, out, ls, hrg, hO, hG, hL, ⟨g, cp, rfl⟩, hB2⟩ := hrel
        have hap := row_apartN hO hrg
        go_wp2_with (at_next; refine wp_next_p _ rfl _ rfl w.heap.size w0.heap.size k _ _ _ rfl hrg ?_ ?_)
        · intro hc0 hl0
          have HP := Lib.hid (gathN_end HND.out hS.out.2.2.2 hG.out.1 hl0)
          have hgB : w.heap.size ≤ g := (hO.lt g rfl).1
          clear hc0 hl0
          go_wp2_with (go_at_call 42; refine (hsort w.heap.size g cp ls _ (by omega) hO).mono ?_; rintro e w3 ⟨rfl, ts, hp, hs, hb3, ho3⟩)
          go_ret2
          exact ⟨_, ts, rfl, hB2.trans (hb3 _ hgB hB2.size), hp.trans (by rw [hG.out.2]; exact HP.out.map fzN), hs, ho3⟩
        · intro xd xc c w2 cnt2 hwx hlx hat hrg2 hlt2 hg2 hs2 hen
          have hO2 := hO.kept hg2 (.inr hap.2.symm)
          have HX := Lib.hid (gathN_step hS.out hG.out.1 hwx hlx (has_true_of_atKey hat) (hat _))
          have B2 := Lib.hid (hB2.grown hg2 hB2.size (fun j hj => by cases hj; exact Nat.le_trans BB.out.size hg0.size))
          clear hat hlx hs2
          go_wp2_with (first
            | (go_at_call 25; refine (netToldW xd c xc _).mono ?_; rintro e w3 ⟨rfl, o1, o2, rfl⟩)
            | (at_builtin; refine wp_flow _ xd c xc rfl _ _ rfl w.heap.size _ ls rfl (by simp only [World.size_alloc]; rfl) (((hO2.alloc _).alloc _).alloc _) (by omega) (Nat.le_trans B2.out.size (by simp; omega)) ?_; intro v' w4 ho4 hg4))
          obtain ⟨g', cp', rfl⟩ := own_sliceF ho4
          have hg5 := ((((World.grownBy_alloc w2 _ _).trans (World.grownBy_alloc _ _ _)).trans (World.grownBy_alloc _ _ _)).trans (World.grownBy_alloc _ _ _)).trans hg4
          have R1 := Lib.hid (hrg2.kept hg5 hap.1 hap.2)
          have R2 := Lib.hid (B2.out.grown hg5 B2.out.size (fun j e => (hO2.lt j e).1))
          have R3 := Lib.hid ho4
          have R4 := Lib.hid (p := ls ++ [Fl.mk xd xc c] = (out ++ [((xd, xc), c)]).map fzN) (by rw [hG.out.2]; simp [fzN])
          clear ho4 hg4
          go_wp2
          go_roundw
          case rel => exact ⟨_, cnt2, out ++ [((xd, xc), c)], _, R1.out, R3.out, ⟨HX.out, R4.out⟩, by simp; omega, ⟨_, _, rfl⟩, R2.out⟩
          case measure => rw [R1.out.left_eq, hrg.left_eq]; exact hlt2
end Go.Proofs.Ythhacbelbkkcmaa

namespace Go.Proofs.Ythhacbelbkkcmaa
open Go.RowKit Go.Maps
set_option linter.unusedVariables false
set_option linter.unusedSimpArgs false

set_option maxHeartbeats 2000000 in
set_option maxRecDepth 100000 in
theorem addUpN_none (a : Option Addr) (cap : Nat) (w : World) (hsort : SortsN) :
    Calls Try.prog 26 #[.slice a 0 cap, .func (.func 24) #[] #[], .func (.func 25) #[] #[], .func (.func 27) #[] #[]] w fun e w' => ∃ v ts, e = .returned (.tuple #[v, .int .i64 0]) ∧ Below w.heap.size w w' ∧ ts.Perm [] ∧ ts.Pairwise (fun x y => fLt y x = false) ∧ w'.ownsRow w.heap.size 40 3 v ts.length (fcs ts) := by
  have h1 : ([] : List Fl).length = 0 := rfl
  have h2 : (0 : Nat) ≤ 4398046511000 := by omega
  have HT := Lib.hid (p := nets [] = some []) rfl
  have hmm := @run_makeMap Try.prog
  go_enter Try.func26, Try.ntmps26
  go_wp2
  go_loopw [22] (fun t wr => ∃ k : Nat, ∃ D acc, k ≤ 0 ∧ t = .int .i64 k ∧ wr.ownsMap Try.prog 59 (plainElem Try.prog 3) w.heap.size k D ∧ RowKit.Hid (nets (([] : List Fl).take k) = some acc) ∧ RowKit.Hid (SumsN D acc) ∧ Below w.heap.size w wr) (fun t _ => 0 - (intOf t).toNat)
  case atStart => exact ⟨0, _, _, by omega, rfl, World.ownsMap_made _ _ _ _, rfl, sumsN_none, (Below.refl _ _).alloc (Nat.le_refl _) _⟩
  case round =>
    obtain ⟨k, D, acc, hk, rfl, hown, hT, hS, hB⟩ := hrel
    obtain rfl : k = 0 := by omega
    have hA : acc = [] := by
      have := hT.out
      rw [List.take_nil, HT.out] at this
      injection this with this; exact this.symm
    subst hA
    have HND := Lib.hid (tally_apart (acc := []) List.nodup_nil HT.out)
    have hsl := hown.size_le
    obtain ⟨i0, hi, hz0, hz1, hz2⟩ := info_parts infoF
    have BB := Lib.hid hB
    go_wp2_with (first
      | (at_len; refine wpList_len_own _ rfl _ 82 rfl 59 3 Try.underlying82 _ w.heap.size 0 _ rfl hown ?_)
      | (at_make; refine wpList_make_own _ rfl _ _ 24 rfl w.heap.size 40 i0 (.agg #[.int .i64 0, .string ⟨#[]⟩, .int .i64 0]) 3 Try.underlying24 hi hz0 hz1 .i64 .i64 _ (Maps.size D) rfl rfl rfl (by rw [hz2]; omega) (by unfold maxLen; omega) BB.out.size ?_; intro w0 hown0 hg0)
      | (at_range; refine wpList_range_own _ rfl _ 82 rfl 59 3 lawP Try.underlying82 _ w.heap.size 0 _ rfl (hown.kept hg0 (by simp)) ?_; intro w1 hrg1 hg1 hs1))
    go_frame
    go_loopw [16] (fun v wr2 => ∃ (left : Lit → Bool) (cnt : Nat) (out : List (DC × Int)) (ls : List Fl), wr2.ranges Try.prog 59 (plainElem Try.prog 3) w.heap.size w0.heap.size 0 D left cnt ∧ wr2.ownsRow w.heap.size 40 3 v ls.length (fcs ls) ∧ RowKit.Hid (GathN [] left out ∧ ls = out.map fzN) ∧ ls.length + cnt ≤ Maps.size D ∧ (∃ g cp, v = .slice (some ⟨g, 0, none⟩) ls.length cp) ∧ Below w.heap.size w wr2) (fun _ wr2 => wr2.rangeLeft w.heap.size w0.heap.size)
    case atStart => exact ⟨_, _, [], [], hrg1, hown0.kept hg1 (.inr (by simp [Value.ownBlock])), ⟨gathN_start hS.out, rfl⟩, by simp, ⟨_, _, rfl⟩, (BB.out.grown hg0 BB.out.size (fun j hj => by cases hj)).grown hg1 (Nat.le_trans BB.out.size hg0.size) (fun j hj => by cases hj)⟩
    case round =>
      obtain ⟨left, cnt, out, ls, hrg, hO, hG, hL, ⟨g, cp, rfl⟩, hB2⟩ := hrel
      have hap := row_apartN hO hrg
      go_wp2_with (at_next; refine wp_next_p _ rfl _ rfl w.heap.size w0.heap.size 0 _ _ _ rfl hrg ?_ ?_)
      · intro hc0 hl0
        have HP := Lib.hid (gathN_end HND.out hS.out.2.2.2 hG.out.1 hl0)
        have hgB : w.heap.size ≤ g := (hO.lt g rfl).1
        clear hc0 hl0
        go_wp2_with (go_at_call 42; refine (hsort w.heap.size g cp ls _ (by omega) hO).mono ?_; rintro e w3 ⟨rfl, ts, hp, hs, hb3, ho3⟩)
        go_ret2
        exact ⟨_, ts, rfl, hB2.trans (hb3 _ hgB hB2.size), hp.trans (by rw [hG.out.2]; exact HP.out.map fzN), hs, ho3⟩
      · intro xd xc c w2 cnt2 hwx hlx hat hrg2 hlt2 hg2 hs2 hen
        exfalso
        omega
end Go.Proofs.Ythhacbelbkkcmaa

namespace Go.Proofs.Ythhacbelbkkcmaa
open Go.RowKit Go.Maps
set_option linter.unusedVariables false
set_option linter.unusedSimpArgs false

/-- What Net answers: the sums, ordered, or that one does not fit. -/
def NetA (fs : List Fl) (B : Nat) (v : Value) (q : Int) (w : World) : Prop :=
  (nets fs = none ∧ v = .slice none 0 0 ∧ q = 1) ∨ ∃ A ts, nets fs = some A ∧ q = 0 ∧ ts.Perm (A.map fzN) ∧ ts.Pairwise (fun x y => fLt y x = false) ∧ w.ownsRow B 40 3 v ts.length (fcs ts)
theorem addUpN_any (a : Option Addr) (n cap : Nat) (fs : List Fl) (w : World) (h : FL w a n fs) (hw : ∀ i, i < n → inR (fs.getD i default).a ∧ (fs.getD i default).c.size ≤ maxLen ∧ inR (fs.getD i default).d) (hsort : SortsN) :
    Calls Try.prog 26 #[.slice a n cap, .func (.func 24) #[] #[], .func (.func 25) #[] #[], .func (.func 27) #[] #[]] w fun e w' => ∃ v q, e = .returned (.tuple #[v, .int .i64 q]) ∧ Below w.heap.size w w' ∧ NetA fs w.heap.size v q w' := by
  obtain ⟨h1, h2, h3⟩ := h
  rcases h3 with h3 | ⟨b, o, rfl, hb, hc⟩
  · subst h3
    have hz : fs = [] := List.length_eq_zero_iff.1 h1
    subst hz
    refine (addUpN_none a cap w hsort).mono ?_
    rintro e w' ⟨v, ts, rfl, hB, hp, hs, ho⟩
    exact ⟨v, 0, rfl, hB, .inr ⟨[], ts, rfl, rfl, hp, hs, ho⟩⟩
  · cases ht : nets fs with
    | none =>
      refine (addUpN_out b o n cap fs w h1 h2 hb hc hw ht).mono ?_
      rintro e w' ⟨rfl, hB⟩
      exact ⟨_, 1, rfl, hB, .inl ⟨ht, rfl, rfl⟩⟩
    | some A =>
      refine (addUpN_fits b o n cap fs w h1 h2 hb hc hw A ht hsort).mono ?_
      rintro e w' ⟨v, ts, rfl, hB, hp, hs, ho⟩
      exact ⟨v, 0, rfl, hB, .inr ⟨A, ts, ht, rfl, hp, hs, ho⟩⟩
theorem net_any (a : Option Addr) (n cap : Nat) (fs : List Fl) (w : World) (h : FL w a n fs) (hw : ∀ i, i < n → inR (fs.getD i default).a ∧ (fs.getD i default).c.size ≤ maxLen ∧ inR (fs.getD i default).d) (hsort : SortsN) :
    Calls Try.prog 13 #[.slice a n cap] w fun e w' => ∃ v q, e = .returned (.tuple #[v, .int .i64 q]) ∧ Below w.heap.size w w' ∧ NetA fs w.heap.size v q w' := by
  have K := addUpN_any a n cap fs w h hw hsort
  clear h hw
  go_enter Try.func13, Try.ntmps13
  go_wp2_with (go_at_call 26; refine K.mono ?_; rintro e w' ⟨v, q, rfl, hB, hT⟩)
  go_ret2
  exact ⟨_, _, rfl, hB, hT⟩
end Go.Proofs.Ythhacbelbkkcmaa
