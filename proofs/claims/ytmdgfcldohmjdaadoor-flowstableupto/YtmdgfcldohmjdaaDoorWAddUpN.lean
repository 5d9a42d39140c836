/-
  WALK: addUp of Net, where a sum does not fit.
-/
import Derived.Test.YtmdgfcldohmjdaaDoorWNextP
import Derived.Deep.RegionHeld3
namespace Go.Proofs.YtmdgfcldohmjdaaDoor
open Go.RowKit Go.Maps
set_option linter.unusedVariables false
set_option linter.unusedSimpArgs false

theorem boxA (w : World) (cs : Array Value) (T : TypeId) (o1 o2 : Obj) {o3 : Obj} (j : Nat) {v : Value} (h : cs[j]? = some v) : ((((w.alloc (.cells cs T)).alloc o1).alloc o2).alloc o3).cell? ⟨w.heap.size, j, none⟩ = some v := by
  rw [World.cell?_alloc_old _ _ _ (by simp; omega), World.cell?_alloc_old _ _ _ (by simp; omega), World.cell?_alloc_old _ _ _ (by simp), World.cell?_alloc_at _ _ _ _ rfl]
  exact h
theorem boxB (w : World) {o0 : Obj} (cs : Array Value) (T : TypeId) (o1 o2 : Obj) (j : Nat) {v : Value} (h : cs[j]? = some v) : ((((w.alloc o0).alloc o1).alloc o2).alloc (.cells cs T)).cell? ⟨w.heap.size + 1 + 1 + 1, j, none⟩ = some v := by
  rw [World.cell?_alloc_at _ _ _ _ (by simp)]
  exact h
set_option maxHeartbeats 2000000 in
set_option maxRecDepth 100000 in
theorem addUpN_out (b o n cap : Nat) (fs : List Fl) (w : World) (h1 : fs.length = n) (h2 : n ≤ 4398046511000) (hb : b < w.heap.size) (hc : ∀ i, i < n → FC w b (o + i * 3) (fs.getD i default)) (hw : ∀ i, i < n → inR (fs.getD i default).a ∧ (fs.getD i default).c.size ≤ maxLen ∧ inR (fs.getD i default).d)
    (ht : nets fs = none) :
    Calls Tryd.prog 26 #[.slice (some ⟨b, o, none⟩) n cap, .func (.func 24) #[] #[], .func (.func 25) #[] #[], .func (.func 16) #[] #[]] w fun e w' => e = .returned (.tuple #[.slice none 0 0, .int .i64 1]) ∧ Below w.heap.size w w' := by
  have HC := Lib.hid hc
  have HW := Lib.hid hw
  have HT := Lib.hid ht
  clear hc hw ht
  have hmm := @run_makeMap Tryd.prog
  go_enter Tryd.func26, Tryd.ntmps26
  go_wp2
  go_loopw [22] (fun t wr => ∃ k : Nat, ∃ D acc, k ≤ n ∧ t = .int .i64 k ∧ wr.ownsMap Tryd.prog 58 (plainElem Tryd.prog 3) w.heap.size k D ∧ RowKit.Hid (nets (fs.take k) = some acc) ∧ RowKit.Hid (SumsN D acc) ∧ Below w.heap.size w wr) (fun t _ => n - (intOf t).toNat)
  case atStart => exact ⟨0, _, _, by omega, rfl, World.ownsMap_made _ _ _ _, rfl, sumsN_none, (Below.refl _ _).alloc (Nat.le_refl _) _⟩
  case round =>
    obtain ⟨k, D, acc, hk, rfl, hown, hT, hS, hB⟩ := hrel
    rename World => wr
    by_cases hlt : k < n
    · obtain ⟨c0, c1, c2⟩ := (HC.out k hlt).later hB hb
      have kc : (k : Int) < (n : Int) := by omega
      obtain ⟨f, hf⟩ : ∃ f, fs.getD k default = f := ⟨_, rfl⟩
      have HN := Lib.hid (nets_step (k := k) (f := f) (by omega) hf)
      have HV := Lib.hid (HW.out k hlt)
      rw [hf] at c0 c1 c2 HV
      clear hf
      obtain ⟨fd, fc, fa⟩ := f
      simp only at c0 c1 c2
      obtain ⟨s, hs⟩ : ∃ s, (sumAt (fd, fc) acc).getD 0 = s := ⟨_, rfl⟩
      have HD := Lib.hid (p := ∀ c : Int, D.atKey (litK (fd, fc)) (.lit (.int .i64 0)) = .lit (.int .i64 c) → c = s) (fun c e => by
        rw [hS.out.2.1 (fd, fc) ⟨wf_of HV.out.2.2, HV.out.2.1⟩, hs] at e; injection e with e; injection e with _ e; exact e.symm)
      have hkey := keyP (wf_of HV.out.2.2) HV.out.2.1
      have BB := Lib.hid hB
      clear hB
      by_cases hfit : inR (s + fa)
      · have KA := Lib.hid (p := ∀ c : Int, D.atKey (litK (fd, fc)) (.lit (.int .i64 0)) = .lit (.int .i64 c) → (Lit.int .i64 c).wf = true → ∀ W, Calls Tryd.prog 43 #[.int .i64 c, .int .i64 fa] W fun e w' => e = .returned (.tuple #[.int .i64 (s + fa), .int .i64 0]) ∧ w' = W) (fun c e hwc W => by
          refine (add_any c fa (wf_inR hwc) HV.out.1 W).mono ?_
          rw [HD.out c e, fitV_in hfit, fitF_in hfit]
          exact fun _ _ h => h)
        have NX := Lib.hid (p := nets (fs.take (k + 1)) = some (setAt (fd, fc) (s + fa) acc)) (by
          rw [HN.out, hT.out]; simp only [Option.bind_some, hs]; rw [if_pos (fitB_in hfit)])
        have SX := Lib.hid (hS.out.set (fd, fc) ⟨wf_of HV.out.2.2, HV.out.2.1⟩ (s + fa))
        have WX := Lib.hid (wf_of hfit)
        generalize s + fa = S at *
        clear HN HD hs
        go_wp2_with (go_at_call 24; refine (netKeyW fd fa fc _).mono ?_; rintro e w1 ⟨rfl, o1, o2, rfl⟩)
        obtain ⟨W, hW⟩ : ∃ W, (((wr.alloc (.cells #[.int .i64 fd, .string fc, .int .i64 fa] 32)).alloc o1).alloc o2).alloc (.cells #[.int .i64 fd, .string fc] 58) = W := ⟨_, rfl⟩
        have a2 : W.cell? ⟨wr.heap.size, 2, none⟩ = some (.int .i64 fa) := by rw [← hW]; exact boxA wr _ _ _ _ 2 (by rfl)
        have p0 : W.cell? ⟨wr.heap.size + 1 + 1 + 1, 0, none⟩ = some (.int .i64 fd) := by rw [← hW]; exact boxB wr _ _ _ _ 0 (by rfl)
        have p1 : W.cell? ⟨wr.heap.size + 1 + 1 + 1, 1, none⟩ = some (.string fc) := by rw [← hW]; exact boxB wr _ _ _ _ 1 (by rfl)
        have OW := Lib.hid (p := W.ownsMap Tryd.prog 58 (plainElem Tryd.prog 3) w.heap.size k D) (by rw [← hW]; exact (((hown.alloc _).alloc _).alloc _).alloc _)
        have BW := Lib.hid (p := Below w.heap.size w W) (by rw [← hW]; exact (((BB.out.alloc BB.out.size _).alloc (Nat.le_trans BB.out.size (by simp)) _).alloc (Nat.le_trans BB.out.size (by simp; omega)) _).alloc (Nat.le_trans BB.out.size (by simp; omega)) _)
        rw [hW]
        clear hW hown c0 c1 c2
        obtain ⟨c, hrun, hat, hwc⟩ := OW.out.drew.lookup_int lawP Tryd.underlying84 Tryd.underlying3 (zeroI _) hkey
        have HA := Lib.hid (KA.out c hat hwc)
        clear hat hwc
        go_region_held3 (fun w' => w'.cell? ⟨wr.heap.size, 2, none⟩ = some (.int .i64 fa) ∧ w'.cell? ⟨wr.heap.size + 1 + 1 + 1, 0, none⟩ = some (.int .i64 fd) ∧ w'.cell? ⟨wr.heap.size + 1 + 1 + 1, 1, none⟩ = some (.string fc))
          (refine ⟨?_, ?_, ?_⟩ <;> first | assumption | (go_simp; done))
          (first | (go_at_call 43; refine (HA.out _).mono ?_; rintro e w1 ⟨rfl, rfl⟩))
        all_goals
          go_wp2_with (at_mapUpdate; refine wpList_mapUpdate_own _ rfl _ _ _ 84 rfl 58 3 lawP Tryd.underlying84 _ w.heap.size k _ rfl OW.out.drew (by unfold maxLen; omega) _ _ _ rfl rfl hkey _ [] (plainElem_int Tryd.underlying3 WX.out) ?_; intro w1 hown1 hgrow1)
          have R1 := Lib.hid hown1
          have R2 := Lib.hid (BW.out.drew.grown hgrow1 BW.out.size (fun j hj => by cases hj; exact Nat.le_refl _))
          clear hown1 hgrow1
          go_roundw
          case rel => exact ⟨k + 1, _, _, by omega, by go_num, R1.out, NX.out, SX.out, R2.out⟩
          case measure => simp [intOf]; omega
      · have KA := Lib.hid (p := ∀ c : Int, D.atKey (litK (fd, fc)) (.lit (.int .i64 0)) = .lit (.int .i64 c) → (Lit.int .i64 c).wf = true → ∀ W, Calls Tryd.prog 43 #[.int .i64 c, .int .i64 fa] W fun e w' => e = .returned (.tuple #[.int .i64 0, .int .i64 1]) ∧ w' = W) (fun c e hwc W => by
          refine (add_any c fa (wf_inR hwc) HV.out.1 W).mono ?_
          rw [HD.out c e, fitV_out hfit, fitF_out hfit]
          exact fun _ _ h => h)
        clear HN HD hs hfit
        go_wp2_with (go_at_call 24; refine (netKeyW fd fa fc _).mono ?_; rintro e w1 ⟨rfl, o1, o2, rfl⟩)
        obtain ⟨W, hW⟩ : ∃ W, (((wr.alloc (.cells #[.int .i64 fd, .string fc, .int .i64 fa] 32)).alloc o1).alloc o2).alloc (.cells #[.int .i64 fd, .string fc] 58) = W := ⟨_, rfl⟩
        have a2 : W.cell? ⟨wr.heap.size, 2, none⟩ = some (.int .i64 fa) := by rw [← hW]; exact boxA wr _ _ _ _ 2 (by rfl)
        have p0 : W.cell? ⟨wr.heap.size + 1 + 1 + 1, 0, none⟩ = some (.int .i64 fd) := by rw [← hW]; exact boxB wr _ _ _ _ 0 (by rfl)
        have p1 : W.cell? ⟨wr.heap.size + 1 + 1 + 1, 1, none⟩ = some (.string fc) := by rw [← hW]; exact boxB wr _ _ _ _ 1 (by rfl)
        have OW := Lib.hid (p := W.ownsMap Tryd.prog 58 (plainElem Tryd.prog 3) w.heap.size k D) (by rw [← hW]; exact (((hown.alloc _).alloc _).alloc _).alloc _)
        have BW := Lib.hid (p := Below w.heap.size w W) (by rw [← hW]; exact (((BB.out.alloc BB.out.size _).alloc (Nat.le_trans BB.out.size (by simp)) _).alloc (Nat.le_trans BB.out.size (by simp; omega)) _).alloc (Nat.le_trans BB.out.size (by simp; omega)) _)
        rw [hW]
        clear hW hown c0 c1 c2
        obtain ⟨c, hrun, hat, hwc⟩ := OW.out.drew.lookup_int lawP Tryd.underlying84 Tryd.underlying3 (zeroI _) hkey
        have HA := Lib.hid (KA.out c hat hwc)
        clear hat hwc
        go_region_held3 (fun w' => w'.cell? ⟨wr.heap.size, 2, none⟩ = some (.int .i64 fa) ∧ w'.cell? ⟨wr.heap.size + 1 + 1 + 1, 0, none⟩ = some (.int .i64 fd) ∧ w'.cell? ⟨wr.heap.size + 1 + 1 + 1, 1, none⟩ = some (.string fc))
          (refine ⟨?_, ?_, ?_⟩ <;> first | assumption | (go_simp; done))
          (first | (go_at_call 43; refine (HA.out _).mono ?_; rintro e w1 ⟨rfl, rfl⟩))
        all_goals
          go_wp2
          go_ret2
          exact ⟨rfl, BW.out.drew⟩
    · exfalso
      obtain rfl : k = n := by omega
      have := hT.out
      rw [List.take_of_length_le (by omega), HT.out] at this
      cases this
end Go.Proofs.YtmdgfcldohmjdaaDoor
