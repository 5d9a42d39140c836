/-
  WALK: addUp of Totals, where a sum does not fit.
-/
import Derived.Test.YtmdgfcldohmjdaaDoorPlainSums
import Derived.Test.YtmdgfcldohmjdaaDoorWTold
import Derived.Test.YtmdgfcldohmjdaaDoorWAdd
namespace Go.Proofs.YtmdgfcldohmjdaaDoor
open Go.RowKit Go.Maps
set_option linter.unusedVariables false
set_option linter.unusedSimpArgs false

theorem lawS : Keyed Tryd.prog 9 := string_keyed Tryd.underlying9
theorem zeroIT (w : World) : (zeroValue 3).run Tryd.prog w = .ok (.int .i64 0) w := by kernel_rfl
theorem keyS {c : ByteArray} (h : c.size ≤ maxLen) : keyOf Tryd.prog 9 (.string c) = some (lit c) := WideMaps.keyOf_string_mk Tryd.underlying9 h
theorem wf_ofT {x : Int} (h : inR x) : (Lit.int .i64 x).wf = true := WalkArith.wf_i64 (by unfold inR at h; omega)

set_option maxHeartbeats 2000000 in
set_option maxRecDepth 100000 in
theorem addUpT_out (b o n cap : Nat) (fs : List Fl) (w : World) (h1 : fs.length = n) (h2 : n ≤ 4398046511000) (hb : b < w.heap.size) (hc : ∀ i, i < n → FC w b (o + i * 3) (fs.getD i default)) (hw : ∀ i, i < n → inR (fs.getD i default).a ∧ (fs.getD i default).c.size ≤ maxLen)
    (ht : tots fs = none) :
    Calls Tryd.prog 33 #[.slice (some ⟨b, o, none⟩) n cap, .func (.func 31) #[] #[], .func (.func 32) #[] #[], .func (.func 34) #[] #[]] w fun e w' => e = .returned (.tuple #[.slice none 0 0, .int .i64 1]) ∧ Below w.heap.size w w' := by
  have HC := Lib.hid hc
  have HW := Lib.hid hw
  have HT := Lib.hid ht
  clear hc hw ht
  have hmm := @run_makeMap Tryd.prog
  go_enter Tryd.func33, Tryd.ntmps33
  go_wp2
  go_loopw [22] (fun t wr => ∃ k : Nat, ∃ D acc, k ≤ n ∧ t = .int .i64 k ∧ wr.ownsMap Tryd.prog 9 (plainElem Tryd.prog 3) w.heap.size k D ∧ RowKit.Hid (tots (fs.take k) = some acc) ∧ RowKit.Hid (Sums D acc) ∧ Below w.heap.size w wr) (fun t _ => n - (intOf t).toNat)
  case atStart => exact ⟨0, _, _, by omega, rfl, World.ownsMap_made _ _ _ _, rfl, sums_none, (Below.refl _ _).alloc (Nat.le_refl _) _⟩
  case round =>
    obtain ⟨k, D, acc, hk, rfl, hown, hT, hS, hB⟩ := hrel
    by_cases hlt : k < n
    · obtain ⟨c0, c1, c2⟩ := (HC.out k hlt).later hB hb
      have kc : (k : Int) < (n : Int) := by omega
      obtain ⟨f, hf⟩ : ∃ f, fs.getD k default = f := ⟨_, rfl⟩
      have HN := Lib.hid (tots_step (k := k) (f := f) (by omega) hf)
      have HV := Lib.hid (HW.out k hlt)
      rw [hf] at c0 c1 c2 HV
      clear hf
      obtain ⟨fd, fc, fa⟩ := f
      simp only at c0 c1 c2
      obtain ⟨s, hs⟩ : ∃ s, (sumAt fc acc).getD 0 = s := ⟨_, rfl⟩
      have HD := Lib.hid (p := ∀ c : Int, D.atKey (lit fc) (.lit (.int .i64 0)) = .lit (.int .i64 c) → c = s) (fun c e => by
        rw [hS.out.2.1 fc, hs] at e; injection e with e; injection e with _ e; exact e.symm)
      have hkey := keyS HV.out.2
      have BB := Lib.hid hB
      clear hB
      by_cases hfit : inR (s + fa)
      · have KA := Lib.hid (p := ∀ c : Int, D.atKey (lit fc) (.lit (.int .i64 0)) = .lit (.int .i64 c) → (Lit.int .i64 c).wf = true → ∀ W, Calls Tryd.prog 43 #[.int .i64 c, .int .i64 fa] W fun e w' => e = .returned (.tuple #[.int .i64 (s + fa), .int .i64 0]) ∧ w' = W) (fun c e hwc W => by
          refine (add_any c fa (wf_inR hwc) HV.out.1 W).mono ?_
          rw [HD.out c e, fitV_in hfit, fitF_in hfit]
          exact fun _ _ h => h)
        have NX := Lib.hid (p := tots (fs.take (k + 1)) = some (setAt fc (s + fa) acc)) (by
          rw [HN.out, hT.out]; simp only [Option.bind_some, hs]; rw [if_pos (fitB_in hfit)])
        have SX := Lib.hid (hS.out.set fc (s + fa))
        have WX := Lib.hid (wf_ofT hfit)
        generalize s + fa = S at *
        clear HN HD hs
        go_wp2_with (first
          | (go_at_call 31; refine (totKey_any fd fa fc _).mono ?_; rintro e w1 ⟨rfl, rfl⟩)
          | (at_lookup; refine wpList_lookup_own_int _ rfl _ _ 90 rfl 9 3 .i64 lawS Tryd.underlying90 Tryd.underlying3 (zeroIT _) w.heap.size k _ rfl ((hown.alloc _).alloc _) _ _ rfl hkey ?_; intro c hat hwc; have HA := Lib.hid (KA.out c hat hwc); clear hat hwc)
          | (go_at_call 43; refine (HA.out _).mono ?_; rintro e w1 ⟨rfl, rfl⟩)
          | (at_mapUpdate; refine wpList_mapUpdate_own _ rfl _ _ _ 90 rfl 9 3 lawS Tryd.underlying90 _ w.heap.size k _ rfl ((hown.alloc _).alloc _) (by unfold maxLen; omega) _ _ _ rfl rfl hkey _ [] (plainElem_int Tryd.underlying3 WX.out) ?_; intro w1 hown1 hgrow1))
        have R1 := Lib.hid hown1
        have R2 := Lib.hid (((BB.out.alloc BB.out.size _).alloc (Nat.le_trans BB.out.size (by simp)) _).grown hgrow1 (Nat.le_trans BB.out.size (by simp; omega)) (fun j hj => by cases hj; exact Nat.le_refl _))
        clear hown1 hgrow1
        go_roundw
        case rel => exact ⟨k + 1, _, _, by omega, by go_num, R1.out, NX.out, SX.out, R2.out⟩
        case measure => simp [intOf]; omega
      · have KA := Lib.hid (p := ∀ c : Int, D.atKey (lit fc) (.lit (.int .i64 0)) = .lit (.int .i64 c) → (Lit.int .i64 c).wf = true → ∀ W, Calls Tryd.prog 43 #[.int .i64 c, .int .i64 fa] W fun e w' => e = .returned (.tuple #[.int .i64 0, .int .i64 1]) ∧ w' = W) (fun c e hwc W => by
          refine (add_any c fa (wf_inR hwc) HV.out.1 W).mono ?_
          rw [HD.out c e, fitV_out hfit, fitF_out hfit]
          exact fun _ _ h => h)
        clear HN HD hs hfit
        go_wp2_with (first
          | (go_at_call 31; refine (totKey_any fd fa fc _).mono ?_; rintro e w1 ⟨rfl, rfl⟩)
          | (at_lookup; refine wpList_lookup_own_int _ rfl _ _ 90 rfl 9 3 .i64 lawS Tryd.underlying90 Tryd.underlying3 (zeroIT _) w.heap.size k _ rfl ((hown.alloc _).alloc _) _ _ rfl hkey ?_; intro c hat hwc; have HA := Lib.hid (KA.out c hat hwc); clear hat hwc)
          | (go_at_call 43; refine (HA.out _).mono ?_; rintro e w1 ⟨rfl, rfl⟩))
        go_ret2
        exact ⟨rfl, (BB.out.alloc BB.out.size _).alloc (Nat.le_trans BB.out.size (by simp)) _⟩
    · exfalso
      obtain rfl : k = n := by omega
      have := hT.out
      rw [List.take_of_length_le (by omega), HT.out] at this
      cases this
end Go.Proofs.YtmdgfcldohmjdaaDoor
