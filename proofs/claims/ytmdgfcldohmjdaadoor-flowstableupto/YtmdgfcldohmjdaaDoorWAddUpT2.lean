/-
  WALK: addUp of Totals, where all sums fit.
-/
import Derived.Test.YtmdgfcldohmjdaaDoorWNextS
import Derived.Test.YtmdgfcldohmjdaaDoorPlainOrd
namespace Go.Proofs.YtmdgfcldohmjdaaDoor
open Go.RowKit Go.Maps
set_option linter.unusedVariables false
set_option linter.unusedSimpArgs false

/-- What is asked of slices.SortFunc at Totals (WSort pays it). -/
def SortsT : Prop := ∀ (B g cap : Nat) (ts : List (ByteArray × Int)) (w : World), ts.length ≤ 4398046511000 → w.ownsRow B 67 2 (.slice (some ⟨g, 0, none⟩) ts.length cap) ts.length (tcs ts) →
  Calls Tryd.prog 47 #[.slice (some ⟨g, 0, none⟩) ts.length cap, .func (.func 34) #[] #[]] w fun e w' => e = .returned (.tuple #[]) ∧ ∃ ts' : List (ByteArray × Int), ts'.Perm ts ∧ ts'.Pairwise (fun x y => sLt y.1 x.1 = false) ∧ (∀ N, N ≤ g → N ≤ w.heap.size → Below N w w') ∧ w'.ownsRow B 67 2 (.slice (some ⟨g, 0, none⟩) ts.length cap) ts'.length (tcs ts')

theorem row_apart {w : World} {base : Nat} {e : TypeId} {sz : Nat} {v : Value} {m : Nat} {xs : List Value} {b r n : Nat} {D : DataW Unit} {left : Lit → Bool} {cnt : Nat} (h : w.ownsRow base e sz v m xs) (hr : w.ranges Tryd.prog 9 (plainElem Tryd.prog 3) b r n D left cnt) : some b ≠ v.ownBlock ∧ some r ≠ v.ownBlock := by
  obtain ⟨es, clock, since, seen, c0, hb, _, _, _, hr, _⟩ := hr
  rcases h.2 with ⟨rfl, _⟩ | ⟨g, cap, cur, rfl, _, hg, _⟩
  · simp [Value.ownBlock]
  · constructor
    · intro q; simp [Value.ownBlock] at q; subst q; rw [hg] at hb; cases hb
    · intro q; simp [Value.ownBlock] at q; subst q; rw [hg] at hr; cases hr

set_option maxHeartbeats 2000000 in
set_option maxRecDepth 100000 in
theorem addUpT_fits (b o n cap : Nat) (fs : List Fl) (w : World) (h1 : fs.length = n) (h2 : n ≤ 4398046511000) (hb : b < w.heap.size) (hc : ∀ i, i < n → FC w b (o + i * 3) (fs.getD i default)) (hw : ∀ i, i < n → inR (fs.getD i default).a ∧ (fs.getD i default).c.size ≤ maxLen)
    (A : List (ByteArray × Int)) (ht : tots fs = some A) (hsort : SortsT) :
    Calls Tryd.prog 33 #[.slice (some ⟨b, o, none⟩) n cap, .func (.func 31) #[] #[], .func (.func 32) #[] #[], .func (.func 34) #[] #[]] w fun e w' => ∃ v ts, e = .returned (.tuple #[v, .int .i64 0]) ∧ Below w.heap.size w w' ∧ ts.Perm A ∧ ts.Pairwise (fun x y => sLt y.1 x.1 = false) ∧ w'.ownsRow w.heap.size 67 2 v ts.length (tcs ts) := by
  have HC := Lib.hid hc
  have HW := Lib.hid hw
  have HT := Lib.hid ht
  clear hc hw ht
  have hmm := @run_makeMap Tryd.prog
  go_enter Tryd.func33, Tryd.ntmps33
  go_wp2
  go_loopw [22] (fun t wr => ∃ k : Nat, ∃ D acc, k ≤ n ∧ t = .int .i64 k ∧ wr.ownsMap Tryd.prog 9 (plainElem Tryd.prog 3) w.heap.size k D ∧ RowKit.Hid (tots (fs.take k) = some acc) ∧ RowKit.Hid (Sums D acc) ∧ Below w.heap.size w wr) (fun t _ => n - (intOf t).toNat)
  case atStart => exact ⟨0, _, _, by omega, rfl, World.ownsMap_made _ _ _ _, rfl, sums_none, (Below.refl _ _).alloc (Nat.le_refl _) _⟩
  case round =>
    obtain ⟨k, D, acc, hk, rfl, hown, hT, hS, hB⟩ := hrel
    by_cases hlt : k < n
    · obtain ⟨c0, c1, c2⟩ := (HC.out k hlt).later hB hb
      have kc : (k : Int) < (n : Int) := by omega
      obtain ⟨f, hf⟩ : ∃ f, fs.getD k default = f := ⟨_, rfl⟩
      have HN := Lib.hid (tots_step (k := k) (f := f) (by omega) hf)
      have HV := Lib.hid (HW.out k hlt)
      rw [hf] at c0 c1 c2 HV
      clear hf
      obtain ⟨fd, fc, fa⟩ := f
      simp only at c0 c1 c2
      obtain ⟨s, hs⟩ : ∃ s, (sumAt fc acc).getD 0 = s := ⟨_, rfl⟩
      have HD := Lib.hid (p := ∀ c : Int, D.atKey (lit fc) (.lit (.int .i64 0)) = .lit (.int .i64 c) → c = s) (fun c e => by
        rw [hS.out.2.1 fc, hs] at e; injection e with e; injection e with _ e; exact e.symm)
      have hkey := keyS HV.out.2
      have BB := Lib.hid hB
      clear hB
      by_cases hfit : inR (s + fa)
      · have KA := Lib.hid (p := ∀ c : Int, D.atKey (lit fc) (.lit (.int .i64 0)) = .lit (.int .i64 c) → (Lit.int .i64 c).wf = true → ∀ W, Calls Tryd.prog 43 #[.int .i64 c, .int .i64 fa] W fun e w' => e = .returned (.tuple #[.int .i64 (s + fa), .int .i64 0]) ∧ w' = W) (fun c e hwc W => by
          refine (add_any c fa (wf_inR hwc) HV.out.1 W).mono ?_
          rw [HD.out c e, fitV_in hfit, fitF_in hfit]
          exact fun _ _ h => h)
        have NX := Lib.hid (p := tots (fs.take (k + 1)) = some (setAt fc (s + fa) acc)) (by
          rw [HN.out, hT.out]; simp only [Option.bind_some, hs]; rw [if_pos (fitB_in hfit)])
        have SX := Lib.hid (hS.out.set fc (s + fa))
        have WX := Lib.hid (wf_ofT hfit)
        generalize s + fa = S at *
        clear HN HD hs
        go_wp2_with (first
          | (go_at_call 31; refine (totKey_any fd fa fc _).mono ?_; rintro e w1 ⟨rfl, rfl⟩)
          | (at_lookup; refine wpList_lookup_own_int _ rfl _ _ 90 rfl 9 3 .i64 lawS Tryd.underlying90 Tryd.underlying3 (zeroIT _) w.heap.size k _ rfl ((hown.alloc _).alloc _) _ _ rfl hkey ?_; intro c hat hwc; have HA := Lib.hid (KA.out c hat hwc); clear hat hwc)
          | (go_at_call 43; refine (HA.out _).mono ?_; rintro e w1 ⟨rfl, rfl⟩)
          | (at_mapUpdate; refine wpList_mapUpdate_own _ rfl _ _ _ 90 rfl 9 3 lawS Tryd.underlying90 _ w.heap.size k _ rfl ((hown.alloc _).alloc _) (by unfold maxLen; omega) _ _ _ rfl rfl hkey _ [] (plainElem_int Tryd.underlying3 WX.out) ?_; intro w1 hown1 hgrow1))
        have R1 := Lib.hid hown1
        have R2 := Lib.hid (((BB.out.alloc BB.out.size _).alloc (Nat.le_trans BB.out.size (by simp)) _).grown hgrow1 (Nat.le_trans BB.out.size (by simp; omega)) (fun j hj => by cases hj; exact Nat.le_refl _))
        clear hown1 hgrow1
        go_roundw
        case rel => exact ⟨k + 1, _, _, by omega, by go_num, R1.out, NX.out, SX.out, R2.out⟩
        case measure => simp [intOf]; omega
      · exfalso
        have q := HN.out
        rw [hT.out] at q
        simp only [Option.bind_some, hs] at q
        rw [if_neg (by rw [fitB_out hfit]; simp)] at q
        have := tots_no q
        rw [HT.out] at this
        cases this
    · obtain rfl : k = n := by omega
      have hA : acc = A := by
        have := hT.out
        rw [List.take_of_length_le (by omega), HT.out] at this
        injection this with this; exact this.symm
      subst hA
      have HND := Lib.hid (tally_apart (acc := []) List.nodup_nil HT.out)
      have hsl := hown.size_le
      obtain ⟨i0, hi, hz0, hz1, hz2⟩ := info_parts infoT
      have BB := Lib.hid hB
      go_wp2_with (first
        | (at_len; refine wpList_len_own _ rfl _ 90 rfl 9 3 Tryd.underlying90 _ w.heap.size k _ rfl hown ?_)
        | (at_make; refine wpList_make_own _ rfl _ _ 42 rfl w.heap.size 67 i0 (.agg #[.string ⟨#[]⟩, .int .i64 0]) 2 Tryd.underlying42 hi hz0 hz1 .i64 .i64 _ (Maps.size D) rfl rfl rfl (by rw [hz2]; omega) (by unfold maxLen; omega) BB.out.size ?_; intro w0 hown0 hg0)
        | (at_range; refine wpList_range_own _ rfl _ 90 rfl 9 3 lawS Tryd.underlying90 _ w.heap.size k _ rfl (hown.kept hg0 (by simp)) ?_; intro w1 hrg1 hg1 hs1))
      go_frame
      go_loopw [16] (fun v wr2 => ∃ (left : Lit → Bool) (cnt : Nat) (out : List (ByteArray × Int)), wr2.ranges Tryd.prog 9 (plainElem Tryd.prog 3) w.heap.size w0.heap.size k D left cnt ∧ wr2.ownsRow w.heap.size 67 2 v out.length (tcs out) ∧ RowKit.Hid (Gath acc left out) ∧ out.length + cnt ≤ Maps.size D ∧ (∃ g cp, v = .slice (some ⟨g, 0, none⟩) out.length cp) ∧ Below w.heap.size w wr2) (fun _ wr2 => wr2.rangeLeft w.heap.size w0.heap.size)
      case atStart => exact ⟨_, _, [], hrg1, hown0.kept hg1 (.inr (by simp [Value.ownBlock])), gath_start hS.out, by simp, ⟨_, _, rfl⟩, (BB.out.grown hg0 BB.out.size (fun j hj => by cases hj)).grown hg1 (Nat.le_trans BB.out.size hg0.size) (fun j hj => by cases hj)⟩
      case round =>
        obtain ⟨left, cnt, out, hrg, hO, hG, hL, ⟨g, cp, rfl⟩, hB2⟩ := hrel
        have hap := row_apart hO hrg
        go_wp2_with (at_next; refine wp_next_s _ rfl _ rfl w.heap.size w0.heap.size k _ _ _ rfl hrg ?_ ?_)
        · intro hc0 hl0
          have HP := Lib.hid (gath_end HND.out hG.out hl0)
          have hgB : w.heap.size ≤ g := (hO.lt g rfl).1
          clear hc0 hl0
          go_wp2_with (go_at_call 47; refine (hsort w.heap.size g cp out _ (by omega) hO).mono ?_; rintro e w3 ⟨rfl, ts, hp, hs, hb3, ho3⟩)
          go_ret2
          exact ⟨_, ts, rfl, hB2.trans (hb3 _ hgB hB2.size), hp.trans HP.out, hs, ho3⟩
        · intro x c w2 cnt2 hlx hat hrg2 hlt2 hg2 hs2 hen
          have hO2 := hO.kept hg2 (.inr hap.2.symm)
          have HX := Lib.hid (gath_step hS.out hG.out hlx (has_true_of_atKey hat) (hat _))
          have B2 := Lib.hid (hB2.grown hg2 hB2.size (fun j hj => by cases hj; exact Nat.le_trans BB.out.size hg0.size))
          clear hat hlx hs2
          go_wp2_with (first
            | (go_at_call 32; refine (totTold_any x c _).mono ?_; rintro e w3 ⟨rfl, rfl⟩)
            | (at_builtin; refine wp_total _ c x rfl _ _ rfl w.heap.size _ out rfl (by simp only [World.size_alloc]; rfl) (hO2.alloc _) (by omega) (Nat.le_trans B2.out.size (by simp)) ?_; intro v' w4 ho4 hg4))
          obtain ⟨g', cp', rfl⟩ := own_sliceT ho4
          have hg5 := ((World.grownBy_alloc w2 _ _).trans (World.grownBy_alloc _ _ _)).trans hg4
          have R1 := Lib.hid (hrg2.kept hg5 hap.1 hap.2)
          have R2 := Lib.hid (B2.out.grown hg5 B2.out.size (fun j e => (hO2.lt j e).1))
          have R3 := Lib.hid ho4
          clear ho4 hg4
          go_wp2
          go_roundw
          case rel => exact ⟨_, cnt2, _, R1.out, R3.out, HX.out, by simp; omega, ⟨_, _, rfl⟩, R2.out⟩
          case measure => rw [R1.out.left_eq, hrg.left_eq]; exact hlt2
end Go.Proofs.YtmdgfcldohmjdaaDoor
