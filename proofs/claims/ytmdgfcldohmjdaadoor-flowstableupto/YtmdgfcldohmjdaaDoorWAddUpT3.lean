/-
  WALK: addUp of Totals, of no flows.
-/
import Derived.Test.YtmdgfcldohmjdaaDoorWAddUpT2
namespace Go.Proofs.YtmdgfcldohmjdaaDoor
open Go.RowKit Go.Maps
set_option linter.unusedVariables false
set_option linter.unusedSimpArgs false

set_option maxHeartbeats 2000000 in
set_option maxRecDepth 100000 in
theorem addUpT_none (a : Option Addr) (cap : Nat) (w : World) (hsort : SortsT) :
    Calls Tryd.prog 33 #[.slice a 0 cap, .func (.func 31) #[] #[], .func (.func 32) #[] #[], .func (.func 34) #[] #[]] w fun e w' => ∃ v ts, e = .returned (.tuple #[v, .int .i64 0]) ∧ Below w.heap.size w w' ∧ ts.Perm [] ∧ ts.Pairwise (fun x y => sLt y.1 x.1 = false) ∧ w'.ownsRow w.heap.size 67 2 v ts.length (tcs ts) := by
  have h1 : ([] : List Fl).length = 0 := rfl
  have h2 : (0 : Nat) ≤ 4398046511000 := by omega
  have HT := Lib.hid (p := tots [] = some []) rfl
  have hmm := @run_makeMap Tryd.prog
  go_enter Tryd.func33, Tryd.ntmps33
  go_wp2
  go_loopw [22] (fun t wr => ∃ k : Nat, ∃ D acc, k ≤ 0 ∧ t = .int .i64 k ∧ wr.ownsMap Tryd.prog 9 (plainElem Tryd.prog 3) w.heap.size k D ∧ RowKit.Hid (tots (([] : List Fl).take k) = some acc) ∧ RowKit.Hid (Sums D acc) ∧ Below w.heap.size w wr) (fun t _ => 0 - (intOf t).toNat)
  case atStart => exact ⟨0, _, _, by omega, rfl, World.ownsMap_made _ _ _ _, rfl, sums_none, (Below.refl _ _).alloc (Nat.le_refl _) _⟩
  case round =>
    obtain ⟨k, D, acc, hk, rfl, hown, hT, hS, hB⟩ := hrel
    obtain rfl : k = 0 := by omega
    have hA : acc = [] := by
      have := hT.out
      rw [List.take_nil, HT.out] at this
      injection this with this; exact this.symm
    subst hA
    have HND := Lib.hid (tally_apart (acc := []) List.nodup_nil HT.out)
    have hsl := hown.size_le
    obtain ⟨i0, hi, hz0, hz1, hz2⟩ := info_parts infoT
    have BB := Lib.hid hB
    go_wp2_with (first
      | (at_len; refine wpList_len_own _ rfl _ 90 rfl 9 3 Tryd.underlying90 _ w.heap.size 0 _ rfl hown ?_)
      | (at_make; refine wpList_make_own _ rfl _ _ 42 rfl w.heap.size 67 i0 (.agg #[.string ⟨#[]⟩, .int .i64 0]) 2 Tryd.underlying42 hi hz0 hz1 .i64 .i64 _ (Maps.size D) rfl rfl rfl (by rw [hz2]; omega) (by unfold maxLen; omega) BB.out.size ?_; intro w0 hown0 hg0)
      | (at_range; refine wpList_range_own _ rfl _ 90 rfl 9 3 lawS Tryd.underlying90 _ w.heap.size 0 _ rfl (hown.kept hg0 (by simp)) ?_; intro w1 hrg1 hg1 hs1))
    go_frame
    go_loopw [16] (fun v wr2 => ∃ (left : Lit → Bool) (cnt : Nat) (out : List (ByteArray × Int)), wr2.ranges Tryd.prog 9 (plainElem Tryd.prog 3) w.heap.size w0.heap.size 0 D left cnt ∧ wr2.ownsRow w.heap.size 67 2 v out.length (tcs out) ∧ RowKit.Hid (Gath [] left out) ∧ out.length + cnt ≤ Maps.size D ∧ (∃ g cp, v = .slice (some ⟨g, 0, none⟩) out.length cp) ∧ Below w.heap.size w wr2) (fun _ wr2 => wr2.rangeLeft w.heap.size w0.heap.size)
    case atStart => exact ⟨_, _, [], hrg1, hown0.kept hg1 (.inr (by simp [Value.ownBlock])), gath_start hS.out, by simp, ⟨_, _, rfl⟩, (BB.out.grown hg0 BB.out.size (fun j hj => by cases hj)).grown hg1 (Nat.le_trans BB.out.size hg0.size) (fun j hj => by cases hj)⟩
    case round =>
      obtain ⟨left, cnt, out, hrg, hO, hG, hL, ⟨g, cp, rfl⟩, hB2⟩ := hrel
      have hap := row_apart hO hrg
      go_wp2_with (at_next; refine wp_next_s _ rfl _ rfl w.heap.size w0.heap.size 0 _ _ _ rfl hrg ?_ ?_)
      · intro hc0 hl0
        have HP := Lib.hid (gath_end HND.out hG.out hl0)
        have hgB : w.heap.size ≤ g := (hO.lt g rfl).1
        clear hc0 hl0
        go_wp2_with (go_at_call 47; refine (hsort w.heap.size g cp out _ (by omega) hO).mono ?_; rintro e w3 ⟨rfl, ts, hp, hs, hb3, ho3⟩)
        go_ret2
        exact ⟨_, ts, rfl, hB2.trans (hb3 _ hgB hB2.size), hp.trans HP.out, hs, ho3⟩
      · intro x c w2 cnt2 hlx hat hrg2 hlt2 hg2 hs2 hen
        exfalso
        omega
end Go.Proofs.YtmdgfcldohmjdaaDoor
