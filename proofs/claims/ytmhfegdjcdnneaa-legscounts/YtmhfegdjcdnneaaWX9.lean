/-
  WALK: legs.giveReads: an iterator that calls itself.
-/
import Derived.Test.YtmhfegdjcdnneaaWX8
import Derived.RangeFuncNested
import Derived.RangeFuncBound
import Derived.RangeFuncCalls
import Derived.RangeFuncLeaves
import Derived.Shelf.Abstract
import Derived.Shelf.RegionOpen
import Derived.OwnWalkIn
import Derived.TacticsInMore
import Derived.LoopNIn
import Derived.LoopIn
namespace Go.Proofs.Ytmhfegdjcdnneaa
open Go.RowKit Go.Shelf
attribute [local go_sem] Oper.semAt_some
set_option linter.unusedVariables false
set_option linter.unusedSimpArgs false

theorem xroom_of_none {F : Fence} (hd : F.depth = none) (k : Nat) : F.room k := fun d h => by rw [hd] at h; cases h
theorem xround_any {F : Fence} (hd : F.depth = none) {m m' : Nat} {P : Program} {l : Nat} {f : FuncId} {tmps : Array Value} {assign body : Code} {w : World} {R : Ending → World → Prop}
    (h : RoundIn F m P l f tmps assign body w R) : RoundIn F m' P l f tmps assign body w R := ⟨h.1, fun c cs _ => h.2 c cs (xroom_of_none hd _)⟩
theorem xyield_any {F : Fence} (hd : F.depth = none) {m : Nat} (m' : Nat) {P : Program} {l : Nat} {args : Array Value} {W : World} {R : Ending → World → Prop} (h : YieldAt F m P l args W R) : YieldAt F m' P l args W R := by
  obtain ⟨fn, tmps, assign, body, hy, hR⟩ := h
  exact ⟨fn, tmps, assign, body, hy, xround_any hd hR⟩
def Ans (J Jx : List (Int × Int) → World → Prop) (n₀ : Nat) (pre rs : List (Int × Int)) (W : World) (e : Ending) (W' : World) : Prop :=
  ∃ b : Bool, e = .returned (.bool b) ∧ (b = true → J (pre ++ rs) W' ∧ Below n₀ W W') ∧ (b = false → ∃ q, q <+: rs ∧ Jx (pre ++ q) W')
set_option maxHeartbeats 2000000 in
theorem giveReads_in (l n₀ : Nat) (L : List (Int × Int)) (J Jx : List (Int × Int) → World → Prop)
    (hY : ∀ m pre (x : Int × Int) W, J pre W → pre ++ [x] <+: L → YieldAt Fence.wide m Try.prog l #[.int .i64 x.1, .int .i64 x.2] W fun e W' =>
      (e = .returned (.bool true) ∧ J (pre ++ [x]) W' ∧ Below n₀ W W') ∨ (e = .returned (.bool false) ∧ Jx (pre ++ [x]) W'))
    (hJ : ∀ s W, J s W → J s W.drew)
    {w0 : World} (hn0 : w0.heap.size ≤ n₀) {e : Xt} {vs : List Value} (hE : XV w0 e vs) :
    ∀ (p q : Nat) (pre : List (Int × Int)) (W : World), Below w0.heap.size w0 W → p < n₀ → (∀ j, j < 4 → W.cell? ⟨p, q + j, none⟩ = some (vs.getD j default)) → J pre W → pre ++ e.rds <+: L →
      Calls Try.prog 34 #[.pointer (some ⟨p, q, none⟩), .func (.yield l) #[] #[]] W (Ans J Jx n₀ pre e.rds W) := by
  induction hE with
  | @mk op num day kids ka kc V wop wnum wday hk hn hr hkids ih =>
    intro p q pre W hB hp hc hJ0 hL
    have c0 := hc 0 (by omega)
    have c1 := hc 1 (by omega)
    have c2 := hc 2 (by omega)
    have c3 := hc 3 (by omega)
    simp only [List.getD_cons_succ, List.getD_cons_zero, Nat.add_zero] at c0 c1 c2 c3
    have WS := Lib.hid (wellShaped_any p q op ka kids.length kc W c0 c3)
    have J0 := Lib.hid hJ0
    have PL := Lib.hid hL
    have HY := Lib.hid hY
    have HJ := Lib.hid hJ
    clear hY hJ0 hL hc hJ
    by_cases hs : (kids.length : Int) = shp op
    · have hs1 : decide ((kids.length : Int) = shp op) = true := decide_eq_true hs
      rw [hs1] at WS
      by_cases h5 : op = 5
      · subst h5
        have ER : (Xt.mk 5 num day kids).rds = [(num, day)] := by simp only [Xt.rds, if_pos hs.symm, if_true]
        rw [ER] at PL ⊢
        obtain ⟨fn, tmps, assign, body, hy, hR⟩ := HY.out 4 pre (num, day) W.drew.drew (HJ.out _ _ (HJ.out _ _ J0.out)) PL.out
        dsimp only at hy hR
        refine (callsIn_wide (n := 5)).1 ?_
        refine callsIn_of_wp Try.func34 rfl trivial ?_ rfl
        simp only [Try.ntmps34, List.size_toArray, List.length_cons, List.length_nil, Nat.reduceAdd, Nat.reduceSub, Array.replicate_succ, Array.replicate_zero, List.push_toArray, List.append_toArray, List.nil_append, List.cons_append]
        refine wpIn_wide.2 ?_
        go_wp2_with fail
        go_at_call 47
        refine WS.out.mono ?_
        rintro e w1 ⟨rfl, rfl⟩
        go_wp2
        have hmx : Try.prog.follows .mixedOrders = true := by kernel_rfl
        have CV := Lib.hid (show ∀ (e : Ending) (W' : World), ((e = .returned (.bool true) ∧ J (pre ++ [(num, day)]) W' ∧ Below n₀ W.drew.drew W') ∨ (e = .returned (.bool false) ∧ Jx (pre ++ [(num, day)]) W')) →
            ∃ bb : Bool, e = .returned (.bool bb) ∧ RowKit.Hid ((bb = true → J (pre ++ [(num, day)]) W' ∧ Below n₀ W W') ∧ (bb = false → ∃ q, q <+: [(num, day)] ∧ Jx (pre ++ q) W')) from fun e W' h => by
          rcases h with ⟨rfl, a, b⟩ | ⟨rfl, a⟩
          · exact ⟨true, rfl, fun _ => ⟨a, ((Below.refl _ _).drew.drew).trans b⟩, fun h => by cases h⟩
          · exact ⟨false, rfl, (fun h => by cases h), fun _ => ⟨_, List.prefix_refl _, a⟩⟩)
        refine (wpIn_wide (n := 5)).1 ?_
        gi_region_with_o (first
          | (refine hR.mono ?_; intro e W3 hh; obtain ⟨bb, rfl, H3⟩ := CV.out e W3 hh; clear hh))
        all_goals
          gi_wp2
          go_wp2
          go_ret
          exact ⟨bb, rfl, H3.out⟩
      · have ER : (Xt.mk op num day kids).rds = Xt.rdss kids := by simp only [Xt.rds]; rw [if_pos hs.symm, if_neg h5]
        rw [ER] at PL ⊢
        have h51 : (op == 5) = false := by simpa using h5
        have IH := Lib.hid ih
        have HR := Lib.hid hr
        have HK := Lib.hid hkids
        have HB := Lib.hid hB
        clear ih hr hkids hB hs ER
        go_enter Try.func34, Try.ntmps34
        go_wp2_with fail
        go_at_call 47
        refine WS.out.mono ?_
        rintro e w1 ⟨rfl, rfl⟩
        go_wp2
        go_loopw [29] (fun t wr => ∃ k : Nat, k ≤ kids.length ∧ t = .int .i64 k ∧ J (pre ++ Xt.rdss (kids.take k)) wr ∧ Below n₀ W wr) (fun t _ => kids.length - (intOf t).toNat)
        case atStart => exact ⟨0, by omega, rfl, by simp only [List.take_zero, Xt.rdss, List.append_nil]; exact HJ.out _ _ J0.out, (Below.refl _ _).drew⟩
        case round =>
          rename World => wr
          obtain ⟨k, hk, rfl, hJk, hBk⟩ := hrel
          have JK := Lib.hid hJk
          have BK := Lib.hid hBk
          by_cases kl : k < kids.length
          · have kc : (k : Int) < (kids.length : Int) := by omega
            have d3 := (hBk.cell (p := ⟨p, q + 3, none⟩) hp).trans c3
            have BW := Lib.hid (HB.out.trans (hBk.mono hn0))
            obtain ⟨x, of, rfl, hx, hc⟩ := HR.out.at BW.out (by omega)
            have RT := Lib.hid (Xt.rdss_take kids k kl)
            have PK := Lib.hid (show pre ++ Xt.rdss (kids.take k) ++ (kids.getD k default).rds <+: L by
              rw [List.append_assoc, ← RT.out]
              exact ((List.prefix_append_right_inj _).2 (Xt.rdss_pre kids (k + 1))).trans PL.out)
            have I1 := Lib.hid (IH.out k kl x (of + k * 4) (pre ++ Xt.rdss (kids.take k)) wr BW.out (by omega) (fun j hj => hc k kl j hj) hJk PK.out)
            clear hc hJk hBk
            go_wp2_with fail
            go_at_call 34
            refine I1.out.mono ?_
            rintro e w5 ⟨b, rfl, h1, h2⟩
            have H1 := Lib.hid h1
            have H2 := Lib.hid h2
            clear h1 h2
            cases b with
            | true =>
              go_wp2
              go_roundw
              case rel => exact ⟨k + 1, by omega, by go_num, by rw [RT.out, ← List.append_assoc]; exact (H1.out (by first | rfl | trivial)).1, BK.out.trans (H1.out (by first | rfl | trivial)).2⟩
              case measure => simp [intOf]; omega
            | false =>
              go_wp2
              go_ret
              obtain ⟨q', hq, hx'⟩ := H2.out (by first | rfl | trivial)
              refine ⟨false, rfl, (fun h => by cases h), fun _ => ⟨Xt.rdss (kids.take k) ++ q', ?_, by rw [← List.append_assoc]; exact hx'⟩⟩
              have := Xt.rdss_pre kids (k + 1)
              rw [RT.out] at this
              exact ((List.prefix_append_right_inj _).2 hq).trans this
          · obtain rfl : k = kids.length := by omega
            clear hJk hBk
            go_wp2
            go_ret
            exact ⟨true, rfl, fun _ => ⟨by have := JK.out; rwa [List.take_length] at this, BK.out⟩, fun h => by cases h⟩
    · have ER : (Xt.mk op num day kids).rds = [] := by simp only [Xt.rds]; rw [if_neg (fun h => hs h.symm)]
      rw [ER]
      have hs1 : decide ((kids.length : Int) = shp op) = false := decide_eq_false hs
      rw [hs1] at WS
      go_enter Try.func34, Try.ntmps34
      go_wp2_with fail
      go_at_call 47
      refine WS.out.mono ?_
      rintro e w1 ⟨rfl, rfl⟩
      go_wp2
      go_ret
      exact ⟨true, rfl, fun _ => ⟨by rw [List.append_nil]; exact HJ.out _ _ J0.out, (Below.refl _ _).drew⟩, fun h => by cases h⟩
end Go.Proofs.Ytmhfegdjcdnneaa
