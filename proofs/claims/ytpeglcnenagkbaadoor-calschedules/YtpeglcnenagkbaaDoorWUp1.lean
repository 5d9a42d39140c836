/-
  WALK: the body of upFrom's iterator.
-/
import Derived.Test.YtpeglcnenagkbaaDoorPlainLow2
import Derived.Test.YtpeglcnenagkbaaDoorWTz
import Derived.RangeFuncNested
import Derived.RangeFuncBound
import Derived.RangeFuncCalls
import Derived.RangeFuncLeaves
import Derived.Shelf.Abstract
import Derived.Shelf.RegionOpen
import Derived.WalkKit
import Derived.OwnWalkIn
import Derived.TacticsInMore
import Derived.LoopNIn
import Derived.LoopIn
namespace Go.Proofs.YtpeglcnenagkbaaDoor
open Go.RowKit Go.Shelf
attribute [local go_sem] Oper.semAt_some
set_option linter.unusedVariables false
set_option linter.unusedSimpArgs false

theorem ups_pre (ws : List Nat) (A : Int) (s e : Nat) : ∀ d, ups ws A s e <+: ups ws A s (e + d)
  | 0 => List.prefix_refl _
  | d + 1 => by
    refine (ups_pre ws A s e d).trans ?_
    rw [← Nat.add_assoc]
    cases h : (decide (s ≤ e + d) && Bit ws (e + d)) with
    | false => rw [ups_no h]; exact List.prefix_refl _
    | true =>
      simp only [Bool.and_eq_true, decide_eq_true_eq] at h
      rw [ups_yes h.1 h.2]; exact List.prefix_append _ _
theorem mask_is (t : Nat) (h : t < 64) : IntKind.u64.wrap (IntKind.u64.wrap (2 ^ t) - 1) = ((2 ^ t - 1 : Nat) : Int) := by
  rw [wrap_pow h]
  have := pow_lt64 h
  have : 0 < 2 ^ t := Nat.two_pow_pos t
  rw [IntKind.wrap_u64]
  omega
set_option maxHeartbeats 2000000 in
theorem up1_in (m : Nat) (hm : 1 ≤ m) (l sb st g n₀ n cap s0 : Nat) (A : Int) (ws : List Nat) (a0 : 0 ≤ A) (a1 : A < 1000000) (hn : n ≤ 100000) (hs0 : s0 < 64 * n) (hl : ws.length = n) (h64 : ∀ i, ws.getD i 0 < 18446744073709551616)
    (J Jx : List Int → World → Prop) (hsb : sb < n₀) (hg : g < n₀) (ht : 0 < n₀)
    (hY : ∀ pre x W, J pre W → pre ++ [x] <+: ups ws A s0 (64 * n) → YieldAt Fence.wide (m - 1) Tryd.prog l #[.int .i64 x] W fun e W' =>
      (e = .returned (.bool true) ∧ J (pre ++ [x]) W' ∧ Below n₀ W W') ∨ (e = .returned (.bool false) ∧ Jx (pre ++ [x]) W'))
    (W : World) (hJ : AbidesFrom W.heap.size J) (c0 : W.cell? ⟨st, 0, none⟩ = some (.int .i64 (s0 : Int))) (c1 : W.cell? ⟨sb, 0, none⟩ = some (.int .i64 A)) (c2 : W.cell? ⟨sb, 1, none⟩ = some (.slice (some ⟨g, 0, none⟩) n cap)) (hw : Wd W g ws) (hT : Tz W) (h0 : J [] W) :
    CallsIn Fence.wide m Tryd.prog 48 #[.func (.yield l) #[] #[], .pointer (some ⟨st, 0, none⟩), .pointer (some ⟨sb, 0, none⟩)] W fun e W' => (∃ v, e = .returned v) ∧
      ((∃ ys, ys = ups ws A s0 (64 * n) ∧ J ys W') ∨ (∃ pre, pre <+: ups ws A s0 (64 * n) ∧ Jx pre W')) := by
  obtain ⟨j, ej⟩ : ∃ j : Nat, (s0 : Int) / 64 = j := ⟨s0 / 64, by omega⟩
  obtain ⟨t, et⟩ : ∃ t : Nat, (s0 : Int) % 64 = t := ⟨s0 % 64, by omega⟩
  have t64 : t < 64 := by omega
  have mk := mask_is t t64
  have HY := Lib.hid hY
  have HW := Lib.hid hw
  have HT := Lib.hid hT
  have H6 := Lib.hid h64
  have ES := Lib.hid (show s0 = 64 * j + t by omega)
  have jn : j < n := by omega
  have U0 := Lib.hid (show ups ws A s0 (64 * j) = [] by
    have := ups_skip (ws := ws) (A := A) (s := s0) (e := 0) (64 * j) (fun m a b => by rw [decide_eq_false (by omega), Bool.false_and])
    rw [Nat.zero_add] at this; rw [this]; rfl)
  clear hY hw hT h64
  refine callsIn_of_wp Tryd.func48 rfl trivial ?_ rfl
  simp only [Tryd.ntmps48, List.size_toArray, List.length_cons, List.length_nil, Nat.reduceAdd, Nat.reduceSub, Array.replicate_succ, Array.replicate_zero, List.push_toArray, List.append_toArray, List.nil_append, List.cons_append]
  gi_wp2
  simp only [et]
  gi_loopw [4, 5] (fun q i wr => ∃ (k T : Nat), j ≤ k ∧ k ≤ n ∧ T < 64 ∧ q = .int .u64 ((2 ^ T - 1 : Nat) : Int) ∧ i = .int .i64 k ∧ (k = j → T = t) ∧ (j < k → T = 0) ∧ J (ups ws A s0 (64 * k)) wr ∧ Below n₀ W wr) (fun _ i _ => n - (intOf i).toNat)
  case atStart => exact ⟨j, t, by omega, by omega, t64, by first | rfl | rw [mk], rfl, fun _ => rfl, fun h => absurd h (by omega), by rw [U0.out]; exact h0, Below.refl _ _⟩
  case round =>
    obtain ⟨k, T, k0, k1, T1, rfl, rfl, kT, kT0, hJk, hB⟩ := hrel
    have BB := Lib.hid hB
    have JJ := Lib.hid hJk
    have d1 : wr.cell? ⟨sb, 0, none⟩ = some (.int .i64 A) := (hB.cell (p := ⟨sb, 0, none⟩) hsb).trans c1
    have d2 : wr.cell? ⟨sb, 1, none⟩ = some (.slice (some ⟨g, 0, none⟩) n cap) := (hB.cell (p := ⟨sb, 1, none⟩) hsb).trans c2
    by_cases hlt : k < n
    · have wc := (hB.cell (p := ⟨g, k, none⟩) hg).trans (HW.out.2 k (by omega)).1
      obtain ⟨u, u1, u2, u3⟩ := andNot_low (ws.getD k 0) T (H6.out k) T1
      have U3 := Lib.hid u3
      have kn : (k : Int) < n := by omega
      have VB := Lib.hid (fun i (hi : i < 64) => bit_at ws k i hi)
      clear u3 hB hJk
      generalize ws.getD k 0 = v at *
      have UT := Lib.hid (show ups ws A s0 (64 * k + T) = ups ws A s0 (64 * k) from ups_skip T (fun m a b => by
        by_cases e : k = j
        · have := kT e; have := ES.out; rw [decide_eq_false (by omega), Bool.false_and]
        · have := kT0 (by omega); omega))
      have ST := Lib.hid (show s0 ≤ 64 * k + T by
        have := ES.out
        by_cases e : k = j
        · have := kT e; omega
        · omega)
      gi_wp2
      gi_loopw [6] (fun x wr => ∃ (u p : Nat), p ≤ 64 ∧ x = .int .u64 (u : Nat) ∧ u < 18446744073709551616 ∧ RowKit.Hid (∀ i, i < 64 → u.testBit i = (v.testBit i && decide (p ≤ i))) ∧ RowKit.Hid (s0 ≤ 64 * k + p) ∧ J (ups ws A s0 (64 * k + p)) wr ∧ Below n₀ W wr) (fun x _ => (intOf x).toNat)
      case atStart => exact ⟨u, T, by omega, by first | rfl | (rw [u1]), u2, U3.out, ST.out, by rw [UT.out]; exact JJ.out, BB.out⟩
      case round =>
        clear JJ BB d1 d2 wc U3 u1 u2 UT ST
        rename World => wi
        obtain ⟨u, p, p1, rfl, u2, hU, hS, hJk, hB⟩ := hrel
        have BB := Lib.hid hB
        have JJ := Lib.hid hJk
        have d1 : wi.cell? ⟨sb, 0, none⟩ = some (.int .i64 A) := (hB.cell (p := ⟨sb, 0, none⟩) hsb).trans c1
        by_cases hu : u = 0
        · subst hu
          have UE := Lib.hid (show ups ws A s0 (64 * (k + 1)) = ups ws A s0 (64 * k + p) by
            have := ups_skip (ws := ws) (A := A) (s := s0) (e := 64 * k + p) (64 - p) (fun m a b => by
              have e : m = 64 * k + (m - 64 * k) := by omega
              have z := hU.out (m - 64 * k) (by omega)
              rw [Nat.zero_testBit, decide_eq_true (by omega), Bool.and_true] at z
              rw [e, VB.out (m - 64 * k) (by omega), ← z, Bool.and_false])
            rw [← this]; congr 1; omega)
          clear hB hJk hU hS
          gi_wp2
          go_roundw
          case rel => exact ⟨k + 1, 0, by omega, by omega, by omega, rfl, by go_num, fun h => absurd h (by omega), fun _ => rfl, by rw [UE.out]; exact JJ.out, BB.out⟩
          case measure => simp [intOf]; omega
        · have hu' : ¬ (u : Int) = 0 := by omega
          obtain ⟨t0, q1, q2, q3, q4⟩ := tz64_low u u2 hu
          have TZ := Lib.hid q4
          obtain ⟨z1, z2⟩ : v.testBit t0 = true ∧ p ≤ t0 := by
            have z := hU.out t0 q1
            rw [q2] at z
            simpa using z.symm
          obtain ⟨x, x1, x2, x3⟩ := and_less u t0 u2 q2 q3
          have X3 := Lib.hid x3
          have Q3 := Lib.hid q3
          have w4 : IntKind.u64.wrap ((u : Int) - 1) = (u : Int) - 1 := by rw [IntKind.wrap_u64]; omega
          have TW : Tz wi := ⟨Nat.lt_of_lt_of_le HT.out.1 (by have := hB.size; exact this), fun i hi => (hB.cell (p := ⟨0, i, none⟩) ht).trans (HT.out.2 i hi)⟩
          have TT := Lib.hid (tz_drew TW)
          have U1 := Lib.hid (show ups ws A s0 (64 * k + t0) = ups ws A s0 (64 * k + p) by
            have := ups_skip (ws := ws) (A := A) (s := s0) (e := 64 * k + p) (t0 - p) (fun m a b => by
              have e : m = 64 * k + (m - 64 * k) := by omega
              have z := hU.out (m - 64 * k) (by omega)
              rw [q3 _ (by omega), decide_eq_true (by omega), Bool.and_true] at z
              rw [e, VB.out (m - 64 * k) (by omega), ← z, Bool.and_false])
            rw [← this]; congr 1; omega)
          have U2 := Lib.hid (show ups ws A s0 (64 * k + (t0 + 1)) = ups ws A s0 (64 * k + p) ++ [A + 64 * k + t0] by
            have y := ups_yes (ws := ws) (A := A) (s := s0) (e := 64 * k + t0) (by have := hS.out; omega) (by rw [VB.out t0 q1]; exact z1)
            rw [U1.out] at y
            rw [← Nat.add_assoc, y]; congr 2; push_cast; omega)
          have U4 := Lib.hid (show ups ws A s0 (64 * k + (t0 + 1)) <+: ups ws A s0 (64 * n) by
            have := ups_pre ws A s0 (64 * k + (t0 + 1)) (64 * n - (64 * k + (t0 + 1)))
            rwa [show 64 * k + (t0 + 1) + (64 * n - (64 * k + (t0 + 1))) = 64 * n by omega] at this)
          obtain ⟨fn, tmps, assign, body, hy, hR⟩ := HY.out _ (A + 64 * k + t0) wi.drew (hJ _ wi wi.drew none hJk ⟨rfl, rfl, rfl, Nat.le_refl _, fun _ _ _ => rfl⟩ (fun r e => by cases e)) (by have := U4.out; rwa [U2.out] at this)
          have hmx : Tryd.prog.follows .mixedOrders = true := by kernel_rfl
          have w1 : IntKind.i64.wrap (64 * (k : Int)) = 64 * (k : Int) := by simp [IntKind.wrap, IntKind.bits, IntKind.signed]; omega
          have w2 : IntKind.i64.wrap (A + 64 * (k : Int)) = A + 64 * (k : Int) := by simp [IntKind.wrap, IntKind.bits, IntKind.signed]; omega
          have w3 : IntKind.i64.wrap (A + 64 * (k : Int) + (t0 : Int)) = A + 64 * (k : Int) + (t0 : Int) := by simp [IntKind.wrap, IntKind.bits, IntKind.signed]; omega
          have CV := Lib.hid (show ∀ (e : Ending) (W' : World), ((e = .returned (.bool true) ∧ J (ups ws A s0 (64 * k + p) ++ [A + 64 * k + t0]) W' ∧ Below n₀ wi.drew W') ∨ (e = .returned (.bool false) ∧ Jx (ups ws A s0 (64 * k + p) ++ [A + 64 * k + t0]) W')) →
              ∃ bb : Bool, e = .returned (.bool bb) ∧ RowKit.Hid ((bb = true ∧ J (ups ws A s0 (64 * k + (t0 + 1))) W' ∧ Below n₀ W W') ∨ (bb = false ∧ ∃ pre, pre <+: ups ws A s0 (64 * n) ∧ Jx pre W')) from fun e W' h => by
            rcases h with ⟨rfl, a, b⟩ | ⟨rfl, a⟩
            · exact ⟨true, rfl, .inl ⟨rfl, by rw [U2.out]; exact a, (⟨BB.out.os, BB.out.tape, BB.out.output, BB.out.size, BB.out.block⟩ : Below n₀ W wi.drew).trans b⟩⟩
            · exact ⟨false, rfl, .inr ⟨rfl, _, by have := U4.out; rwa [U2.out] at this, a⟩⟩)
          clear hB hJk q2 q3 q4 x3
          gi_wp2
          gi_region_with_o (first
            | (refine ⟨trivial, ?_⟩; gi_at_call 49; refine (callsIn_wide.2 (TZ.out _ TT.out)).mono ?_; rintro e w' ⟨rfl, rfl⟩)
            | (refine hR.mono ?_; intro e W3 hh; obtain ⟨bb, rfl, H3⟩ := CV.out e W3 hh; clear hh))
          all_goals
            cases bb with
            | true =>
              obtain ⟨j3, b3⟩ : J (ups ws A s0 (64 * k + (t0 + 1))) W3 ∧ Below n₀ W W3 := by
                rcases H3.out with ⟨_, a, b⟩ | ⟨a, _⟩
                · exact ⟨a, b⟩
                · cases a
              have J3 := Lib.hid j3
              have B3 := Lib.hid b3
              clear H3 j3 b3
              gi_wp2
              go_roundw
              case rel => exact ⟨x, t0 + 1, by omega, by first | rfl | (rw [x1]), by omega, fun i hi => by
                rw [X3.out i, hU.out i hi]
                by_cases e : i < t0
                · rw [show (v.testBit i && decide (p ≤ i)) = false by rw [← hU.out i hi]; exact Q3.out i e, decide_eq_false (show ¬ t0 + 1 ≤ i by omega)]; simp
                · by_cases f : i = t0
                  · subst f; simp
                  · rw [decide_eq_true (show p ≤ i by omega), decide_eq_true (show t0 + 1 ≤ i by omega), decide_eq_true f]; simp, by have := hS.out; show s0 ≤ 64 * k + (t0 + 1); omega, J3.out, B3.out⟩
              case measure => simp [intOf]; omega
            | false =>
              obtain ⟨pre, e1, e2⟩ : ∃ pre, pre <+: ups ws A s0 (64 * n) ∧ Jx pre W3 := by
                rcases H3.out with ⟨a, _⟩ | ⟨_, a⟩
                · cases a
                · exact a
              have E := Lib.hid e1
              have E2 := Lib.hid e2
              clear H3 e1 e2
              gi_wp2
              refine bodyPost_ret (results_none rfl _ _ _) rfl ?_
              exact ⟨⟨_, rfl⟩, .inr ⟨_, E.out, E2.out⟩⟩
    · obtain rfl : k = n := by omega
      clear hB hJk
      gi_wp2
      go_end0
      exact ⟨⟨_, rfl⟩, .inl ⟨_, rfl, JJ.out⟩⟩
end Go.Proofs.YtpeglcnenagkbaaDoor
