/-
  WALK: CalTiles.
-/
import Derived.Test.YtpeglcnenagkbaaDoorWTiles1
import Derived.Deep.RegionHeld3
import Derived.Maps.AppendAt
import Derived.RangeFuncBox
import Derived.RangeFuncNested
namespace Go.Proofs.YtpeglcnenagkbaaDoor
open Go.RowKit Go.Shelf
attribute [local go_sem] Oper.semAt_some
set_option linter.unusedVariables false
set_option linter.unusedSimpArgs false

theorem TB.drew {w W : World} {a b c : Int} {ha : Option Addr} {hc hcap : Nat} (h : TB w W a b c ha hc hcap) : TB w W.drew a b c ha hc hcap := h.later ⟨rfl, rfl, rfl, Nat.le_refl _, fun _ _ => rfl⟩
theorem grown_bel {W W' : World} (b : Below W.heap.size W W') : W.grownBy W' none := ⟨b.os, b.tape, b.output, b.size, fun k hk _ => b.block k hk⟩
theorem row_bel {W W' : World} {n₀ e s n : Nat} {v : Value} {xs : List Value} (h : W.ownsRow n₀ e s v n xs) (b : Below W.heap.size W W') : W'.ownsRow n₀ e s v n xs := h.kept (grown_bel b) (Classical.em _)
theorem box_bel {W W' : World} {B t : Nat} {v : Value} (h : Boxed W B t v) (b : Below W.heap.size W W') : Boxed W' B t v := (b.block B h.lt).trans h
theorem others_bel {W W' : World} (b : Below W.heap.size W W') : KeepsOthers W W' := ⟨b.size, fun k o hk _ => (b.block k (Array.getElem?_eq_some_iff.1 hk).1).trans hk⟩
/-- The list so far: in its box, a row of its own. -/
def TI (n₀ : Nat) (w₀ : World) (M : List Int) (W : World) : Prop := (∃ v, Boxed W n₀ 22 v ∧ W.ownsRow n₀ 3 1 v M.length (M.map (Value.int .i64)) ∧ True) ∧ Below n₀ w₀ W
theorem TI.own {β : Type} {n₀ B : Nat} {w₀ : World} (f : β → List Int) (hn : n₀ ≤ w₀.heap.size) (hB : n₀ ≤ B) : OwnFrom B (fun s W => TI n₀ w₀ (f s) W) :=
  OwnFrom.and (Own.from (holdsRow_own n₀ n₀ 22 3 1 (fun s => (f s).length) (fun s => (f s).map (Value.int .i64)) (fun _ _ => True)) _) (ownFrom_below hn hB)
theorem own_at {β : Type} {B D : Nat} {o : Obj} (h : D < B) : OwnFrom B (fun (_ : β) W => W.heap[D]? = some o) := fun s A W' row hs hg hr =>
  (hg.block D (Array.getElem?_eq_some_iff.1 hs).1 (fun e => by have := (hr _ e.symm).1; omega)).trans hs
theorem row_ls {W : World} {n₀ : Nat} {v : Value} {M : List Int} (hM : M.length ≤ 140737488355328) (h : W.ownsRow n₀ 3 1 v M.length (M.map (Value.int .i64))) : ∃ xa ca, v = .slice xa M.length ca ∧ Ls W xa M.length M := by
  rcases h.2 with ⟨rfl, h0⟩ | ⟨g, cap, cur, rfl, hb, hg, h1, h2, h3, h4⟩
  · exact ⟨none, 0, by rw [h0], rfl, hM, .inl h0⟩
  · refine ⟨_, _, rfl, rfl, hM, .inr ⟨g, 0, rfl, (Array.getElem?_eq_some_iff.1 hg).1, fun i hi => ?_⟩⟩
    have e : cur.toList[i]? = some (.int .i64 (M.getD i 0)) := by
      have := congrArg (fun l => l[i]?) h4
      simp only [Nat.mul_one, List.getElem?_take, if_pos hi, List.getElem?_map, List.getElem?_eq_getElem hi, Option.map_some] at this
      rw [this]
      simp only [List.getD, List.getElem?_eq_getElem hi, Option.getD_some]
    rw [Array.getElem?_toList] at e
    simp [World.cell?, hg, e]
theorem put_other {W : World} {l k : Nat} {o o' : Obj} (h : W.heap[k]? = some o) (hne : l ≠ k) : (W.putObj l o').heap[k]? = some o :=
  ((grownBy_putObj' W l o').block k (Array.getElem?_eq_some_iff.1 h).1 (fun e => by cases e; exact hne rfl)).trans h
theorem pre_snoc {L D : List Int} {x : Int} (h : L <+: D) (hl : L.length < D.length) (hx : D.getD L.length 0 = x) : L ++ [x] <+: D := by
  obtain ⟨r, rfl⟩ := h
  cases r with
  | nil => simp at hl
  | cons y r =>
    simp [List.getD] at hx
    subst hx
    exact ⟨r, by simp⟩
theorem pre_last {L D : List Int} {x : Int} (h : L ++ [x] <+: D) : D.getD L.length 0 = x := by
  obtain ⟨r, rfl⟩ := h
  simp [List.getD]
theorem below_drT {B : Nat} {a w : World} (h : Below B a w) : Below B a w.drew := ⟨h.os, h.tape, h.output, h.size, h.block⟩

set_option maxRecDepth 100000 in
set_option maxHeartbeats 8000000 in
theorem calTiles_main (a b c : Int) (ha : Option Addr) (hc hcap : Nat) (zs : List Int) (w : World) (hT : Tz w) (hH : Hol w ha hc hcap zs) (a0 : -9223372036854775808 ≤ a) (a1 : a ≤ 9223372036854775807) (b0 : -9223372036854775808 ≤ b) (b1 : b ≤ 9223372036854775807) (h1 : a ≤ b) (h2 : b ≤ c) :
    Calls Tryd.prog 3 #[.int .i64 a, .int .i64 b, .int .i64 c, .slice ha hc hcap] w fun e w' => e = .returned (.bool true) ∧ Below w.heap.size w w' := by
  have T0 := Lib.hid (tbw_tb w a b c ha hc hcap)
  have KP := Lib.hid (fun W (q : Tz W) => between_any 0 7 none 0 0 [] W (by omega) (by omega) ⟨rfl, by omega, .inl rfl⟩ q)
  have KB1 := Lib.hid (fun W A C (l : Ls W A hc zs) (q : Tz W) => between_any a b A hc C zs W a0 a1 l q)
  have KB2 := Lib.hid (fun W A C (l : Ls W A hc zs) (q : Tz W) => between_any b c A hc C zs W b0 b1 l q)
  have KB3 := Lib.hid (fun W A C (l : Ls W A hc zs) (q : Tz W) => between_any a c A hc C zs W a0 a1 l q)
  have KO := Lib.hid (fun W (q : Below w.heap.size w W) => own_any ha hc hcap zs W (hH.later q))
  have KM := Lib.hid (fun W (q : Below w.heap.size w W) la ln lcap L (hl : Ls W la ln L) (hB : BL a c zs L) => missing_any a c la ha ln lcap hc hcap L zs W hl hB (hH.later q))
  have HT := Lib.hid (p := ∀ W, Below w.heap.size w W → Tz W) (fun W b => tz_below (Nat.le_refl _) b hT)
  obtain ⟨w0, hw0⟩ : ∃ w0, tbw w a b c ha hc hcap = w0 := ⟨_, rfl⟩
  rw [hw0] at T0
  unfold tbw at hw0
  clear hT hH a0 a1 b0 b1
  have kab : ¬ a > b := by omega
  have kbc : ¬ b > c := by omega
  have ef := eql_fn
  have nf := neq_fn
  refine (callsIn_wide (n := 5)).1 ?_
  refine callsIn_of_wp_marks Tryd.func3 rfl trivial ?_ rfl
  simp only [Tryd.ntmps3, List.size_toArray, List.length_cons, List.length_nil, Nat.reduceAdd, Nat.reduceSub, Array.replicate_succ, Array.replicate_zero, List.push_toArray, List.append_toArray, List.nil_append, List.cons_append]
  refine wpIn_wide.2 ?_
  go_wp2_with fail
  try simp only [hw0]
  clear hw0
  go_at_call 7
  refine (KP.out _ (HT.out _ T0.out.bel)).mono ?_
  rintro e w1 ⟨stp, sbp, Lp, rfl, bp, _, _⟩
  have T1 := Lib.hid (T0.out.later bp)
  clear bp T0 KP
  obtain ⟨ca1, cb1, cc1, ch1, _, _, _, _⟩ := T1.out
  go_wp2_with fail
  go_region_held3 (fun w' => w'.cell? ⟨w.heap.size, 0, none⟩ = some (.int .i64 a) ∧ w'.cell? ⟨w.heap.size + 1, 0, none⟩ = some (.int .i64 b) ∧ w'.cell? ⟨w.heap.size + 1 + 1 + 1, 0, none⟩ = some (.slice ha hc hcap))
    (refine ⟨?_, ?_, ?_⟩ <;> first | assumption | (go_simp; done))
    (first
    | (go_at_call 8; refine (KO.out _ (below_drT T1.out.bel)).mono ?_; rintro e w2 ⟨A1, C1, rfl, b2, l2, _⟩; have T2 := Lib.hid (T1.out.drew.later b2); have F2 := Lib.hid b2; have L2 := Lib.hid l2; obtain ⟨ca2, cb2, cc2, ch2, _, _, _, _⟩ := T2.out; clear b2 l2 ca1 cb1 cc1 ch1)
    | (go_at_call 7; refine (KB1.out _ _ _ L2.out (HT.out _ T2.out.bel)).mono ?_; rintro e w3 ⟨st1, sb1, D1, rfl, b3, bl, it⟩; have BL1 := Lib.hid bl; have IT1 := it; have T3 := Lib.hid (T2.out.later b3); have R1 := Lib.hid (p := Below w1.heap.size w1 w3) (((below_drT (Below.refl w1.heap.size w1)).trans F2.out).trans (b3.mono F2.out.size)); obtain ⟨ca3, cb3, cc3, ch3, _, _, _, _⟩ := T3.out; clear b3 bl it ca2 cb2 cc2 ch2 L2 T2 F2 KB1))
  go_wp2_with fail
  go_region_held3 (fun w' => w'.cell? ⟨w.heap.size + 1, 0, none⟩ = some (.int .i64 b) ∧ w'.cell? ⟨w.heap.size + 1 + 1, 0, none⟩ = some (.int .i64 c) ∧ w'.cell? ⟨w.heap.size + 1 + 1 + 1, 0, none⟩ = some (.slice ha hc hcap))
    (refine ⟨?_, ?_, ?_⟩ <;> first | assumption | (go_simp; done))
    (first
    | (go_at_call 8; refine (KO.out _ (below_drT T3.out.bel)).mono ?_; rintro e w4 ⟨A2, C2, rfl, b4, l4, _⟩; have T4 := Lib.hid (T3.out.drew.later b4); have F4 := Lib.hid b4; have L4 := Lib.hid l4; obtain ⟨ca4, cb4, cc4, ch4, _, _, _, _⟩ := T4.out; clear b4 l4 ca3 cb3 cc3 ch3)
    | (go_at_call 7; refine (KB2.out _ _ _ L4.out (HT.out _ T4.out.bel)).mono ?_; rintro e w5 ⟨st2, sb2, D2, rfl, b5, bl, it⟩; have BL2 := Lib.hid bl; have IT2 := it; have T5 := Lib.hid (T4.out.later b5); have R2 := Lib.hid (p := Below w3.heap.size w3 w5) (((below_drT (Below.refl w3.heap.size w3)).trans F4.out).trans (b5.mono F4.out.size)); obtain ⟨ca5, cb5, cc5, ch5, _, _, _, _⟩ := T5.out; clear b5 bl it ca4 cb4 cc4 ch4 L4 T4 F4 KB2))
  go_wp2_with fail
  go_region_held3 (fun w' => w'.cell? ⟨w.heap.size, 0, none⟩ = some (.int .i64 a) ∧ w'.cell? ⟨w.heap.size + 1 + 1, 0, none⟩ = some (.int .i64 c) ∧ w'.cell? ⟨w.heap.size + 1 + 1 + 1, 0, none⟩ = some (.slice ha hc hcap))
    (refine ⟨?_, ?_, ?_⟩ <;> first | assumption | (go_simp; done))
    (first
    | (go_at_call 8; refine (KO.out _ (below_drT T5.out.bel)).mono ?_; rintro e w6 ⟨A3, C3, rfl, b6, l6, _⟩; have T6 := Lib.hid (T5.out.drew.later b6); have F6 := Lib.hid b6; have L6 := Lib.hid l6; obtain ⟨ca6, cb6, cc6, ch6, _, _, _, _⟩ := T6.out; clear b6 l6 ca5 cb5 cc5 ch5)
    | (go_at_call 7; refine (KB3.out _ _ _ L6.out (HT.out _ T6.out.bel)).mono ?_; rintro e w7 ⟨st3, sb3, D3, rfl, b7, bl, it⟩; have BL3 := Lib.hid bl; have IT3 := it; have T7 := Lib.hid (T6.out.later b7); have R3 := Lib.hid (p := Below w5.heap.size w5 w7) (((below_drT (Below.refl w5.heap.size w5)).trans F6.out).trans (b7.mono F6.out.size)); obtain ⟨ca7, cb7, cc7, ch7, _, _, _, _⟩ := T7.out; clear b7 bl it ca6 cb6 cc6 ch6 L6 T6 F6 KB3))
  go_wp2_with fail
  have R13 := Lib.hid (p := Below w3.heap.size w3 w7) (R2.out.trans (R3.out.mono R2.out.size))
  have HM := Lib.hid (p := (D1 ++ D2 : List Int) = D3) ((BL1.out.join BL2.out h1 h2).one BL3.out)
  have HN := Lib.hid (p := D1.length ≤ 109573 ∧ D2.length ≤ 109573 ∧ D3.length ≤ 109573) ⟨BL1.out.len, BL2.out.len, BL3.out.len⟩
  obtain ⟨i0, hi, hz0, hz1, hz2⟩ := info_parts infoInt
  clear ca7 cb7 cc7 ch7
  refine (wpIn_wide (n := 5)).1 ?_
  refine' wpIn_rangeFunc_ownF (w := w7.alloc (.cells #[.slice none 0 0] 22)) rfl (by omega) (gf := 48) (lb := #[.pointer (some ⟨st1, 0, none⟩), .pointer (some ⟨sb1, 0, none⟩)]) rfl trivial (enters_of Tryd.func48 (by kernel_rfl) rfl)
    (IT1.out 4 (by omega)) belowK_t (belowK_b (R13.out.trans ((Below.refl _ _).alloc R13.out.size _)).size) (R13.out.trans ((Below.refl _ _).alloc R13.out.size _)) (fun _ => rfl)
    (fun pre W => TI w7.heap.size w7 (pre.map (·.1)) W)
    (fun _ _ _ => False)
    (TI.own (fun pre : List { x : Int // x ∈ D1 } => (pre.map (·.1))) (Nat.le_refl _) (by simp))
    (fun _ _ _ _ _ hs _ _ => hs)
    ⟨⟨_, Boxed.new w7 22 _, World.ownsRow_nil _ _ _ _, trivial⟩, (Below.refl _ _).alloc (Nat.le_refl _) _⟩
    _ ?assign1 ?body1 ?done1 ?stop1
  case assign1 =>
    intro l x W K hK
    gi_wp2
    exact hK
  case body1 =>
    rintro l pre ⟨x, hx⟩ W ⟨⟨v, hv, hrow, _⟩, hB⟩ hlt
    obtain ⟨q1, q2, q3⟩ := (BL1.out.2 x).1 hx
    have Q3 := Lib.hid q3
    have TW := Lib.hid (T7.out.later hB)
    obtain ⟨ca, cb, cc, ch, _, _, _, _⟩ := TW.out
    have g1 : decide (x < a) = false := decide_eq_false (by omega)
    have g2 : decide (b ≤ x) = false := decide_eq_false (by omega)
    have HV := Lib.hid hv
    have HR := Lib.hid hrow
    have HB := Lib.hid hB
    have hlen : (pre.map (·.1)).length ≤ 400000 := by have := HN.out; simp only [List.length_append, List.length_map]; omega
    obtain ⟨M, hM⟩ : ∃ M, (pre.map (·.1)) = M := ⟨_, rfl⟩
    rw [hM] at hrow HR hlen
    have HMM := Lib.hid hM
    have KW := Lib.hid (KO.out W TW.out.bel)
    clear hv hrow hB hM q3
    gi_wp2_with fail
    refine ⟨trivial, ?_⟩
    gi_at_call 8
    refine (CallsIn.inRound l (callsIn_wide.2 KW.out)).mono ?_
    rintro e v2 ⟨Ax, Cx, rfl, b2, l2, _⟩
    have B2 := Lib.hid b2
    have KBB := Lib.hid (business_any Ax hc Cx zs x v2 l2)
    have hv2 := box_bel HV.out b2
    have hrow2 := row_bel HR.out b2
    have hc2 := hv2.cell
    have hs2 : w7.heap.size ≤ v2.heap.size := Nat.le_trans HB.out.size b2.size
    clear b2 l2
    gi_wp2_with fail
    refine ⟨trivial, ?_⟩
    gi_at_call 9
    refine (CallsIn.inRound l (callsIn_wide.2 KBB.out)).mono ?_
    rintro e v3 ⟨rfl, rfl⟩
    rw [Q3.out]
    gi_wp2_with (gi_at_builtin; refine wpListIn_append_own _ rfl _ _ 22 rfl w7.heap.size 3 i0 (.int .i64 0) 1 8 Tryd.underlying22 hi hz0 hz1 hz2 rfl (by decide) _ _ _ rfl (hrow2.alloc _) ⟨v3.heap.size, 0, none⟩ 1 1 [.int .i64 x] rfl rfl (cell_one_new _ _ _) (by simp [Value.oneCell']) (by unfold maxLen; omega) (by omega) (by simp; omega) ?_; intro v' v4 hown' hgrow _; obtain ⟨g', cap', rfl⟩ := ownsRow_succ hown'; obtain ⟨hv5, hv6, hr2, hk2, hb2⟩ := hv2.appended (by decide) hrow2 hs2 (Nat.le_refl _) hown' hgrow; have hc1 := hv5.cell; have hf1 := hv5.frozen; have HV6 := Lib.hid hv6; have HR6 := Lib.hid hr2; have HK6 := Lib.hid hk2; have HB6 := Lib.hid hb2; clear hv6 hr2 hk2 hb2)
    have KK := (others_bel B2.out).trans HK6.out
    have BB := (B2.out.mono HB.out.size).trans HB6.out
    have EM : ((pre ++ [(⟨x, hx⟩ : { x : Int // x ∈ D1 })]).map (·.1)) = M ++ [x] := by rw [← HMM.out]; simp
    refine ⟨KK, BB.mono R13.out.size, ?_⟩
    show TI w7.heap.size w7 ((pre ++ [(⟨x, hx⟩ : { x : Int // x ∈ D1 })]).map (·.1)) _
    rw [EM]
    exact ⟨⟨_, HV6.out, by simpa using HR6.out, trivial⟩, HB.out.trans BB⟩
  case stop1 =>
    rintro D cc pre W hD hp h hK
    exact h.elim
  case done1 =>
    rintro E1 ys W8 hE1 hy hI8 hK8
    rw [hy] at hI8
    have I8 := Lib.hid hI8
    have B8 := Lib.hid hI8.2
    have K8 := Lib.hid hK8
    have E8 := Lib.hid (p := E1 < W8.heap.size) (Array.getElem?_eq_some_iff.1 hK8).1
    have G1 := Lib.hid (p := w.heap.size ≤ E1) (by have := T7.out.sz; simp at hE1; omega)
    clear hy hI8 hK8 hE1
    go_wp2_with fail
    refine (wpIn_wide (n := 5)).1 ?_
    refine' wpIn_rangeFunc_ownF (w := W8) rfl (by omega) (gf := 48) (lb := #[.pointer (some ⟨st2, 0, none⟩), .pointer (some ⟨sb2, 0, none⟩)]) rfl trivial (enters_of Tryd.func48 (by kernel_rfl) rfl)
      (IT2.out 4 (by omega)) belowK_t (belowK_b (R3.out.trans (B8.out.mono R3.out.size)).size) (R3.out.trans (B8.out.mono R3.out.size)) (fun _ => rfl)
      (fun pre W => TI w7.heap.size w7 (D1 ++ pre.map (·.1)) W ∧ W.heap[E1]? = some (.deferred (some [])))
      (fun _ _ _ => False)
      (OwnFrom.and (TI.own (fun pre : List { x : Int // x ∈ D2 } => (D1 ++ pre.map (·.1))) (Nat.le_refl _) B8.out.size) (own_at E8.out))
      (fun _ _ _ _ _ hs _ _ => hs)
      ⟨by simpa using I8.out, K8.out⟩
      _ ?assign2 ?body2 ?done2 ?stop2
    case assign2 =>
      intro l x W K hK
      gi_wp2
      exact hK
    case body2 =>
      rintro l pre ⟨x, hx⟩ W ⟨⟨⟨v, hv, hrow, _⟩, hB⟩, hE⟩ hlt
      obtain ⟨q1, q2, q3⟩ := (BL2.out.2 x).1 hx
      have Q3 := Lib.hid q3
      have TW := Lib.hid (T7.out.later hB)
      obtain ⟨ca, cb, cc, ch, _, _, _, _⟩ := TW.out
      have g1 : decide (x < b) = false := decide_eq_false (by omega)
      have g2 : decide (c ≤ x) = false := decide_eq_false (by omega)
      have HV := Lib.hid hv
      have HR := Lib.hid hrow
      have HB := Lib.hid hB
      have hlen : (D1 ++ pre.map (·.1)).length ≤ 400000 := by have := HN.out; simp only [List.length_append, List.length_map]; omega
      obtain ⟨M, hM⟩ : ∃ M, (D1 ++ pre.map (·.1)) = M := ⟨_, rfl⟩
      rw [hM] at hrow HR hlen
      have HMM := Lib.hid hM
      have KW := Lib.hid (KO.out W TW.out.bel)
      clear hv hrow hB hM q3
      gi_wp2_with fail
      refine ⟨trivial, ?_⟩
      gi_at_call 8
      refine (CallsIn.inRound l (callsIn_wide.2 KW.out)).mono ?_
      rintro e v2 ⟨Ax, Cx, rfl, b2, l2, _⟩
      have B2 := Lib.hid b2
      have KBB := Lib.hid (business_any Ax hc Cx zs x v2 l2)
      have hv2 := box_bel HV.out b2
      have hrow2 := row_bel HR.out b2
      have hc2 := hv2.cell
      have hs2 : w7.heap.size ≤ v2.heap.size := Nat.le_trans HB.out.size b2.size
      clear b2 l2
      gi_wp2_with fail
      refine ⟨trivial, ?_⟩
      gi_at_call 9
      refine (CallsIn.inRound l (callsIn_wide.2 KBB.out)).mono ?_
      rintro e v3 ⟨rfl, rfl⟩
      rw [Q3.out]
      gi_wp2_with (gi_at_builtin; refine wpListIn_append_own _ rfl _ _ 22 rfl w7.heap.size 3 i0 (.int .i64 0) 1 8 Tryd.underlying22 hi hz0 hz1 hz2 rfl (by decide) _ _ _ rfl (hrow2.alloc _) ⟨v3.heap.size, 0, none⟩ 1 1 [.int .i64 x] rfl rfl (cell_one_new _ _ _) (by simp [Value.oneCell']) (by unfold maxLen; omega) (by omega) (by simp; omega) ?_; intro v' v4 hown' hgrow _; obtain ⟨g', cap', rfl⟩ := ownsRow_succ hown'; obtain ⟨hv5, hv6, hr2, hk2, hb2⟩ := hv2.appended (by decide) hrow2 hs2 (Nat.le_refl _) hown' hgrow; have hc1 := hv5.cell; have hf1 := hv5.frozen; have HV6 := Lib.hid hv6; have HR6 := Lib.hid hr2; have HK6 := Lib.hid hk2; have HB6 := Lib.hid hb2; clear hv6 hr2 hk2 hb2)
      have KK := (others_bel B2.out).trans HK6.out
      have BB := (B2.out.mono HB.out.size).trans HB6.out
      have EM : (D1 ++ (pre ++ [(⟨x, hx⟩ : { x : Int // x ∈ D2 })]).map (·.1)) = M ++ [x] := by rw [← HMM.out]; simp
      refine ⟨KK, BB.mono R3.out.size, ?_⟩
      refine ⟨?_, KK.same E1 _ hE rfl⟩
      show TI w7.heap.size w7 (D1 ++ (pre ++ [(⟨x, hx⟩ : { x : Int // x ∈ D2 })]).map (·.1)) _
      rw [EM]
      exact ⟨⟨_, HV6.out, by simpa using HR6.out, trivial⟩, HB.out.trans BB⟩
    case stop2 =>
      rintro D cc pre W hD hp h hK
      exact h.elim
    case done2 =>
      rintro E2 ys W9 hE2 hy ⟨hI9, hK8'⟩ hK9
      rw [hy, HM.out] at hI9
      have hne : E1 < E2 := Nat.lt_of_lt_of_le E8.out hE2
      obtain ⟨⟨v, hv, hrow, _⟩, hB9⟩ := hI9
      obtain ⟨xa, xc, rfl, hls⟩ := row_ls (by have := HN.out; omega) hrow
      have T9 := Lib.hid (T7.out.later hB9)
      have LS := Lib.hid hls
      have B9 := Lib.hid hB9
      have V9 := Lib.hid hv
      have K8' := Lib.hid hK8'
      have K9 := Lib.hid hK9
      have E9 := Lib.hid (p := E2 < W9.heap.size) (Array.getElem?_eq_some_iff.1 hK9).1
      have NE := Lib.hid hne
      clear hy hK8' hK9 hE2 hB9 hv hrow hls hne I8 K8 R1 R13 T1 T3 T5
      go_wp2_with fail
      refine (wpIn_wide (n := 5)).1 ?_
      refine' wpIn_rangeFunc_ownF (w := W9.alloc (.cells #[.int .i64 0] 3)) rfl (by omega) (gf := 48) (lb := #[.pointer (some ⟨st3, 0, none⟩), .pointer (some ⟨sb3, 0, none⟩)]) rfl trivial (enters_of Tryd.func48 (by kernel_rfl) rfl)
        (IT3.out 4 (by omega)) belowK_t (belowK_b (B9.out.trans ((Below.refl _ _).alloc B9.out.size _)).size) (B9.out.trans ((Below.refl _ _).alloc B9.out.size _)) (fun _ => rfl)
        (fun pre W => Boxed W W9.heap.size 3 (.int .i64 (pre.length : Int)) ∧ Below W9.heap.size W9 W ∧ pre.map (·.1) <+: D3)
        (fun _ pre _ => ¬ pre.map (·.1) <+: D3)
        (fun s A B row hs hg hr => ⟨hs.1.kept hg (fun e => by obtain ⟨_, o, ho, hcc⟩ := hr _ e.symm; rw [show A.heap[W9.heap.size]? = _ from hs.1] at ho; cases ho; cases hcc), hs.2.1.grown hg hs.2.1.size (fun k e => Nat.le_trans (by simp) (hr k e).1), hs.2.2⟩)
        (fun _ _ _ _ _ hs _ _ => hs)
        ⟨Boxed.new W9 3 _, (Below.refl _ _).alloc (Nat.le_refl _) _, by simp⟩
        _ ?assign3 ?body3 ?done3 ?stop3
      case assign3 =>
        intro l x W K hK
        gi_wp2
        exact hK
      case stop3 =>
        rintro D cc pre W hD hp h hK
        exact absurd hp h
      case body3 =>
        rintro l pre ⟨x, hx⟩ W ⟨hbx, hBW, hpre⟩ hlt
        have TW := Lib.hid (T9.out.later hBW)
        obtain ⟨_, _, _, _, cr, fr, _, _⟩ := TW.out
        have hbl := (box_bel V9.out hBW).cell
        obtain ⟨_, _, hcase⟩ := LS.out.later hBW
        obtain ⟨g, o, rfl, hg, hcell⟩ : ∃ b o, xa = some ⟨b, o, none⟩ ∧ b < W.heap.size ∧ ∀ i, i < D3.length → W.cell? ⟨b, o + i, none⟩ = some (.int .i64 (D3.getD i 0)) := by
          rcases hcase with q | q
          · omega
          · exact q
        have qk := hcell pre.length hlt
        have hk1 := hbx.cell
        have hk2 := hbx.frozen
        have HX := Lib.hid hbx
        have HBW := Lib.hid hBW
        have PS := Lib.hid (fun (e : D3.getD pre.length 0 = x) => pre_snoc (x := x) hpre (by simpa using hlt) (by simpa using e))
        have PL := Lib.hid (p := pre.map (·.1) ++ [x] <+: D3 → D3.getD pre.length 0 = x) (fun h => by have := pre_last h; rwa [List.length_map] at this)
        have hn3 : D3.length ≤ 109573 := HN.out.2.2
        have EL : ((pre ++ [(⟨x, hx⟩ : { x : Int // x ∈ D3 })]).length : Int) = (pre.length : Int) + 1 := by simp
        have EM : (pre ++ [(⟨x, hx⟩ : { x : Int // x ∈ D3 })]).map (·.1) = pre.map (·.1) ++ [x] := by simp
        have EE := Lib.hid (And.intro EL EM)
        clear hcell hcase hbx hBW hpre EL EM
        obtain ⟨y, hy⟩ : ∃ y, D3.getD pre.length 0 = y := ⟨_, rfl⟩
        rw [hy] at qk PS PL
        obtain ⟨k, hk⟩ : ∃ k, pre.length = k := ⟨_, rfl⟩
        rw [hk] at qk hk1 hlt HX EE
        obtain ⟨n3, hn⟩ : ∃ n3, D3.length = n3 := ⟨_, rfl⟩
        rw [hn] at hbl hlt hn3
        have HH := Lib.hid (And.intro hy (And.intro hk hn))
        clear hy hk hn
        have g1 : decide ((n3 : Int) ≤ (k : Int)) = false := decide_eq_false (by omega)
        have g2 : (k : Int) < (n3 : Int) := by omega
        have kwk : IntKind.i64.wrap ((k : Int) + 1) = (k : Int) + 1 := by simp [IntKind.wrap, IntKind.bits, IntKind.signed]; omega
        by_cases hxe : y = x
        · subst hxe
          have PS1 := Lib.hid (PS.out rfl)
          clear PS PL
          gi_wp2
          refine ⟨KeepsOthers.setCell _ _ _, (Below.refl w7.heap.size W).setCell (p := ⟨W9.heap.size, 0, none⟩) B9.out.size _, ?_, HBW.out.setCell (p := ⟨W9.heap.size, 0, none⟩) (Nat.le_refl _) _, ?_⟩
          · rw [EE.out.1]; exact HX.out.set _
          · have r := PS1.out; rw [← EE.out.2] at r; exact r
        · have g3 : (y != x) = true := by simpa using hxe
          have g4 : (y == x) = false := by simpa using hxe
          gi_wp2
          refine ⟨KeepsOthers.setCell _ _ _, ?_⟩
          intro h
          have h' : (pre ++ [(⟨x, hx⟩ : { x : Int // x ∈ D3 })]).map (·.1) <+: D3 := h
          rw [EE.out.2] at h'
          exact hxe (PL.out h')
      case done3 =>
        rintro E3 ys W10 hE3 hy ⟨hbx, hBW, hpre⟩ hK10
        have hyl : (ys.length : Int) = (D3.length : Int) := by have := congrArg List.length hy; rw [List.length_map] at this; omega
        rw [hyl] at hbx
        have TW := Lib.hid (T9.out.later hBW)
        have hbl := (box_bel V9.out hBW).cell
        have hk1 := hbx.cell
        obtain ⟨ca, cb, cc, ch, cr, fr, bel, sz⟩ := TW.out
        have KN := Lib.hid (business_any none 0 0 [] 0 W10 ⟨rfl, by omega, .inl rfl⟩)
        have KMI := Lib.hid (KM.out W10 bel xa D3.length xc D3 (LS.out.later hBW) BL3.out)
        have q1 := Lib.hid ((hBW.block E1 (by have := NE.out; have := E9.out; omega)).trans K8'.out)
        have q2 := Lib.hid ((hBW.block E2 E9.out).trans K9.out)
        have q3 := Lib.hid hK10
        have G3 := Lib.hid (p := w.heap.size ≤ E2 ∧ w.heap.size ≤ E3 ∧ E2 < E3) ⟨by have := NE.out; have := G1.out; omega, by have := E9.out; have := NE.out; have := G1.out; simp at hE3; omega, by have := E9.out; simp at hE3; omega⟩
        generalize D3.length = n3 at *
        clear hy hyl hbx hBW hpre hK10 hE3 bel
        go_wp2_with fail
        go_at_call 9
        refine KN.out.mono ?_
        rintro e v3 ⟨rfl, rfl⟩
        rw [show busB 0 [] = true by decide]
        go_wp2_with fail
        go_at_call 10
        refine KMI.out.mono ?_
        rintro e w11 ⟨rfl, b11⟩
        have T11 := Lib.hid (TW.out.later b11)
        obtain ⟨_, _, _, _, cr1, fr1, bel1, _⟩ := T11.out
        have e1 := World.cell?_setCell_same' w11 ⟨w.heap.size + 1 + 1 + 1 + 1, 0, none⟩ (.bool true) (by rw [cr1]; rfl)
        have KO1 := (others_bel b11).trans (KeepsOthers.setCell w11 ⟨w.heap.size + 1 + 1 + 1 + 1, 0, none⟩ (.bool true))
        have p1 := Lib.hid (KO1.same E1 _ q1.out rfl)
        have p2 := Lib.hid (KO1.same E2 _ q2.out rfl)
        have p3 := Lib.hid (KO1.same E3 _ q3.out rfl)
        have BE := Lib.hid (bel1.setCell (p := ⟨w.heap.size + 1 + 1 + 1 + 1, 0, none⟩) (by simp; omega) (.bool true))
        have CE := Lib.hid e1
        clear b11 e1 KO1 bel1
        go_wp2
        have s1 := put_other (l := E3) (o' := .deferred none) p2.out (by have := G3.out; omega)
        have s2 := put_other (l := E3) (o' := .deferred none) p1.out (by have := G3.out; have := NE.out; omega)
        have s3 := put_other (l := E2) (o' := .deferred none) s2 (by have := NE.out; omega)
        refine ⟨by simp, .inl ⟨_, _, rfl, run_takeDeferred p3.out, ?_⟩⟩
        refine ⟨by simp, .inl ⟨_, _, rfl, run_takeDeferred s1, ?_⟩⟩
        refine ⟨by simp, .inl ⟨_, _, rfl, run_takeDeferred s3, ?_⟩⟩
        have c1 := cell_kept CE.out (grownBy_putObj' _ E3 (.deferred none)) (fun r e => by cases e; exact ⟨_, p3.out, rfl⟩)
        have c2 := cell_kept c1 (grownBy_putObj' _ E2 (.deferred none)) (fun r e => by cases e; exact ⟨_, s1, rfl⟩)
        have c3 := cell_kept c2 (grownBy_putObj' _ E1 (.deferred none)) (fun r e => by cases e; exact ⟨_, s3, rfl⟩)
        refine ⟨.bool true, by simp [results, Tryd.f3, go_sem, c3], rfl, ?_⟩
        exact ((BE.out.trans (belowK_b (w := w) (Nat.le_refl _) _ E3 _ _ G3.out.2.1 p3.out rfl rfl)).trans (belowK_b (w := w) (Nat.le_refl _) _ E2 _ _ G3.out.1 s1 rfl rfl)).trans (belowK_b (w := w) (Nat.le_refl _) _ E1 _ _ G1.out s3 rfl rfl)
end Go.Proofs.YtpeglcnenagkbaaDoor
