/-
  WALK: adjust, the other conventions.
-/
import Derived.Test.YtpeglcnenagkbaaDoorWAdjust
namespace Go.Proofs.YtpeglcnenagkbaaDoor
open Go.RowKit Go.Shelf
attribute [local go_sem] Oper.semAt_some
set_option linter.unusedVariables false
set_option linter.unusedSimpArgs false

set_option maxHeartbeats 2000000 in
theorem adjust_0 (day : Nat) (g cap : Nat) (zs : List Int) (w : World) :
    Calls Tryd.prog 41 #[.agg #[.int .i64 0, .slice (some ⟨g, 0, none⟩) 1713 cap], .int .i64 day, .int .i64 0] w fun e w' => AdjE day 0 zs e ∧ Below w.heap.size w w' := by
  refine (callsIn_wide (n := 5)).1 ?_
  refine callsIn_of_wp_marks Tryd.func41 rfl trivial ?_ rfl
  simp only [Tryd.ntmps41, List.size_toArray, List.length_cons, List.length_nil, Nat.reduceAdd, Nat.reduceSub, Array.replicate_succ, Array.replicate_zero, List.push_toArray, List.append_toArray, List.nil_append, List.cons_append]
  gi_wp2
  refine ⟨.tuple #[.int .i64 day, .int .i64 0], ?_, ⟨day, 0, rfl, .inl ⟨rfl, rfl, rfl⟩⟩, ?_⟩
  · simp [results, Tryd.f41, go_sem]
  · exact (((((Below.refl _ _).alloc (Nat.le_refl _) _).alloc (by simp) _).alloc (by simp; omega) _).alloc (by simp; omega) _).alloc (by simp; omega) _

theorem LE.out {ws : List Nat} {zs : List Int} {d : Int} (h : Whole ws zs) (d0 : 0 ≤ d) (d1 : d < 109573) (e : Ending) (k : LastE ws 0 d e) : ∃ (r : Int) (b : Bool), e = .returned (.tuple #[.int .i64 r, .bool b]) ∧ RowKit.Hid ((b = false ∧ DownIs d (-1) zs) ∨ (b = true ∧ 0 ≤ r ∧ DownIs d r zs)) := by
  obtain ⟨r, b, h1, h2⟩ := down_last h d0 d1 k
  exact ⟨r, b, h1, h2⟩

set_option maxRecDepth 100000 in
set_option maxHeartbeats 2000000 in
theorem adjust_3 (day : Nat) (g cap : Nat) (ws : List Nat) (zs : List Int) (w : World) (hw : Wd w g ws) (hW : Whole ws zs) (d1 : day < 109573) :
    Calls Tryd.prog 41 #[.agg #[.int .i64 0, .slice (some ⟨g, 0, none⟩) 1713 cap], .int .i64 day, .int .i64 3] w fun e w' => AdjE day 3 zs e ∧ Below w.heap.size w w' := by
  have dd : (day : Int) < 109573 := by omega
  have d0 : (0 : Int) ≤ day := by omega
  have HB := Lib.hid (aw_ab w g cap day 3)
  have HZ := Lib.hid (aw_size w g cap day 3)
  have KL := Lib.hid (fun W (h : Wd W g ws) => lastUpTo_any g 1713 cap 0 day ws W hW.1 h hW.2.1 (by omega) (by omega) (by omega) (by omega) (by omega))
  have HH := Lib.hid (LE.out hW d0 dd)
  have H0 := Lib.hid (show Wd (aw w g cap day 3) g ws from wd_below HB.out.bel hw.1 (by rw [HZ.out]; omega) hw)
  clear hw hW
  refine (callsIn_wide (n := 5)).1 ?_
  refine callsIn_of_wp_marks Tryd.func41 rfl trivial ?_ rfl
  simp only [Tryd.ntmps41, List.size_toArray, List.length_cons, List.length_nil, Nat.reduceAdd, Nat.reduceSub, Array.replicate_succ, Array.replicate_zero, List.push_toArray, List.append_toArray, List.nil_append, List.cons_append]
  gi_wp2
  refine ⟨trivial, ?_⟩
  gi_at_call 55
  refine (callsIn_wide.2 (KL.out _ H0.out)).mono ?_
  rintro e w1 ⟨he, hb⟩
  obtain ⟨r, b, rfl, HE⟩ := HH.out _ he
  have A := HB.out.later hb
  obtain ⟨b0, b1, b2, b3, b4, b5, b6, b7, b8, b9⟩ := id A
  clear b8 he hb b9 dd d0 d1
  have AA := Lib.hid A
  clear A
  cases b with
  | true =>
    gi_wp2
    have G := AA.out.gone r 0
    obtain ⟨q0, q1⟩ : 0 ≤ r ∧ DownIs day r zs := by
      rcases HE.out with ⟨h, _⟩ | ⟨_, h⟩
      · cases h
      · exact h
    refine ⟨.tuple #[.int .i64 r, .int .i64 0], ?_, ⟨r, 0, rfl, .inr (.inr (.inl ⟨rfl, r, q1, .inr ⟨q0, rfl, rfl⟩⟩))⟩, G.2.2⟩
    simp [results, Tryd.f41, go_sem, G.1, G.2.1]
  | false =>
    gi_wp2
    have G := AA.out.gone 0 2
    have q1 : DownIs day (-1) zs := by
      rcases HE.out with ⟨_, h⟩ | ⟨h, _⟩
      · exact h
      · cases h
    refine ⟨.tuple #[.int .i64 0, .int .i64 2], ?_, ⟨0, 2, rfl, .inr (.inr (.inl ⟨rfl, -1, q1, .inl ⟨by omega, rfl, rfl⟩⟩))⟩, G.2.2⟩
    simp [results, Tryd.f41, go_sem, G.1, G.2.1]

theorem keeps_below {W W' : World} (h : Below W.heap.size W W') : KeepsOthers W W' := ⟨h.size, fun k o hk _ => (h.block k (Array.getElem?_eq_some_iff.1 hk).1).trans hk⟩
def SB (x day : Int) (b : Bool) : Prop := (b = true ∧ SameMon x day) ∨ (b = false ∧ ¬ SameMon x day)
theorem same_b {x day : Int} {e : Ending} (h : SameE x day e) : ∃ b : Bool, e = .returned (.bool b) ∧ SB x day b := by
  rcases h with ⟨rfl, h⟩ | ⟨rfl, h⟩
  · exact ⟨true, rfl, .inl ⟨rfl, h⟩⟩
  · exact ⟨false, rfl, .inr ⟨rfl, h⟩⟩

set_option maxRecDepth 100000 in
set_option maxHeartbeats 4000000 in
theorem adjust_2 (day : Nat) (g cap : Nat) (ws : List Nat) (zs : List Int) (w : World) (hw : Wd w g ws) (hT : Tz w) (hM : Mon w) (hW : Whole ws zs) (d1 : day < 109573) :
    Calls Tryd.prog 41 #[.agg #[.int .i64 0, .slice (some ⟨g, 0, none⟩) 1713 cap], .int .i64 day, .int .i64 2] w fun e w' => AdjE day 2 zs e ∧ Below w.heap.size w w' := by
  have dd : (day : Int) < 1000000 := by omega
  have d0 : (0 : Int) ≤ day := by omega
  have KL := Lib.hid (fun W (h : Wd W g ws) => lastUpTo_any g 1713 cap 0 day ws W hW.1 h hW.2.1 (by omega) (by omega) (by omega) (by omega) (by omega))
  have HH := Lib.hid (LE.out hW d0 (show (day : Int) < 109573 by omega))
  have HM := Lib.hid hM
  have HWD := Lib.hid hw
  have HTZ := Lib.hid hT
  have HWH := Lib.hid hW
  clear hM hw hT hW
  refine (callsIn_wide (n := 5)).1 ?_
  refine callsIn_of_wp_marks Tryd.func41 rfl trivial ?_ rfl
  simp only [Tryd.ntmps41, List.size_toArray, List.length_cons, List.length_nil, Nat.reduceAdd, Nat.reduceSub, Array.replicate_succ, Array.replicate_zero, List.push_toArray, List.append_toArray, List.nil_append, List.cons_append]
  gi_wp2_with (refine ⟨trivial, ?_⟩; gi_at_call 27; refine (callsIn_wide.2 (upFrom_any _ _ _ _ _ _ (by omega) d0 dd)).mono ?_; rintro e w1 ⟨rfl, rfl⟩)
  have hsz := uw_size w g cap day 2
  have hab := uw_ab w g cap day 2
  refine wpIn_rangeFunc_ownF (w := uw w g cap day 2) rfl (by omega) (gf := 48) (lb := #[.pointer (some ⟨w.heap.size + 1 + 1 + 1 + 1 + 1 + 1, 0, none⟩), .pointer (some ⟨w.heap.size + 1 + 1 + 1 + 1 + 1, 0, none⟩)]) rfl trivial (enters_of Tryd.func48 (by kernel_rfl) rfl)
    (adj_stops 4 (by omega) day 2 g cap ws zs w HWD.out HTZ.out HWH.out d1) belowK_t (belowK_b (by omega)) (Below.refl _ _) (fun _ => rfl)
    (fun pre W => pre = [] ∧ AB w W g cap day 2)
    (fun c pre W => ∃ x : CD, pre = [x] ∧ ((c = .ret ∧ SameMon x.1 day ∧ Gone w W x.1) ∨ (c = .exit 0 ∧ ¬ SameMon x.1 day ∧ AB w W g cap day 2)))
    (fun s A B row hs hg hr => ⟨hs.1, hs.2.grown hg (by omega) hr⟩)
    (fun c s A B row hs hg hr => by
      obtain ⟨x, h1, h2⟩ := hs
      refine ⟨x, h1, ?_⟩
      rcases h2 with ⟨h2, h3, h4⟩ | ⟨h2, h3, h4⟩
      · exact .inl ⟨h2, h3, h4.grown hg (by omega) hr⟩
      · exact .inr ⟨h2, h3, h4.grown hg (by omega) hr⟩)
    ⟨rfl, hab⟩
    (fun x => { tmps := #[.agg #[.int .i64 0, .slice (some ⟨g, 0, none⟩) 1713 cap], .int .i64 day, .int .i64 2, .pointer (some ⟨w.heap.size, 0, none⟩), .pointer (some ⟨w.heap.size + 1, 0, none⟩), .pointer (some ⟨w.heap.size + 1 + 1, 0, none⟩), .pointer (some ⟨w.heap.size + 1 + 1 + 1, 0, none⟩), .pointer (some ⟨w.heap.size + 1 + 1 + 1 + 1, 0, none⟩), .int .i64 x.1, undef, undef, .int .i64 2, .bool false, undef, .int .i64 2, .bool true, .agg #[.int .i64 0, .slice (some ⟨g, 0, none⟩) 1713 cap], .int .i64 day,
      .func (.func 48) #[] #[.pointer (some ⟨w.heap.size + 1 + 1 + 1 + 1 + 1 + 1, 0, none⟩), .pointer (some ⟨w.heap.size + 1 + 1 + 1 + 1 + 1, 0, none⟩)], .int .i64 x.1, undef, undef, undef, undef, undef, undef, undef, undef, undef, undef, undef, undef, undef, undef, undef, undef, undef, undef], defers := [] }) ?assign ?body ?done ?stop
  case assign =>
    intro l x W K hK
    gi_wp2
    exact hK
  case body =>
    rintro l pre x W ⟨rfl, hB⟩ _
    have HB := Lib.hid hB
    obtain ⟨b0, b1, b2, b3, b4, b5, b6, b7, b8, b9⟩ := id hB
    have MW := mon_below (Nat.le_refl _) b8 HM.out
    have SK := Lib.hid (same_any x.1 day W MW x.2.1 x.2.2 d0 (by omega))
    clear b8 MW hB
    gi_wp2
    refine ⟨trivial, ?_⟩
    gi_at_call 54
    refine (CallsIn.inRound l (callsIn_wide.2 SK.out)).mono ?_
    rintro e w2 ⟨he, hb⟩
    obtain ⟨b, rfl, SS⟩ := same_b he
    have KO := Lib.hid (keeps_below hb)
    have A := HB.out.later hb
    clear b0 b1 b2 b3 b4 b5 b6 b7 b9
    obtain ⟨b0, b1, b2, b3, b4, b5, b6, b7, b8, b9⟩ := id A
    have AA := Lib.hid A
    have S' := Lib.hid SS
    clear b8 he hb A SS b9 dd d0 d1
    cases b with
    | true =>
      gi_wp2
      have hs : SameMon x.1 day := by
        rcases S'.out with ⟨_, h⟩ | ⟨h, _⟩
        · exact h
        · cases h
      exact ⟨KO.out.trans ((KeepsOthers.setCell _ _ _).trans (KeepsOthers.setCell _ _ _)), x, rfl, .inl ⟨rfl, hs, AA.out.gone x.1 0⟩⟩
    | false =>
      gi_wp2
      have hs : ¬ SameMon x.1 day := by
        rcases S'.out with ⟨h, _⟩ | ⟨_, h⟩
        · cases h
        · exact h
      exact ⟨KO.out, x, rfl, .inr ⟨rfl, hs, AA.out⟩⟩
  case done =>
    rintro D ys W hD hy ⟨rfl, hB⟩ hK
    have U0 := up_none HWH.out hy.symm
    have U := Lib.hid (p := ∀ v e r, DownIs day v zs → EndIs v r e → ∃ u, UpIs day u zs ∧ ((SameMon u day ∧ r = u ∧ e = 0) ∨ (¬ SameMon u day ∧ ∃ v, DownIs day v zs ∧ EndIs v r e))) (fun v e r h1 h2 => ⟨-1, U0, .inr ⟨fun h => absurd h.1 (by omega), v, h1, h2⟩⟩)
    obtain ⟨b0, b1, b2, b3, b4, b5, b6, b7, b8, b9⟩ := id hB
    have H0 : Wd W g ws := wd_below b8 HWD.out.1 b8.size HWD.out
    clear b8 b9
    gi_wp2
    refine ⟨trivial, ?_⟩
    gi_at_call 55
    refine (callsIn_wide.2 (KL.out _ H0)).mono ?_
    rintro e w1 ⟨he, hb⟩
    obtain ⟨r, b, rfl, HE⟩ := HH.out _ he
    have hK1 := Lib.hid ((hb.block D (Array.getElem?_eq_some_iff.1 hK).1).trans hK)
    have A := hB.later hb
    obtain ⟨b0, b1, b2, b3, b4, b5, b6, b7, b8, b9⟩ := id A
    clear b8 he hb b9 dd d0 d1
    have AA := Lib.hid A
    clear A
    cases b with
    | true =>
      gi_wp2
      have G := AA.out.gone r 0
      obtain ⟨q0, q1⟩ : 0 ≤ r ∧ DownIs day r zs := by
        rcases HE.out with ⟨h, _⟩ | ⟨_, h⟩
        · cases h
        · exact h
      have hK' := ((KeepsOthers.setCell w1 ⟨w.heap.size + 1 + 1 + 1, 0, none⟩ (.int .i64 r)).trans (KeepsOthers.setCell _ ⟨w.heap.size + 1 + 1 + 1 + 1, 0, none⟩ (.int .i64 0))).same D _ hK1.out rfl
      refine ⟨by simp, .inl ⟨_, _, rfl, run_takeDeferred hK', ?_⟩⟩
      have e1 := cell_kept G.1 (grownBy_putObj' _ D (.deferred none)) (fun r e => by cases e; exact ⟨_, hK', rfl⟩)
      have e2 := cell_kept G.2.1 (grownBy_putObj' _ D (.deferred none)) (fun r e => by cases e; exact ⟨_, hK', rfl⟩)
      refine ⟨.tuple #[.int .i64 r, .int .i64 0], by simp [results, Tryd.f41, go_sem, e1, e2], ⟨r, 0, rfl, .inr (.inr (.inr ⟨rfl, U.out r 0 r q1 (.inr ⟨q0, rfl, rfl⟩)⟩))⟩, ?_⟩
      exact G.2.2.trans (belowK_b (w := w) (Nat.le_refl _) _ D _ _ (by omega) hK' rfl rfl)
    | false =>
      gi_wp2
      have G := AA.out.gone 0 2
      have q1 : DownIs day (-1) zs := by
        rcases HE.out with ⟨_, h⟩ | ⟨h, _⟩
        · exact h
        · cases h
      have hK' := ((KeepsOthers.setCell w1 ⟨w.heap.size + 1 + 1 + 1, 0, none⟩ (.int .i64 0)).trans (KeepsOthers.setCell _ ⟨w.heap.size + 1 + 1 + 1 + 1, 0, none⟩ (.int .i64 2))).same D _ hK1.out rfl
      refine ⟨by simp, .inl ⟨_, _, rfl, run_takeDeferred hK', ?_⟩⟩
      have e1 := cell_kept G.1 (grownBy_putObj' _ D (.deferred none)) (fun r e => by cases e; exact ⟨_, hK', rfl⟩)
      have e2 := cell_kept G.2.1 (grownBy_putObj' _ D (.deferred none)) (fun r e => by cases e; exact ⟨_, hK', rfl⟩)
      refine ⟨.tuple #[.int .i64 0, .int .i64 2], by simp [results, Tryd.f41, go_sem, e1, e2], ⟨0, 2, rfl, .inr (.inr (.inr ⟨rfl, U.out (-1) 2 0 q1 (.inl ⟨by omega, rfl, rfl⟩)⟩))⟩, ?_⟩
      exact G.2.2.trans (belowK_b (w := w) (Nat.le_refl _) _ D _ _ (by omega) hK' rfl rfl)
  case stop =>
    rintro D c pre W hD hp ⟨x, rfl, hx⟩ hK
    have U0 := up_head HWH.out hp
    rcases hx with ⟨rfl, hs, G⟩ | ⟨rfl, hs, hB⟩
    · gi_wp2
      refine ⟨by simp, .inl ⟨_, _, rfl, run_takeDeferred hK, ?_⟩⟩
      have e1 := cell_kept G.1 (grownBy_putObj' _ D (.deferred none)) (fun r e => by cases e; exact ⟨_, hK, rfl⟩)
      have e2 := cell_kept G.2.1 (grownBy_putObj' _ D (.deferred none)) (fun r e => by cases e; exact ⟨_, hK, rfl⟩)
      refine ⟨.tuple #[.int .i64 x.1, .int .i64 0], by simp [results, Tryd.f41, go_sem, e1, e2], ⟨x.1, 0, rfl, .inr (.inr (.inr ⟨rfl, x.1, U0, .inl ⟨hs, rfl, rfl⟩⟩))⟩, ?_⟩
      exact G.2.2.trans (belowK_b (w := w) (Nat.le_refl _) _ D _ _ (by omega) hK rfl rfl)
    have U := Lib.hid (p := ∀ v e r, DownIs day v zs → EndIs v r e → ∃ u, UpIs day u zs ∧ ((SameMon u day ∧ r = u ∧ e = 0) ∨ (¬ SameMon u day ∧ ∃ v, DownIs day v zs ∧ EndIs v r e))) (fun v e r h1 h2 => ⟨x.1, U0, .inr ⟨hs, v, h1, h2⟩⟩)
    obtain ⟨b0, b1, b2, b3, b4, b5, b6, b7, b8, b9⟩ := id hB
    have H0 : Wd W g ws := wd_below b8 HWD.out.1 b8.size HWD.out
    clear b8 b9
    gi_wp2
    refine ⟨trivial, ?_⟩
    gi_at_call 55
    refine (callsIn_wide.2 (KL.out _ H0)).mono ?_
    rintro e w1 ⟨he, hb⟩
    obtain ⟨r, b, rfl, HE⟩ := HH.out _ he
    have hK1 := Lib.hid ((hb.block D (Array.getElem?_eq_some_iff.1 hK).1).trans hK)
    have A := hB.later hb
    obtain ⟨b0, b1, b2, b3, b4, b5, b6, b7, b8, b9⟩ := id A
    clear b8 he hb b9 dd d0 d1
    have AA := Lib.hid A
    clear A
    cases b with
    | true =>
      gi_wp2
      have G := AA.out.gone r 0
      obtain ⟨q0, q1⟩ : 0 ≤ r ∧ DownIs day r zs := by
        rcases HE.out with ⟨h, _⟩ | ⟨_, h⟩
        · cases h
        · exact h
      have hK' := ((KeepsOthers.setCell w1 ⟨w.heap.size + 1 + 1 + 1, 0, none⟩ (.int .i64 r)).trans (KeepsOthers.setCell _ ⟨w.heap.size + 1 + 1 + 1 + 1, 0, none⟩ (.int .i64 0))).same D _ hK1.out rfl
      refine ⟨by simp, .inl ⟨_, _, rfl, run_takeDeferred hK', ?_⟩⟩
      have e1 := cell_kept G.1 (grownBy_putObj' _ D (.deferred none)) (fun r e => by cases e; exact ⟨_, hK', rfl⟩)
      have e2 := cell_kept G.2.1 (grownBy_putObj' _ D (.deferred none)) (fun r e => by cases e; exact ⟨_, hK', rfl⟩)
      refine ⟨.tuple #[.int .i64 r, .int .i64 0], by simp [results, Tryd.f41, go_sem, e1, e2], ⟨r, 0, rfl, .inr (.inr (.inr ⟨rfl, U.out r 0 r q1 (.inr ⟨q0, rfl, rfl⟩)⟩))⟩, ?_⟩
      exact G.2.2.trans (belowK_b (w := w) (Nat.le_refl _) _ D _ _ (by omega) hK' rfl rfl)
    | false =>
      gi_wp2
      have G := AA.out.gone 0 2
      have q1 : DownIs day (-1) zs := by
        rcases HE.out with ⟨_, h⟩ | ⟨h, _⟩
        · exact h
        · cases h
      have hK' := ((KeepsOthers.setCell w1 ⟨w.heap.size + 1 + 1 + 1, 0, none⟩ (.int .i64 0)).trans (KeepsOthers.setCell _ ⟨w.heap.size + 1 + 1 + 1 + 1, 0, none⟩ (.int .i64 2))).same D _ hK1.out rfl
      refine ⟨by simp, .inl ⟨_, _, rfl, run_takeDeferred hK', ?_⟩⟩
      have e1 := cell_kept G.1 (grownBy_putObj' _ D (.deferred none)) (fun r e => by cases e; exact ⟨_, hK', rfl⟩)
      have e2 := cell_kept G.2.1 (grownBy_putObj' _ D (.deferred none)) (fun r e => by cases e; exact ⟨_, hK', rfl⟩)
      refine ⟨.tuple #[.int .i64 0, .int .i64 2], by simp [results, Tryd.f41, go_sem, e1, e2], ⟨0, 2, rfl, .inr (.inr (.inr ⟨rfl, U.out (-1) 2 0 q1 (.inl ⟨by omega, rfl, rfl⟩)⟩))⟩, ?_⟩
      exact G.2.2.trans (belowK_b (w := w) (Nat.le_refl _) _ D _ _ (by omega) hK' rfl rfl)
end Go.Proofs.YtpeglcnenagkbaaDoor
