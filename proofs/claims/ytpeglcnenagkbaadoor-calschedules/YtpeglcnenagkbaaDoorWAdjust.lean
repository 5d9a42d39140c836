/-
  WALK: adjust.
-/
import Derived.Test.YtpeglcnenagkbaaDoorWUpStops
namespace Go.Proofs.YtpeglcnenagkbaaDoor
open Go.RowKit Go.Shelf
attribute [local go_sem] Oper.semAt_some
set_option linter.unusedVariables false
set_option linter.unusedSimpArgs false

/-- The boxes of adjust. -/
structure AB (w W : World) (g cap : Nat) (day conv : Int) : Prop where
  s0 : W.cell? ⟨w.heap.size, 0, none⟩ = some (.int .i64 0)
  s1 : W.cell? ⟨w.heap.size, 1, none⟩ = some (.slice (some ⟨g, 0, none⟩) 1713 cap)
  d : W.cell? ⟨w.heap.size + 1, 0, none⟩ = some (.int .i64 day)
  c : W.cell? ⟨w.heap.size + 1 + 1, 0, none⟩ = some (.int .i64 conv)
  r : W.cell? ⟨w.heap.size + 1 + 1 + 1, 0, none⟩ = some (.int .i64 0)
  e : W.cell? ⟨w.heap.size + 1 + 1 + 1 + 1, 0, none⟩ = some (.int .i64 0)
  fr : W.frozen? ⟨w.heap.size + 1 + 1 + 1, 0, none⟩ = false
  fe : W.frozen? ⟨w.heap.size + 1 + 1 + 1 + 1, 0, none⟩ = false
  bel : Below w.heap.size w W
  sz : w.heap.size + 5 ≤ W.heap.size
theorem AB.later {w W W' : World} {g cap : Nat} {day conv : Int} (h : AB w W g cap day conv) (b : Below W.heap.size W W') : AB w W' g cap day conv := by
  have z := h.sz
  have c : ∀ k i v, k < W.heap.size → W.cell? ⟨k, i, none⟩ = some v → W'.cell? ⟨k, i, none⟩ = some v := fun k i v hk hv => (b.cell (p := ⟨k, i, none⟩) hk).trans hv
  have f : ∀ k i, k < W.heap.size → W.frozen? ⟨k, i, none⟩ = false → W'.frozen? ⟨k, i, none⟩ = false := fun k i hk hv => (b.frozen (p := ⟨k, i, none⟩) hk).trans hv
  exact ⟨c _ _ _ (by omega) h.s0, c _ _ _ (by omega) h.s1, c _ _ _ (by omega) h.d, c _ _ _ (by omega) h.c, c _ _ _ (by omega) h.r, c _ _ _ (by omega) h.e, f _ _ (by omega) h.fr, f _ _ (by omega) h.fe, h.bel.trans (b.mono (by omega)), by have := b.size; omega⟩
theorem AB.grown {w W W' : World} {g cap : Nat} {day conv : Int} {row : Option Nat} {B : Nat} (h : AB w W g cap day conv) (hg : W.grownBy W' row) (hB : w.heap.size ≤ B) (hr : ∀ r, row = some r → B ≤ r ∧ ∃ o : Obj, W.heap[r]? = some o ∧ o.isCells = false) : AB w W' g cap day conv :=
  have hr' : ∀ r, row = some r → ∃ o : Obj, W.heap[r]? = some o ∧ o.isCells = false := fun r e => (hr r e).2
  ⟨cell_kept h.s0 hg hr', cell_kept h.s1 hg hr', cell_kept h.d hg hr', cell_kept h.c hg hr', cell_kept h.r hg hr', cell_kept h.e hg hr', (frozen_kept h.r hg hr').trans h.fr, (frozen_kept h.e hg hr').trans h.fe, h.bel.grown hg h.bel.size (fun k e => Nat.le_trans hB (hr k e).1), by have := hg.size; have := h.sz; omega⟩


/-- The five boxes as they are laid. -/
def aw (w : World) (g cap : Nat) (day conv : Int) : World := ((((w.alloc (.cells #[.int .i64 0, .slice (some ⟨g, 0, none⟩) 1713 cap] 58)).alloc (.cells #[.int .i64 day] 3)).alloc (.cells #[.int .i64 conv] 3)).alloc (.cells #[.int .i64 0] 3)).alloc (.cells #[.int .i64 0] 41)
theorem aw_ab (w : World) (g cap : Nat) (day conv : Int) : AB w (aw w g cap day conv) g cap day conv := by
  unfold aw
  exact ⟨by go_simp, by go_simp, by go_simp, by go_simp, by go_simp, by go_simp, by go_simp, by go_simp, (((((Below.refl _ _).alloc (Nat.le_refl _) _).alloc (by simp) _).alloc (by simp; omega) _).alloc (by simp; omega) _).alloc (by simp; omega) _, by simp⟩
/-- The iterator's two blocks beside them. -/
def uw (w : World) (g cap : Nat) (day conv : Int) : World := ((aw w g cap day conv).alloc (.cells #[.int .i64 0, .slice (some ⟨g, 0, none⟩) 1713 cap] 58)).alloc (.cells #[.int .i64 day] 3)
theorem uw_ab (w : World) (g cap : Nat) (day conv : Int) : AB w (uw w g cap day conv) g cap day conv :=
  (aw_ab w g cap day conv).later (((Below.refl _ _).alloc (Nat.le_refl _) _).alloc (by simp) _)
theorem aw_size (w : World) (g cap : Nat) (day conv : Int) : (aw w g cap day conv).heap.size = w.heap.size + 1 + 1 + 1 + 1 + 1 := by simp [aw]
theorem uw_size (w : World) (g cap : Nat) (day conv : Int) : (uw w g cap day conv).heap.size = w.heap.size + 1 + 1 + 1 + 1 + 1 + 1 + 1 := by simp [uw, aw_size]
theorem uw_cells (w : World) (g cap : Nat) (day conv : Int) : (uw w g cap day conv).cell? ⟨w.heap.size + 1 + 1 + 1 + 1 + 1 + 1, 0, none⟩ = some (.int .i64 day) ∧ (uw w g cap day conv).cell? ⟨w.heap.size + 1 + 1 + 1 + 1 + 1, 0, none⟩ = some (.int .i64 0) ∧ (uw w g cap day conv).cell? ⟨w.heap.size + 1 + 1 + 1 + 1 + 1, 1, none⟩ = some (.slice (some ⟨g, 0, none⟩) 1713 cap) := by
  unfold uw aw
  exact ⟨by go_simp, by go_simp, by go_simp⟩
theorem adj_stops (m : Nat) (hm : 1 ≤ m) (day : Nat) (conv : Int) (g cap : Nat) (ws : List Nat) (zs : List Int) (w : World) (hw : Wd w g ws) (hT : Tz w) (hW : Whole ws zs) (d1 : day < 109573) :
    SeqStopsK Fence.wide m Tryd.prog 48 #[.pointer (some ⟨w.heap.size + 1 + 1 + 1 + 1 + 1 + 1, 0, none⟩), .pointer (some ⟨w.heap.size + 1 + 1 + 1 + 1 + 1, 0, none⟩)] (fun x : CD => #[Value.int .i64 x.1]) (Below (w.heap.size + 1 + 1 + 1 + 1 + 1 + 1 + 1))
      (fun ys => ys.map (·.1) = ups ws 0 day (64 * 1713)) (fun pre => pre.map (·.1) <+: ups ws 0 day (64 * 1713)) (ups ws 0 day (64 * 1713)).length (uw w g cap day conv) := by
  have hb := (uw_ab w g cap day conv).bel
  have hs := uw_size w g cap day conv
  obtain ⟨c0, c1, c2⟩ := uw_cells w g cap day conv
  exact up_stops m hm _ _ g _ 1713 cap day 0 ws (by omega) (by omega) (by omega) (by omega) hW.1 hW.2.1 (ups_in hW) _ (by omega) (by omega) (by have := hw.1; omega) (by have := hT.1; omega) (by omega) c0 c1 c2 (wd_below hb hw.1 (by omega) hw) (tz_below (Nat.le_refl _) hb hT)

/-- A round has left with a day. -/
def Gone (w : World) (W : World) (x : Int) : Prop := W.cell? ⟨w.heap.size + 1 + 1 + 1, 0, none⟩ = some (.int .i64 x) ∧ W.cell? ⟨w.heap.size + 1 + 1 + 1 + 1, 0, none⟩ = some (.int .i64 0) ∧ Below w.heap.size w W
theorem Gone.grown {w W W' : World} {x : Int} {row : Option Nat} {B : Nat} (h : Gone w W x) (hg : W.grownBy W' row) (hB : w.heap.size ≤ B) (hr : ∀ r, row = some r → B ≤ r ∧ ∃ o : Obj, W.heap[r]? = some o ∧ o.isCells = false) : Gone w W' x :=
  have hr' : ∀ r, row = some r → ∃ o : Obj, W.heap[r]? = some o ∧ o.isCells = false := fun r e => (hr r e).2
  ⟨cell_kept h.1 hg hr', cell_kept h.2.1 hg hr', h.2.2.grown hg h.2.2.size (fun k e => Nat.le_trans hB (hr k e).1)⟩
theorem AB.gone {w W : World} {g cap : Nat} {day conv : Int} (h : AB w W g cap day conv) (x y : Int) :
    ((W.setCell ⟨w.heap.size + 1 + 1 + 1, 0, none⟩ (.int .i64 x)).setCell ⟨w.heap.size + 1 + 1 + 1 + 1, 0, none⟩ (.int .i64 y)).cell? ⟨w.heap.size + 1 + 1 + 1, 0, none⟩ = some (.int .i64 x) ∧
    ((W.setCell ⟨w.heap.size + 1 + 1 + 1, 0, none⟩ (.int .i64 x)).setCell ⟨w.heap.size + 1 + 1 + 1 + 1, 0, none⟩ (.int .i64 y)).cell? ⟨w.heap.size + 1 + 1 + 1 + 1, 0, none⟩ = some (.int .i64 y) ∧
    Below w.heap.size w ((W.setCell ⟨w.heap.size + 1 + 1 + 1, 0, none⟩ (.int .i64 x)).setCell ⟨w.heap.size + 1 + 1 + 1 + 1, 0, none⟩ (.int .i64 y)) := by
  refine ⟨?_, ?_, (h.bel.setCell (p := ⟨w.heap.size + 1 + 1 + 1, 0, none⟩) (by simp; omega) _).setCell (p := ⟨w.heap.size + 1 + 1 + 1 + 1, 0, none⟩) (by simp; omega) _⟩
  · rw [World.cell?_setCell_other _ _ _ _ (by simp)]
    exact World.cell?_setCell_same' _ _ _ (by rw [h.r]; rfl)
  · exact World.cell?_setCell_same' _ _ _ (by rw [World.cell?_setCell_other _ _ _ _ (by simp), h.e]; rfl)

set_option maxHeartbeats 2000000 in
theorem adjust_1 (day : Nat) (g cap : Nat) (ws : List Nat) (zs : List Int) (w : World) (hw : Wd w g ws) (hT : Tz w) (hW : Whole ws zs) (d1 : day < 109573) :
    Calls Tryd.prog 41 #[.agg #[.int .i64 0, .slice (some ⟨g, 0, none⟩) 1713 cap], .int .i64 day, .int .i64 1] w fun e w' => AdjE day 1 zs e ∧ Below w.heap.size w w' := by
  have dd : (day : Int) < 1000000 := by omega
  have d0 : (0 : Int) ≤ day := by omega
  refine (callsIn_wide (n := 5)).1 ?_
  refine callsIn_of_wp_marks Tryd.func41 rfl trivial ?_ rfl
  simp only [Tryd.ntmps41, List.size_toArray, List.length_cons, List.length_nil, Nat.reduceAdd, Nat.reduceSub, Array.replicate_succ, Array.replicate_zero, List.push_toArray, List.append_toArray, List.nil_append, List.cons_append]
  gi_wp2_with (refine ⟨trivial, ?_⟩; gi_at_call 27; refine (callsIn_wide.2 (upFrom_any _ _ _ _ _ _ (by omega) d0 dd)).mono ?_; rintro e w1 ⟨rfl, rfl⟩)
  have hsz := uw_size w g cap day 1
  have hab := uw_ab w g cap day 1
  refine wpIn_rangeFunc_ownF (w := uw w g cap day 1) rfl (by omega) (gf := 48) (lb := #[.pointer (some ⟨w.heap.size + 1 + 1 + 1 + 1 + 1 + 1, 0, none⟩), .pointer (some ⟨w.heap.size + 1 + 1 + 1 + 1 + 1, 0, none⟩)]) rfl trivial (enters_of Tryd.func48 (by kernel_rfl) rfl)
    (adj_stops 4 (by omega) day 1 g cap ws zs w hw hT hW d1) belowK_t (belowK_b (by omega)) (Below.refl _ _) (fun _ => rfl)
    (fun pre W => pre = [] ∧ AB w W g cap day 1)
    (fun c pre W => ∃ x : CD, pre = [x] ∧ c = .ret ∧ Gone w W x.1)
    (fun s A B row hs hg hr => ⟨hs.1, hs.2.grown hg (by omega) hr⟩)
    (fun c s A B row hs hg hr => by obtain ⟨x, h1, h2, h3⟩ := hs; exact ⟨x, h1, h2, h3.grown hg (by omega) hr⟩)
    ⟨rfl, hab⟩
    (fun x => { tmps := #[.agg #[.int .i64 0, .slice (some ⟨g, 0, none⟩) 1713 cap], .int .i64 day, .int .i64 1, .pointer (some ⟨w.heap.size, 0, none⟩), .pointer (some ⟨w.heap.size + 1, 0, none⟩), .pointer (some ⟨w.heap.size + 1 + 1, 0, none⟩), .pointer (some ⟨w.heap.size + 1 + 1 + 1, 0, none⟩), .pointer (some ⟨w.heap.size + 1 + 1 + 1 + 1, 0, none⟩), .int .i64 x.1, undef, undef, .int .i64 1, .bool false, undef, .int .i64 1, .bool true, .agg #[.int .i64 0, .slice (some ⟨g, 0, none⟩) 1713 cap], .int .i64 day,
      .func (.func 48) #[] #[.pointer (some ⟨w.heap.size + 1 + 1 + 1 + 1 + 1 + 1, 0, none⟩), .pointer (some ⟨w.heap.size + 1 + 1 + 1 + 1 + 1, 0, none⟩)], .int .i64 x.1, undef, undef, undef, undef, undef, undef, undef, undef, undef, undef, undef, undef, undef, undef, undef, undef, undef, undef], defers := [] }) ?assign ?body ?done ?stop
  case assign =>
    intro l x W K hK
    gi_wp2
    exact hK
  case body =>
    rintro l pre x W ⟨rfl, hB⟩ _
    have G := Lib.hid (hB.gone x.1 0)
    obtain ⟨b0, b1, b2, b3, b4, b5, b6, b7, b8, b9⟩ := id hB
    clear b8
    gi_wp2
    refine ⟨trivial, ?_⟩
    gi_wp2
    exact ⟨(KeepsOthers.setCell _ _ _).trans (KeepsOthers.setCell _ _ _), x, rfl, rfl, G.out⟩
  case done =>
    rintro D ys W hD hy ⟨rfl, hB⟩ hK
    have U := up_none hW hy.symm
    have G := hB.gone 0 2
    obtain ⟨b0, b1, b2, b3, b4, b5, b6, b7, b8, b9⟩ := id hB
    clear b8
    gi_wp2
    have hK' := ((KeepsOthers.setCell W ⟨w.heap.size + 1 + 1 + 1, 0, none⟩ (.int .i64 0)).trans (KeepsOthers.setCell _ ⟨w.heap.size + 1 + 1 + 1 + 1, 0, none⟩ (.int .i64 2))).same D _ hK rfl
    refine ⟨by simp, .inl ⟨_, _, rfl, run_takeDeferred hK', ?_⟩⟩
    have e1 := cell_kept G.1 (grownBy_putObj' _ D (.deferred none)) (fun r e => by cases e; exact ⟨_, hK', rfl⟩)
    have e2 := cell_kept G.2.1 (grownBy_putObj' _ D (.deferred none)) (fun r e => by cases e; exact ⟨_, hK', rfl⟩)
    refine ⟨.tuple #[.int .i64 0, .int .i64 2], by simp [results, Tryd.f41, go_sem, e1, e2], ⟨0, 2, rfl, .inr (.inl ⟨rfl, -1, U, .inl ⟨by omega, rfl, rfl⟩⟩)⟩, ?_⟩
    exact G.2.2.trans (belowK_b (w := w) (Nat.le_refl _) _ D _ _ (by omega) hK' rfl rfl)
  case stop =>
    rintro D c pre W hD hp ⟨x, rfl, rfl, G⟩ hK
    have U := up_head hW hp
    gi_wp2
    refine ⟨by simp, .inl ⟨_, _, rfl, run_takeDeferred hK, ?_⟩⟩
    have e1 := cell_kept G.1 (grownBy_putObj' _ D (.deferred none)) (fun r e => by cases e; exact ⟨_, hK, rfl⟩)
    have e2 := cell_kept G.2.1 (grownBy_putObj' _ D (.deferred none)) (fun r e => by cases e; exact ⟨_, hK, rfl⟩)
    refine ⟨.tuple #[.int .i64 x.1, .int .i64 0], by simp [results, Tryd.f41, go_sem, e1, e2], ⟨x.1, 0, rfl, .inr (.inl ⟨rfl, x.1, U, .inr ⟨x.2.1, rfl, rfl⟩⟩)⟩, ?_⟩
    exact G.2.2.trans (belowK_b (w := w) (Nat.le_refl _) _ D _ _ (by omega) hK rfl rfl)
end Go.Proofs.YtpeglcnenagkbaaDoor
