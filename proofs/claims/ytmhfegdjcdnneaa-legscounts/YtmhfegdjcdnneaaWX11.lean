/-
  WALK: the law's first: an iterator begun from within another.
-/
import Derived.Test.YtmhfegdjcdnneaaWX10
namespace Go.Proofs.Ytmhfegdjcdnneaa
open Go.RowKit Go.Shelf
attribute [local go_sem] Oper.semAt_some
set_option linter.unusedVariables false
set_option linter.unusedSimpArgs false

/-- A list of reads, where it lies. -/
def RdL (w : World) (v : Value) (L : List (Int × Int)) : Prop := ∃ (a : Option Addr) (c : Nat), v = .slice a L.length c ∧ (L = [] ∨ ∃ g, a = some ⟨g, 0, none⟩ ∧ g < w.heap.size ∧ ∀ i, i < L.length → w.cell? ⟨g, i * 2, none⟩ = some (.int .i64 (L.getD i (0, 0)).1) ∧ w.cell? ⟨g, i * 2 + 1, none⟩ = some (.int .i64 (L.getD i (0, 0)).2))
theorem RdL.later {w w' : World} {v : Value} {L : List (Int × Int)} (h : RdL w v L) (b : Below w.heap.size w w') : RdL w' v L := by
  obtain ⟨a, c, h1, h2⟩ := h
  refine ⟨a, c, h1, ?_⟩
  rcases h2 with h2 | ⟨g, h2, h3, h4⟩
  · exact .inl h2
  · exact .inr ⟨g, h2, Nat.lt_of_lt_of_le h3 b.size, fun i hi => ⟨(b.cell (p := ⟨g, i * 2, none⟩) h3).trans (h4 i hi).1, (b.cell (p := ⟨g, i * 2 + 1, none⟩) h3).trans (h4 i hi).2⟩⟩
theorem rcs_at : ∀ (L : List (Int × Int)) (i : Nat), i < L.length → (rcs L)[i * 2]? = some (.int .i64 (L.getD i (0, 0)).1) ∧ (rcs L)[i * 2 + 1]? = some (.int .i64 (L.getD i (0, 0)).2)
  | p :: r, 0, _ => by simp [rcs]
  | p :: r, i + 1, h => by
    have := rcs_at r i (by simpa using h)
    have e : rcs (p :: r) = [.int .i64 p.1, .int .i64 p.2] ++ rcs r := rfl
    rw [e, List.getElem?_append_right (by simp; omega), List.getElem?_append_right (by simp; omega)]
    rw [show (i + 1) * 2 - [Value.int .i64 p.1, Value.int .i64 p.2].length = i * 2 by simp; omega, show (i + 1) * 2 + 1 - [Value.int .i64 p.1, Value.int .i64 p.2].length = i * 2 + 1 by simp; omega]
    simpa using this
theorem OwR.list {w : World} {B : Nat} {v : Value} {L : List (Int × Int)} (h : OwR w B v L) : RdL w v L := by
  rcases h.2 with ⟨rfl, h0⟩ | ⟨g, cap, cur, rfl, e2, e3, e4, e5, e6, e7⟩
  · exact ⟨none, 0, by rw [h0], .inl (List.length_eq_zero_iff.1 h0)⟩
  · refine ⟨_, cap, rfl, .inr ⟨g, rfl, (Array.getElem?_eq_some_iff.1 e3).1, fun i hi => ?_⟩⟩
    obtain ⟨a, b⟩ := rcs_at L i hi
    rw [← e7, List.getElem?_take_of_lt (by omega)] at a b
    simp only [World.cell?, e3]
    exact ⟨by simpa using a, by simpa using b⟩
theorem xbox_bel {W W' : World} {B t : Nat} {v : Value} (h : Boxed W B t v) (b : Below W.heap.size W W') : Boxed W' B t v := (b.block B h.lt).trans h
set_option maxRecDepth 100000 in
set_option maxHeartbeats 4000000 in
theorem first_any (kb : Nat) (v : Value) (L : List (Int × Int)) (w : World) (hI : ItX w kb L) (hL : RdL w v L) (h0 : L ≠ []) :
    Calls Try.prog 13 #[.func (.func 33) #[] #[.pointer (some ⟨kb, 0, none⟩)], v] w fun e w' => e = .returned (.bool true) ∧ Below w.heap.size w w' := by
  obtain ⟨a, c, rfl, hl⟩ := hL
  obtain ⟨g, rfl, hg, hc⟩ : ∃ g, a = some ⟨g, 0, none⟩ ∧ g < w.heap.size ∧ ∀ i, i < L.length → w.cell? ⟨g, i * 2, none⟩ = some (.int .i64 (L.getD i (0, 0)).1) ∧ w.cell? ⟨g, i * 2 + 1, none⟩ = some (.int .i64 (L.getD i (0, 0)).2) := by
    rcases hl with h | h
    · exact absurd h h0
    · exact h
  obtain ⟨y, r, rfl⟩ := List.exists_cons_of_ne_nil h0
  obtain ⟨y1, y2⟩ := y
  obtain ⟨w0, hw0⟩ : ∃ w0, (w.alloc (.cells #[.slice (some ⟨g, 0, none⟩) ((y1, y2) :: r).length c] 27)).alloc (.cells #[.bool false] 4) = w0 := ⟨_, rfl⟩
  have IT := Lib.hid hI
  have B0 := Lib.hid (p := Below w.heap.size w w0) (by rw [← hw0]; exact ((Below.refl _ _).alloc (Nat.le_refl _) _).alloc (by simp) _)
  have C0 := Lib.hid (p := Boxed w0 w.heap.size 27 (.slice (some ⟨g, 0, none⟩) ((y1, y2) :: r).length c)) (by rw [← hw0]; exact (Boxed.new _ _ _).alloc _)
  have R0 := Lib.hid (p := Boxed w0 (w.heap.size + 1) 4 (.bool false)) (by rw [← hw0]; have := Boxed.new (w.alloc (.cells #[.slice (some ⟨g, 0, none⟩) ((y1, y2) :: r).length c] 27)) 4 (.bool false); rwa [World.size_alloc] at this)
  have Z0 := Lib.hid (p := w0.heap.size = w.heap.size + 1 + 1) (by rw [← hw0]; simp)
  have hc0 := (hc 0 (by simp)).1
  have hc1 := (hc 0 (by simp)).2
  simp only [Nat.zero_mul, Nat.zero_add, List.getD_cons_zero] at hc0 hc1
  have HC := Lib.hid (And.intro ((B0.out.cell (p := ⟨g, 0, none⟩) hg).trans hc0) ((B0.out.cell (p := ⟨g, 1, none⟩) hg).trans hc1))
  have hg0 : g < w0.heap.size := by have := B0.out.size; omega
  obtain ⟨n, hn⟩ : ∃ n, ((y1, y2) :: r).length = n := ⟨_, rfl⟩
  have hn1 : 1 ≤ n := by rw [← hn]; simp
  rw [hn] at C0 hw0 ⊢
  clear hI hl hc hc0 hc1 h0 hn
  refine (callsIn_wide (n := 5)).1 ?_
  refine callsIn_of_wp_marks Try.func13 rfl trivial ?_ rfl
  simp only [Try.ntmps13, List.size_toArray, List.length_cons, List.length_nil, Nat.reduceAdd, Nat.reduceSub, Array.replicate_succ, Array.replicate_zero, List.push_toArray, List.append_toArray, List.nil_append, List.cons_append]
  refine wpIn_wide.2 ?_
  go_wp2_with fail
  try simp only [hw0]
  clear hw0
  refine (wpIn_wide (n := 5)).1 ?_
  refine' wpIn_rangeFunc_ownF (w := w0) rfl (by omega) (gf := 33) (lb := #[.pointer (some ⟨kb, 0, none⟩)]) rfl trivial (enters_of Try.func33 (by kernel_rfl) rfl)
    (IT.out 4 (by omega)) belowK_t (belowK_b B0.out.size) B0.out (fun _ => rfl)
    (fun pre W => pre = [] ∧ Below w0.heap.size w0 W)
    (fun cx pre W => (¬ pre.map (·.1) <+: (y1, y2) :: r) ∨ (cx = .ret ∧ Boxed W (w.heap.size + 1) 4 (.bool true) ∧ Below w.heap.size w W))
    (fun s A B row hs hg hr => ⟨hs.1, hs.2.grown hg hs.2.size (fun k e => (hr k e).1)⟩)
    (fun cx s A B row hs hg hr => by
      rcases hs with hs | ⟨h1, h2, h3⟩
      · exact .inl hs
      · exact .inr ⟨h1, h2.kept hg (fun e => by obtain ⟨_, o, ho, hcc⟩ := hr _ e.symm; rw [show A.heap[w.heap.size + 1]? = _ from h2] at ho; cases ho; cases hcc), h3.grown hg h3.size (fun k e => Nat.le_trans B0.out.size (hr k e).1)⟩)
    ⟨rfl, Below.refl _ _⟩
    _ ?assign3 ?body3 ?done3 ?stop3
  case assign3 =>
    intro l x W K hK
    gi_wp2
    exact hK
  case body3 =>
    rintro l pre ⟨⟨x1, x2⟩, hx⟩ W ⟨rfl, hBW⟩ hlt
    have cr := (xbox_bel R0.out hBW).cell
    have fr := (xbox_bel R0.out hBW).frozen
    have hbl := (xbox_bel C0.out hBW).cell
    have q0 := (hBW.cell (p := ⟨g, 0, none⟩) hg0).trans HC.out.1
    have q1 := (hBW.cell (p := ⟨g, 1, none⟩) hg0).trans HC.out.2
    have RB := Lib.hid (xbox_bel R0.out hBW)
    have BB := Lib.hid (B0.out.trans (hBW.mono B0.out.size))
    have n0 : (0 : Int) < (n : Int) := by omega
    clear hBW
    by_cases hxe : y1 = x1 ∧ y2 = x2
    · obtain ⟨rfl, rfl⟩ := hxe
      gi_wp2
      refine ⟨KeepsOthers.setCell _ _ _, .inr ⟨rfl, RB.out.set _, BB.out.setCell (p := ⟨w.heap.size + 1, 0, none⟩) (by simp) _⟩⟩
    · have NP := Lib.hid (show ¬ [(x1, x2)] <+: (y1, y2) :: r from fun ⟨t, ht⟩ => by simp at ht; exact hxe ⟨ht.1.1.symm, ht.1.2.symm⟩)
      by_cases e1 : y1 = x1
      · subst e1
        have e2 : ¬ y2 = x2 := fun e => hxe ⟨rfl, e⟩
        have e3 : (y2 == x2) = false := by simpa using e2
        clear hxe
        gi_wp2
        exact ⟨KeepsOthers.setCell _ _ _, .inl (by simpa using NP.out)⟩
      · have e3 : (y1 == x1) = false := by simpa using e1
        clear hxe
        gi_wp2
        exact ⟨KeepsOthers.setCell _ _ _, .inl (by simpa using NP.out)⟩
  case done3 =>
    rintro E3 ys W10 hE3 hy ⟨rfl, hBW⟩ hK10
    simp at hy
  case stop3 =>
    rintro D cx pre W hD hp h hK
    rcases h with h | ⟨rfl, h1, h2⟩
    · exact absurd hp h
    · have CE := Lib.hid h1.cell
      have KD := Lib.hid hK
      have BE := Lib.hid h2
      have GD := Lib.hid (p := w.heap.size ≤ D) (by have := B0.out.size; omega)
      clear h1 h2 hK hp hD
      gi_wp2
      refine ⟨by simp, .inl ⟨_, _, rfl, run_takeDeferred KD.out, ?_⟩⟩
      have c1 := cell_kept CE.out (grownBy_putObj' _ D (.deferred none)) (fun r e => by cases e; exact ⟨_, KD.out, rfl⟩)
      refine ⟨.bool true, by simp [results, Try.f13, go_sem, c1], rfl, ?_⟩
      exact BE.out.trans (belowK_b (w := w) (Nat.le_refl _) _ D _ _ GD.out KD.out rfl rfl)
end Go.Proofs.Ytmhfegdjcdnneaa
