/-
  WALK: row, of a table with one column; the day is 0.
-/
import Derived.Test.YthkeoeobpdminaaDoorWTRd5
import Derived.Test.YthkeoeobpdminaaDoorWTOwn3
import Derived.Deep.RegionLaw
namespace Go.Proofs.YthkeoeobpdminaaDoor
open Go.RowKit Go.Shelf Go.Maps
set_option linter.unusedVariables false
set_option linter.unusedSimpArgs false

theorem zc_cells {W : World} {y : Nat} (h : W.heap[y]? = some (.cells Tryd.zeroCells89 89)) : W.cell? ⟨y, 0, none⟩ = some (.bool false) ∧ W.cell? ⟨y, 1, none⟩ = some (.int .i64 0) ∧ W.frozen? ⟨y, 0, none⟩ = false ∧ W.frozen? ⟨y, 1, none⟩ = false := by
  have e0 : Tryd.zeroCells89[0]? = some (.bool false) := by kernel_rfl
  have e1 : Tryd.zeroCells89[1]? = some (.int .i64 0) := by kernel_rfl
  refine ⟨?_, ?_, Joins.unfrozen_of_block h 0, Joins.unfrozen_of_block h 1⟩
  · rw [Joins.cell_of_block h]; exact e0
  · rw [Joins.cell_of_block h]; exact e1
/-- What lies behind a row that is taken. -/
structure RWD (w0 W : World) (B g : Nat) (s : ByteArray) (m nm : Value) (hh : Bool) (hv : Int) (y cy z : Nat) : Prop where
  tr : TR W g s s.size s.size m nm (.slice (some ⟨y, 0, none⟩) 1 cy)
  rw : W.cell? ⟨y, 0, none⟩ = some (.slice (some ⟨z, 0, none⟩) 1 1)
  c0 : W.cell? ⟨z, 0, none⟩ = some (.bool hh)
  c1 : W.cell? ⟨z, 1, none⟩ = some (.int .i64 hv)
  yz : g < z ∧ z ≤ y
  bel : Below B w0 W
set_option maxRecDepth 100000 in
set_option maxHeartbeats 8000000 in
theorem row_bad (g B x c : Nat) (s u : ByteArray) (pl : Nat) (m : Value) (w0 w : World) (hh : Bool) (hv : Int) (h : TR w g s 7 pl m (.slice (some ⟨x, 0, none⟩) 1 c) (.slice none 0 0)) (hg : B ≤ g) (hb : Below B w0 w)
    (w1 : ∀ m nm rw pl W, TR W g s 7 pl m nm rw → Calls Tryd.prog 35 #[.pointer (some ⟨g, 0, none⟩)] W fun e w' => e = .returned (.string u) ∧ TR w' g s s.size 8 m nm rw ∧ Gr g W w')
    (hc : ∀ W, Below B w0 W → Calls Tryd.prog 59 #[.string u] W fun e w' => e = .returned (.tuple #[.agg #[.bool hh, .int .i64 hv], .bool false]) ∧ Below W.heap.size W w') :
    Calls Tryd.prog 38 #[.pointer (some ⟨g, 0, none⟩), .string ⟨#[48]⟩] w fun e w' => e = .returned (.int .i64 51) ∧ TR w' g s s.size 8 m (.slice (some ⟨x, 0, none⟩) 1 c) (.slice none 0 0) ∧ Below B w0 w' := by
  have T0 := Lib.hid h
  have K1 := Lib.hid w1
  have KC := Lib.hid hc
  have HB := Lib.hid hb
  have KD := Lib.hid (fun W => dayOf_0 W)
  obtain ⟨h0, h1, h2, h3, h4, h5⟩ := h.c
  have TA := Lib.hid (h.alloc (.cells Tryd.zeroCells89 89))
  have ZA := Lib.hid (World.alloc_heap_new w (.cells Tryd.zeroCells89 89))
  have BA := Lib.hid (hb.alloc (Nat.le_trans hg (Nat.le_of_lt h.lt)) (.cells Tryd.zeroCells89 89))
  have NG := Lib.hid (p := w.heap.size ≠ g ∧ g < w.heap.size) ⟨by have := h.lt; omega, h.lt⟩
  have SA := Lib.hid (p := w.heap.size < (w.alloc (.cells Tryd.zeroCells89 89)).heap.size) (by simp)
  obtain ⟨a0, a1, a2, a3, a4, a5⟩ := TA.out.c
  clear h w1 hc hb
  go_enter Tryd.func38, Tryd.ntmps38
  go_wp2_with (go_at_call 58; refine (KD.out _).mono ?_; rintro e w' ⟨rfl, rfl⟩)
  rename World => w
  go_loopw [36] (fun t wr => t = .int .i64 0 ∧ wr = w.alloc (.cells Tryd.zeroCells89 89)) (fun t _ => 1)
  case atStart => exact ⟨rfl, rfl⟩
  case round =>
    obtain ⟨rfl, rfl⟩ := hrel
    go_wp2_with (first
      | (go_at_call 35; refine (K1.out _ _ _ _ _ TA.out).mono ?_; rintro e w2 ⟨rfl, t2, g2⟩; have T2 := Lib.hid t2; have Z2 := Lib.hid ((g2.block _ SA.out (by simpa using NG.out.1)).trans ZA.out); have B2 := Lib.hid (Gr.below BA.out g2 hg TA.out.lt); clear t2 g2)
      | (go_at_call 59; refine (KC.out _ B2.out).mono ?_; rintro e w3 ⟨rfl, b3⟩; have T3 := Lib.hid (T2.out.below b3); have B3 := Lib.hid (B2.out.trans (b3.mono (Nat.le_trans hg (Nat.le_of_lt T2.out.lt)))); obtain ⟨z0, z1, z2, z3⟩ := zc_cells ((b3.block _ (Array.getElem?_eq_some_iff.1 Z2.out).1).trans Z2.out); clear b3))
    go_ret
    exact ⟨rfl, (T3.out.grown (grT_set _ _ 0 _) (by simpa using Ne.symm NG.out.1)).grown (grT_set _ _ 1 _) (by simpa using Ne.symm NG.out.1), (B3.out.setCell (p := ⟨w.heap.size, 0, none⟩) (Nat.le_trans hg (Nat.le_of_lt NG.out.2)) _).setCell (p := ⟨w.heap.size, 1, none⟩) (Nat.le_trans hg (Nat.le_of_lt NG.out.2)) _⟩
theorem rwd_of {w0 W w5 : World} {B g y cy z : Nat} {s : ByteArray} {m nm : Value} {hh : Bool} {hv : Int} (T : TR w5 g s s.size s.size m nm (.slice none 0 0)) (O : w5.ownsRow z 37 1 (.slice (some ⟨y, 0, none⟩) (0 + 1) cy) (0 + 1) ([] ++ [.slice (some ⟨z, 0, none⟩) 1 1])) (G : W.grownBy w5 (Value.slice none 0 0).ownBlock)
    (Z : W.heap[z]? = some (.cells #[.bool hh, .int .i64 hv] 35)) (b : Below B w0 W) (hz : g < z) (hg : B ≤ g) : RWD w0 (w5.setCell ⟨g, 5, none⟩ (.slice (some ⟨y, 0, none⟩) 1 cy)) B g s m nm hh hv y cy z := by
  have hy : z ≤ y := (O.lt y rfl).1
  have hzl : z < W.heap.size := (Array.getElem?_eq_some_iff.1 Z).1
  have Z5 := (G.block z hzl (by intro e; cases e)).trans Z
  have ny : ¬ g = y := by omega
  have nz : ¬ g = z := by omega
  have cy0 := O.cells (g := y) rfl 0 _ rfl
  rw [Lib.add_plain] at cy0
  refine ⟨T.setRw _, ?_, ?_, ?_, ⟨by omega, by omega⟩, (b.grown G (by omega) (fun k e => by cases e)).setCell (p := ⟨g, 5, none⟩) hg _⟩
  · rw [World.cell?_setCell_other _ _ _ _ (by simp [ny])]; exact cy0
  · rw [World.cell?_setCell_other _ _ _ _ (by simp [nz])]; simp [World.cell?, Z5]
  · rw [World.cell?_setCell_other _ _ _ _ (by simp [nz])]; simp [World.cell?, Z5]
structure RWM (w0 W : World) (B g y : Nat) (s : ByteArray) (m nm : Value) (hh : Bool) (hv : Int) : Prop where
  tr : TR W g s s.size 8 m nm (.slice none 0 0)
  c0 : W.cell? ⟨y, 0, none⟩ = some (.bool hh)
  c1 : W.cell? ⟨y, 1, none⟩ = some (.int .i64 hv)
  ne : y ≠ g
  bel : Below B w0 W
structure RWN (w0 W : World) (B g y : Nat) (s : ByteArray) (m nm : Value) (hh : Bool) (hv : Int) : Prop where
  tr : TR W g s s.size s.size m nm (.slice none 0 0)
  c0 : W.cell? ⟨y, 0, none⟩ = some (.bool hh)
  c1 : W.cell? ⟨y, 1, none⟩ = some (.int .i64 hv)
  ne : y ≠ g
  bel : Below B w0 W
theorem RWM.after {w0 W W' : World} {B g y : Nat} {s : ByteArray} {m nm : Value} {hh : Bool} {hv : Int} (h : RWM w0 W B g y s m nm hh hv) (k : Gr g W W') (t : TR W' g s s.size s.size m nm (.slice none 0 0)) (hg : B ≤ g) : RWN w0 W' B g y s m nm hh hv :=
  ⟨t, k.cell (a := ⟨y, 0, none⟩) h.c0 (by simpa using h.ne), k.cell (a := ⟨y, 1, none⟩) h.c1 (by simpa using h.ne), h.ne, Gr.below h.bel k hg h.tr.lt⟩
set_option maxRecDepth 100000 in
set_option maxHeartbeats 8000000 in
theorem row_ok (g B x c : Nat) (s u : ByteArray) (pl : Nat) (m : Value) (w0 w : World) (hh : Bool) (hv : Int) (h : TR w g s 7 pl m (.slice (some ⟨x, 0, none⟩) 1 c) (.slice none 0 0)) (hg : B ≤ g) (hb : Below B w0 w)
    (w1 : ∀ m nm rw pl W, TR W g s 7 pl m nm rw → Calls Tryd.prog 35 #[.pointer (some ⟨g, 0, none⟩)] W fun e w' => e = .returned (.string u) ∧ TR w' g s s.size 8 m nm rw ∧ Gr g W w')
    (hc : ∀ W, Below B w0 W → Calls Tryd.prog 59 #[.string u] W fun e w' => e = .returned (.tuple #[.agg #[.bool hh, .int .i64 hv], .bool true]) ∧ Below W.heap.size W w')
    (w2 : ∀ m nm rw pl W, TR W g s s.size pl m nm rw → Calls Tryd.prog 35 #[.pointer (some ⟨g, 0, none⟩)] W fun e w' => e = .returned (.string ⟨#[]⟩) ∧ TR w' g s s.size s.size m nm rw ∧ Gr g W w') :
    Calls Tryd.prog 38 #[.pointer (some ⟨g, 0, none⟩), .string ⟨#[48]⟩] w fun e w' => e = .returned (.int .i64 0) ∧ ∃ y cy z, RWD w0 w' B g s m (.slice (some ⟨x, 0, none⟩) 1 c) hh hv y cy z := by
  have T0 := Lib.hid h
  have K1 := Lib.hid w1
  have K2 := Lib.hid w2
  have KC := Lib.hid hc
  have HB := Lib.hid hb
  have KD := Lib.hid (fun W => dayOf_0 W)
  obtain ⟨h0, h1, h2, h3, h4, h5⟩ := h.c
  have TA := Lib.hid (h.alloc (.cells Tryd.zeroCells89 89))
  have ZA := Lib.hid (World.alloc_heap_new w (.cells Tryd.zeroCells89 89))
  have BA := Lib.hid (hb.alloc (Nat.le_trans hg (Nat.le_of_lt h.lt)) (.cells Tryd.zeroCells89 89))
  have NG := Lib.hid (p := w.heap.size ≠ g ∧ g < w.heap.size) ⟨by have := h.lt; omega, h.lt⟩
  have SA := Lib.hid (p := w.heap.size < (w.alloc (.cells Tryd.zeroCells89 89)).heap.size) (by simp)
  obtain ⟨a0, a1, a2, a3, a4, a5⟩ := TA.out.c
  clear h w1 hc hb w2
  go_enter Tryd.func38, Tryd.ntmps38
  go_wp2_with (go_at_call 58; refine (KD.out _).mono ?_; rintro e w' ⟨rfl, rfl⟩)
  rename World => w
  go_loopw [36] (fun t wr => (t = .int .i64 0 ∧ wr = w.alloc (.cells Tryd.zeroCells89 89)) ∨ (t = .int .i64 1 ∧ RWM w0 wr B g w.heap.size s m (.slice (some ⟨x, 0, none⟩) 1 c) hh hv)) (fun t _ => 1 - (intOf t).toNat)
  case atStart => exact .inl ⟨rfl, rfl⟩
  case round =>
    rcases hrel with ⟨rfl, rfl⟩ | ⟨rfl, hM⟩
    · go_wp2_with (first
        | (go_at_call 35; refine (K1.out _ _ _ _ _ TA.out).mono ?_; rintro e w2 ⟨rfl, t2, g2⟩; have T2 := Lib.hid t2; have Z2 := Lib.hid ((g2.block _ SA.out (by simpa using NG.out.1)).trans ZA.out); have B2 := Lib.hid (Gr.below BA.out g2 hg TA.out.lt); clear t2 g2)
        | (go_at_call 59; refine (KC.out _ B2.out).mono ?_; rintro e w3 ⟨rfl, b3⟩; have T3 := Lib.hid (T2.out.below b3); have B3 := Lib.hid (B2.out.trans (b3.mono (Nat.le_trans hg (Nat.le_of_lt T2.out.lt)))); obtain ⟨z0, z1, z2, z3⟩ := zc_cells ((b3.block _ (Array.getElem?_eq_some_iff.1 Z2.out).1).trans Z2.out); clear b3))
      go_roundw
      case rel =>
        refine .inr ⟨rfl, (T3.out.grown (grT_set _ _ 0 _) (by simpa using Ne.symm NG.out.1)).grown (grT_set _ _ 1 _) (by simpa using Ne.symm NG.out.1), ?_, ?_, NG.out.1, ?_⟩
        · rw [World.cell?_setCell_other _ _ _ _ (by simp)]
          exact World.cell?_setCell_same _ _ _ z0
        · exact World.cell?_setCell_same _ _ _ ((World.cell?_setCell_other _ _ _ _ (by simp)).trans z1)
        · exact (B3.out.setCell (p := ⟨w.heap.size, 0, none⟩) (Nat.le_trans hg (Nat.le_of_lt NG.out.2)) _).setCell (p := ⟨w.heap.size, 1, none⟩) (Nat.le_trans hg (Nat.le_of_lt NG.out.2)) _
      case measure => simp [intOf]
    · rename World => wr
      have MM := Lib.hid hM
      clear hM
      go_wp2_with (go_at_call 35; refine (K2.out _ _ _ _ _ MM.out.tr).mono ?_; rintro e w4 ⟨rfl, t4, g4⟩; have T4 := Lib.hid t4; have M4 := Lib.hid (MM.out.after g4 t4 hg); obtain ⟨d0, d1, d2, d3, d4, d5⟩ := t4.c; clear t4 g4)
      go_loopw [60] (fun t ws => ws = w4) (fun t _ => 1)
      case atStart => exact rfl
      case round =>
        subst hrel
        rename World => w4
        have NR := Lib.hid (newRow_1 w.heap.size 64 hh hv w4.drew M4.out.c0 M4.out.c1)
        have T42 := Lib.hid (p := TR ((w4.drew.alloc (.cells #[.bool hh, .int .i64 hv] 35)).alloc (.cells #[.slice (some ⟨w4.drew.heap.size, 0, none⟩) 1 1] 37)) g s s.size s.size m (.slice (some ⟨x, 0, none⟩) 1 c) (.slice none 0 0)) ((TR.alloc (w := w4.drew) ⟨T4.out.hb, T4.out.sz, T4.out.le⟩ _).alloc _)
        have Z42 := Lib.hid (p := ((w4.drew.alloc (.cells #[.bool hh, .int .i64 hv] 35)).alloc (.cells #[.slice (some ⟨w4.drew.heap.size, 0, none⟩) 1 1] 37)).heap[w4.drew.heap.size]? = some (.cells #[.bool hh, .int .i64 hv] 35)) ((Below.heap_alloc _ _ _ (by simp)).trans (World.alloc_heap_new w4.drew _))
        have H42 := Lib.hid (p := ((w4.drew.alloc (.cells #[.bool hh, .int .i64 hv] 35)).alloc (.cells #[.slice (some ⟨w4.drew.heap.size, 0, none⟩) 1 1] 37)).heap[w4.drew.heap.size + 1]? = some (.cells #[.slice (some ⟨w4.drew.heap.size, 0, none⟩) 1 1] 37)) (by
          have := World.alloc_heap_new (w4.drew.alloc (.cells #[.bool hh, .int .i64 hv] 35)) (.cells #[.slice (some ⟨w4.drew.heap.size, 0, none⟩) 1 1] 37)
          rw [World.size_alloc] at this
          exact this)
        have B42 := Lib.hid (p := Below B w0 ((w4.drew.alloc (.cells #[.bool hh, .int .i64 hv] 35)).alloc (.cells #[.slice (some ⟨w4.drew.heap.size, 0, none⟩) 1 1] 37))) ((M4.out.bel.drew.alloc (Nat.le_trans hg (Nat.le_of_lt T4.out.lt)) _).alloc (Nat.le_trans hg (Nat.le_of_lt (Nat.lt_of_lt_of_le T4.out.lt (by simp)))) _)
        have L4 := Lib.hid T4.out.lt
        have q5 : (w4.alloc (.cells #[.bool hh, .int .i64 hv] 35)).cell? ⟨g, 5, none⟩ = some (.slice none 0 0) := (T4.out.alloc _).c.2.2.2.2.2
        have q6 : ((w4.alloc (.cells #[.bool hh, .int .i64 hv] 35)).alloc (.cells #[.slice (some ⟨w4.heap.size, 0, none⟩) 1 1] 37)).cell? ⟨g, 5, none⟩ = some (.slice none 0 0) := ((T4.out.alloc _).alloc _).c.2.2.2.2.2
        have SZ := Lib.hid (p := w4.drew.heap.size ≤ ((w4.drew.alloc (.cells #[.bool hh, .int .i64 hv] 35)).alloc (.cells #[.slice (some ⟨w4.drew.heap.size, 0, none⟩) 1 1] 37)).heap.size) (by rw [World.size_alloc, World.size_alloc]; omega)
        have NEG := Lib.hid (p := some g ≠ (Value.slice none 0 0).ownBlock) (by intro e; cases e)
        go_wp2
        go_region_law (first | (go_simp; go_at_call 60; refine NR.out.mono ?_; rintro e w9 ⟨rfl, rfl⟩) | (refine step_rows _ rfl _ _ rfl w4.drew.heap.size (.slice none 0 0) 0 [] rfl (World.ownsRow_nil _ _ _ _) (w4.drew.heap.size + 1) (some ⟨w4.drew.heap.size, 0, none⟩) 1 1 (0, 0) rfl H42.out (Nat.zero_le _) SZ.out ?_; intro y cy w5 h1 h2; have O5 := Lib.hid h1; have G5 := Lib.hid h2; have T5 := T42.out.grown h2 NEG.out; have TT5 := Lib.hid T5; obtain ⟨k0, k1, k2, k3, k4, k5⟩ := T5.c; have fk := T5.f 5; clear T5 h1 h2))
        all_goals
          go_wp2
          go_ret
          exact ⟨rfl, y, cy, w4.heap.size, rwd_of TT5.out O5.out G5.out Z42.out B42.out L4.out hg⟩
end Go.Proofs.YthkeoeobpdminaaDoor
