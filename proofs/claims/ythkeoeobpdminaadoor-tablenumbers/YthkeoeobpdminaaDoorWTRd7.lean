/-
  WALK: Parse, of a text of one name and one row.
-/
import Derived.Test.YthkeoeobpdminaaDoorWTRd6
import Derived.WalkMore
namespace Go.Proofs.YthkeoeobpdminaaDoor
open Go.RowKit Go.Shelf Go.Maps
set_option linter.unusedVariables false
set_option linter.unusedSimpArgs false

/-- What word answers along the text. -/
structure WF (s u : ByteArray) : Prop where
  a : ∀ g m nm rw pl W, TR W g s 0 pl m nm rw → Calls Tryd.prog 35 #[.pointer (some ⟨g, 0, none⟩)] W fun e w' => e = .returned (.string ⟨#[100, 97, 121]⟩) ∧ TR w' g s 3 0 m nm rw ∧ Gr g W w'
  b : ∀ g m nm rw pl W, TR W g s 3 pl m nm rw → Calls Tryd.prog 35 #[.pointer (some ⟨g, 0, none⟩)] W fun e w' => e = .returned (.string ⟨#[65]⟩) ∧ TR w' g s 5 4 m nm rw ∧ Gr g W w'
  c : ∀ g m nm rw pl W, TR W g s 5 pl m nm rw → Calls Tryd.prog 35 #[.pointer (some ⟨g, 0, none⟩)] W fun e w' => e = .returned (.string ⟨#[]⟩) ∧ TR w' g s 5 5 m nm rw ∧ Gr g W w'
  d : ∀ g m nm rw pl W, TR W g s 6 pl m nm rw → Calls Tryd.prog 35 #[.pointer (some ⟨g, 0, none⟩)] W fun e w' => e = .returned (.string ⟨#[48]⟩) ∧ TR w' g s 7 6 m nm rw ∧ Gr g W w'
  e : ∀ g m nm rw pl W, TR W g s 7 pl m nm rw → Calls Tryd.prog 35 #[.pointer (some ⟨g, 0, none⟩)] W fun e w' => e = .returned (.string u) ∧ TR w' g s s.size 8 m nm rw ∧ Gr g W w'
  f : ∀ g m nm rw pl W, TR W g s s.size pl m nm rw → Calls Tryd.prog 35 #[.pointer (some ⟨g, 0, none⟩)] W fun e w' => e = .returned (.string ⟨#[]⟩) ∧ TR w' g s s.size s.size m nm rw ∧ Gr g W w'
theorem make_set (W : World) : (Instr.makeMap 58 none).run Tryd.prog W = .ok (.map (some W.heap.size)) (W.alloc (.map #[] 0)) := by
  simp [Instr.makeMap, run_underlying Tryd.underlying58]
/-- What lies when Parse begins to read. -/
structure PS (w w1 : World) (g : Nat) (s : ByteArray) : Prop where
  tr : TR w1 g s 0 0 (.map (some (w.heap.size + 1))) (.slice none 0 0) (.slice none 0 0)
  mo : MapOwn w1 (w.heap.size + 1) 0 (.map [])
  bel : Below w.heap.size w w1
  rb : w1.heap[w.heap.size]? = some (.cells #[.slice none 0 0, .slice none 0 0] 25)
theorem parse_start (s : ByteArray) (w : World) {w1 : World} (sz : s.size ≤ 1048576) (h : (((w.alloc (.cells #[.slice none 0 0, .slice none 0 0] 25)).alloc (.map #[] 0)).alloc (.cells #[.string s, .int .i64 0, .int .i64 0, .map (some (w.heap.size + 1)), .slice none 0 0, .slice none 0 0] 60)) = w1) : PS w w1 (w.heap.size + 1 + 1) s := by
  subst h
  have h2 : ((w.alloc (.cells #[.slice none 0 0, .slice none 0 0] 25)).alloc (.map #[] 0)).heap.size = w.heap.size + 1 + 1 := by simp
  refine ⟨⟨?_, sz, Nat.zero_le _⟩, ?_, ?_, ?_⟩
  · have := World.alloc_heap_new ((w.alloc (.cells #[.slice none 0 0, .slice none 0 0] 25)).alloc (.map #[] 0)) (.cells #[.string s, .int .i64 0, .int .i64 0, .map (some (w.heap.size + 1)), .slice none 0 0, .slice none 0 0] 60)
    rw [h2] at this
    exact this
  · have := World.ownsMap_made (w.alloc (.cells #[.slice none 0 0, .slice none 0 0] 25)) Tryd.prog 9 (unitElem (H := Unit))
    rw [World.size_alloc] at this
    exact this.alloc _
  · exact (((Below.refl _ w).alloc (Nat.le_refl _) _).alloc (by simp) _).alloc (by simp; omega) _
  · exact (Below.heap_alloc _ _ _ (by simp; omega)).trans ((Below.heap_alloc _ _ _ (by simp)).trans (World.alloc_heap_new w _))
/-- What lies behind the head's line. -/
structure HC (w1 W : World) (B g : Nat) (s : ByteArray) (m : Value) (x c : Nat) : Prop where
  tr : TR W g s 6 5 m (.slice (some ⟨x, 0, none⟩) 1 c) (.slice none 0 0)
  bel : Below B w1 W
theorem parse_end {w w1 wr w2 w3 : World} {g y cy z : Nat} {s : ByteArray} {m nm u v : Value} {hh : Bool} {hv : Int} (hg : w.heap.size + 1 + 1 = g) (I : PS w w1 g s) (R : RWD w1 wr (w.heap.size + 1) g s m nm hh hv y cy z) (G2 : Gr g wr w2) (G3 : Gr g w2 w3) (B3 : Below (w.heap.size + 1) w1 w3) :
    ((w3.setCell ⟨w.heap.size, 0, none⟩ u).setCell ⟨w.heap.size, 1, none⟩ v).cell? ⟨y, 0, none⟩ = some (.slice (some ⟨z, 0, none⟩) 1 1) ∧ ((w3.setCell ⟨w.heap.size, 0, none⟩ u).setCell ⟨w.heap.size, 1, none⟩ v).cell? ⟨z, 0, none⟩ = some (.bool hh) ∧ ((w3.setCell ⟨w.heap.size, 0, none⟩ u).setCell ⟨w.heap.size, 1, none⟩ v).cell? ⟨z, 1, none⟩ = some (.int .i64 hv) ∧ Below w.heap.size w ((w3.setCell ⟨w.heap.size, 0, none⟩ u).setCell ⟨w.heap.size, 1, none⟩ v) := by
  obtain ⟨h1, h2⟩ := R.yz
  have k : ∀ q j V, g < q → wr.cell? ⟨q, j, none⟩ = some V → ((w3.setCell ⟨w.heap.size, 0, none⟩ u).setCell ⟨w.heap.size, 1, none⟩ v).cell? ⟨q, j, none⟩ = some V := fun q j V hq hc => by
    have n1 : ¬ w.heap.size = q := by omega
    have n2 : ¬ q = g := by omega
    rw [World.cell?_setCell_other _ _ _ _ (by simp [n1]), World.cell?_setCell_other _ _ _ _ (by simp [n1])]
    exact G3.cell (a := ⟨q, j, none⟩) (G2.cell (a := ⟨q, j, none⟩) hc (by simpa using n2)) (by simpa using n2)
  exact ⟨k y 0 _ (by omega) R.rw, k z 0 _ h1 R.c0, k z 1 _ h1 R.c1, ((I.bel.trans (B3.mono (Nat.le_succ _))).setCell (p := ⟨w.heap.size, 0, none⟩) (Nat.le_refl _) _).setCell (p := ⟨w.heap.size, 1, none⟩) (Nat.le_refl _) _⟩
theorem rb_kept {w w1 W : World} {g : Nat} {s : ByteArray} (h : PS w w1 g s) (b : Below (w.heap.size + 1) w1 W) : W.heap[w.heap.size]? = some (.cells #[.slice none 0 0, .slice none 0 0] 25) := (b.block _ (Nat.lt_succ_self _)).trans h.rb
set_option maxRecDepth 100000 in
set_option maxHeartbeats 8000000 in
theorem parse_ok (s u : ByteArray) (hh : Bool) (hv : Int) (w : World) (sz : s.size ≤ 1048576) (s9 : 8 < s.size) (F : WF s u)
    (hc : ∀ W, Below w.heap.size w W → Calls Tryd.prog 59 #[.string u] W fun e w' => e = .returned (.tuple #[.agg #[.bool hh, .int .i64 hv], .bool true]) ∧ Below W.heap.size W w') :
    Calls Tryd.prog 17 #[.string s] w fun e w' => ∃ x c y cy z, e = .returned (.tuple #[.agg #[.slice (some ⟨x, 0, none⟩) 1 c, .slice (some ⟨y, 0, none⟩) 1 cy], .int .i64 0, .int .i64 0]) ∧ w'.cell? ⟨y, 0, none⟩ = some (.slice (some ⟨z, 0, none⟩) 1 1) ∧ w'.cell? ⟨z, 0, none⟩ = some (.bool hh) ∧ w'.cell? ⟨z, 1, none⟩ = some (.int .i64 hv) ∧ Below w.heap.size w w' := by
  have szI : ¬ (1048576 : Int) < (s.size : Int) := by omega
  have hmk := make_set
  obtain ⟨w1, hw1⟩ : ∃ w1, (((w.alloc (.cells #[.slice none 0 0, .slice none 0 0] 25)).alloc (.map #[] 0)).alloc (.cells #[.string s, .int .i64 0, .int .i64 0, .map (some (w.heap.size + 1)), .slice none 0 0, .slice none 0 0] 60)) = w1 := ⟨_, rfl⟩
  have IN := Lib.hid (parse_start s w sz hw1)
  obtain ⟨g, hg⟩ : ∃ g, w.heap.size + 1 + 1 = g := ⟨_, rfl⟩
  have IG := Lib.hid (hg ▸ IN.out)
  have FF := Lib.hid F
  have KC := Lib.hid (p := ∀ W, Below (w.heap.size + 1) w1 W → Calls Tryd.prog 59 #[.string u] W fun e w' => e = .returned (.tuple #[.agg #[.bool hh, .int .i64 hv], .bool true]) ∧ Below W.heap.size W w') (fun W b => hc W (IN.out.bel.trans (b.mono (Nat.le_succ _))))
  have gB : w.heap.size + 1 ≤ g := by omega
  have gM : w.heap.size + 1 ≠ g := by omega
  have HW := Lib.hid hw1
  have HG := Lib.hid hg
  clear hc F hw1 hg
  go_enter Tryd.func17, Tryd.ntmps17
  go_wp2
  go_step3
  go_wp2
  rw [HW.out, HG.out]
  go_step3
  go_wp2
  have RB := Lib.hid (fun W b => rb_kept IG.out (W := W) b)
  go_loopw [6] (fun t wr => (t = .bool false ∧ wr = w1) ∨ (t = .bool true ∧ ((∃ x c, HD w1 wr (w.heap.size + 1) g (w.heap.size + 1) s (.slice none 0 0) x c) ∨ (∃ x c, HC w1 wr (w.heap.size + 1) g s (.map (some (w.heap.size + 1))) x c) ∨ (∃ x c y cy z, RWD w1 wr (w.heap.size + 1) g s (.map (some (w.heap.size + 1))) (.slice (some ⟨x, 0, none⟩) 1 c) hh hv y cy z)))) (fun t wr => s.size - posT g wr)
  case atStart => exact .inl ⟨rfl, rfl⟩
  case round =>
    rcases hrel with ⟨rfl, rfl⟩ | ⟨rfl, hH | hH | hH⟩
    · rename World => w1
      have KA := Lib.hid (FF.out.a g _ _ _ _ _ IG.out.tr)
      have KH := Lib.hid (p := ∀ W, TR W g s 3 0 (.map (some (w.heap.size + 1))) (.slice none 0 0) (.slice none 0 0) → Gr g w1 W → Calls Tryd.prog 37 #[.pointer (some ⟨g, 0, none⟩), .string ⟨#[100, 97, 121]⟩] W fun e w' => e = .returned (.int .i64 0) ∧ ∃ x c, HD w1 w' (w.heap.size + 1) g (w.heap.size + 1) s (.slice none 0 0) x c) (fun W t k => head_A g (w.heap.size + 1) (w.heap.size + 1) s 0 _ w1 W t (IG.out.mo.kept k (by simpa using gM)) gM gB (Nat.le_refl _) (Gr.below (Below.refl _ _) k gB IG.out.tr.lt) (FF.out.b g) (FF.out.c g))
      have P0 := Lib.hid IG.out.tr.pos
      go_wp2_with (first
        | (go_at_call 35; refine KA.out.mono ?_; rintro e w2 ⟨rfl, t2, g2⟩; have T2 := Lib.hid t2; have G2 := Lib.hid g2; clear t2 g2)
        | (go_at_call 37; refine (KH.out _ T2.out G2.out).mono ?_; rintro e w3 ⟨rfl, x, c, hD⟩; have D3 := Lib.hid hD; clear hD))
      go_roundw
      case rel => exact .inr ⟨rfl, .inl ⟨x, c, D3.out⟩⟩
      case measure => rw [P0.out, D3.out.tr.pos]; omega
    · rename World => wr
      obtain ⟨x, c, hD⟩ := hH
      have DD := Lib.hid hD
      have KA := Lib.hid (FF.out.c g _ _ _ _ _ hD.tr)
      have KN := Lib.hid (p := ∀ W, TR W g s 5 5 (.map (some (w.heap.size + 1))) (.slice (some ⟨x, 0, none⟩) 1 c) (.slice none 0 0) → Calls Tryd.prog 36 #[.pointer (some ⟨g, 0, none⟩)] W fun e w' => e = .returned (.bool true) ∧ TR w' g s 6 5 (.map (some (w.heap.size + 1))) (.slice (some ⟨x, 0, none⟩) 1 c) (.slice none 0 0) ∧ Gr g W w') (fun W t => nextLine_yes g s 5 5 _ _ _ W t (by omega))
      have P0 := Lib.hid hD.tr.pos
      clear hD
      go_wp2_with (first
        | (go_at_call 35; refine KA.out.mono ?_; rintro e w2 ⟨rfl, t2, g2⟩; have T2 := Lib.hid t2; have G2 := Lib.hid g2; clear t2 g2)
        | (go_at_call 36; refine (KN.out _ T2.out).mono ?_; rintro e w3 ⟨rfl, t3, g3⟩; have T3 := Lib.hid t3; have G3 := Lib.hid g3; clear t3 g3))
      go_roundw
      case rel => exact .inr ⟨rfl, .inr (.inl ⟨x, c, T3.out, Gr.below (Gr.below DD.out.bel G2.out gB DD.out.tr.lt) G3.out gB T2.out.lt⟩)⟩
      case measure => rw [P0.out, T3.out.pos]; omega
    · rename World => wr
      obtain ⟨x, c, hD⟩ := hH
      have DD := Lib.hid hD
      have KA := Lib.hid (FF.out.d g _ _ _ _ _ hD.tr)
      have KR := Lib.hid (fun W (t : TR W g s 7 6 (.map (some (w.heap.size + 1))) (.slice (some ⟨x, 0, none⟩) 1 c) (.slice none 0 0)) (b : Below (w.heap.size + 1) w1 W) => row_ok g (w.heap.size + 1) x c s u 6 _ w1 W hh hv t gB b (FF.out.e g) KC.out (FF.out.f g))
      have P0 := Lib.hid hD.tr.pos
      clear hD
      go_wp2_with (first
        | (go_at_call 35; refine KA.out.mono ?_; rintro e w2 ⟨rfl, t2, g2⟩; have T2 := Lib.hid t2; have G2 := Lib.hid g2; clear t2 g2)
        | (go_at_call 38; refine (KR.out _ T2.out (Gr.below DD.out.bel G2.out gB DD.out.tr.lt)).mono ?_; rintro e w3 ⟨rfl, y, cy, z, hR⟩; have R3 := Lib.hid hR; clear hR))
      go_roundw
      case rel => exact .inr ⟨rfl, .inr (.inr ⟨x, c, y, cy, z, R3.out⟩)⟩
      case measure => rw [P0.out, R3.out.tr.pos]; omega
    · rename World => wr
      obtain ⟨x, c, y, cy, z, hR⟩ := hH
      have RR := Lib.hid hR
      have KA := Lib.hid (FF.out.f g _ _ _ _ _ hR.tr)
      have KN := Lib.hid (p := ∀ W, TR W g s s.size s.size (.map (some (w.heap.size + 1))) (.slice (some ⟨x, 0, none⟩) 1 c) (.slice (some ⟨y, 0, none⟩) 1 cy) → Calls Tryd.prog 36 #[.pointer (some ⟨g, 0, none⟩)] W fun e w' => e = .returned (.bool false) ∧ TR w' g s s.size s.size (.map (some (w.heap.size + 1))) (.slice (some ⟨x, 0, none⟩) 1 c) (.slice (some ⟨y, 0, none⟩) 1 cy) ∧ Gr g W w') (fun W t => nextLine_no g s _ _ _ _ _ W t rfl)
      clear hR
      go_wp2_with (first
        | (go_at_call 35; refine KA.out.mono ?_; rintro e w2 ⟨rfl, t2, g2⟩; have T2 := Lib.hid t2; have G2 := Lib.hid g2; clear t2 g2)
        | (go_at_call 36; refine (KN.out _ T2.out).mono ?_; rintro e w3 ⟨rfl, t3, g3⟩; have B3 := Lib.hid (Gr.below (Gr.below RR.out.bel G2.out gB RR.out.tr.lt) g3 gB T2.out.lt); have G3 := Lib.hid g3; have LT3 := Lib.hid t3; obtain ⟨d0, d1, d2, d3, d4, d5⟩ := t3.c; have hb3 := Lib.hid (RB.out _ B3.out); obtain ⟨r0, r1, f0, f1⟩ := box_all2 (RB.out _ B3.out); clear t3 g3))
      obtain ⟨r2, r3, _, _⟩ := box_all2 (box_set2 (u := .slice (some ⟨x, 0, none⟩) 1 c) (v := .slice (some ⟨y, 0, none⟩) 1 cy) hb3.out)
      have FIN := Lib.hid (parse_end (u := .slice (some ⟨x, 0, none⟩) 1 c) (v := .slice (some ⟨y, 0, none⟩) 1 cy) HG.out IG.out RR.out G2.out G3.out B3.out)
      try rw [Exit.noGoto_ret]
      exact bodyPost_ret (v := .tuple #[.agg #[.slice (some ⟨x, 0, none⟩) 1 c, .slice (some ⟨y, 0, none⟩) 1 cy], .int .i64 0, .int .i64 0]) (by simp [results, Tryd.results17, go_sem, r2, r3]) rfl ⟨x, c, y, cy, z, rfl, FIN.out⟩
set_option maxRecDepth 100000 in
set_option maxHeartbeats 8000000 in
theorem parse_bad (s u : ByteArray) (hh : Bool) (hv : Int) (w : World) (sz : s.size ≤ 1048576) (s9 : 8 < s.size) (F : WF s u)
    (hc : ∀ W, Below w.heap.size w W → Calls Tryd.prog 59 #[.string u] W fun e w' => e = .returned (.tuple #[.agg #[.bool hh, .int .i64 hv], .bool false]) ∧ Below W.heap.size W w') :
    Calls Tryd.prog 17 #[.string s] w fun e w' => e = .returned (.tuple #[.agg #[.slice none 0 0, .slice none 0 0], .int .i64 8, .int .i64 51]) ∧ Below w.heap.size w w' := by
  have szI : ¬ (1048576 : Int) < (s.size : Int) := by omega
  have hmk := make_set
  obtain ⟨w1, hw1⟩ : ∃ w1, (((w.alloc (.cells #[.slice none 0 0, .slice none 0 0] 25)).alloc (.map #[] 0)).alloc (.cells #[.string s, .int .i64 0, .int .i64 0, .map (some (w.heap.size + 1)), .slice none 0 0, .slice none 0 0] 60)) = w1 := ⟨_, rfl⟩
  have IN := Lib.hid (parse_start s w sz hw1)
  obtain ⟨g, hg⟩ : ∃ g, w.heap.size + 1 + 1 = g := ⟨_, rfl⟩
  have IG := Lib.hid (hg ▸ IN.out)
  have FF := Lib.hid F
  have KC := Lib.hid (p := ∀ W, Below (w.heap.size + 1) w1 W → Calls Tryd.prog 59 #[.string u] W fun e w' => e = .returned (.tuple #[.agg #[.bool hh, .int .i64 hv], .bool false]) ∧ Below W.heap.size W w') (fun W b => hc W (IN.out.bel.trans (b.mono (Nat.le_succ _))))
  have gB : w.heap.size + 1 ≤ g := by omega
  have gM : w.heap.size + 1 ≠ g := by omega
  have HW := Lib.hid hw1
  have HG := Lib.hid hg
  clear hc F hw1 hg
  go_enter Tryd.func17, Tryd.ntmps17
  go_wp2
  go_step3
  go_wp2
  rw [HW.out, HG.out]
  go_step3
  go_wp2
  have RB := Lib.hid (fun W b => rb_kept IG.out (W := W) b)
  go_loopw [6] (fun t wr => (t = .bool false ∧ wr = w1) ∨ (t = .bool true ∧ ((∃ x c, HD w1 wr (w.heap.size + 1) g (w.heap.size + 1) s (.slice none 0 0) x c) ∨ (∃ x c, HC w1 wr (w.heap.size + 1) g s (.map (some (w.heap.size + 1))) x c)))) (fun t wr => s.size - posT g wr)
  case atStart => exact .inl ⟨rfl, rfl⟩
  case round =>
    rcases hrel with ⟨rfl, rfl⟩ | ⟨rfl, hH | hH⟩
    · rename World => w1
      have KA := Lib.hid (FF.out.a g _ _ _ _ _ IG.out.tr)
      have KH := Lib.hid (p := ∀ W, TR W g s 3 0 (.map (some (w.heap.size + 1))) (.slice none 0 0) (.slice none 0 0) → Gr g w1 W → Calls Tryd.prog 37 #[.pointer (some ⟨g, 0, none⟩), .string ⟨#[100, 97, 121]⟩] W fun e w' => e = .returned (.int .i64 0) ∧ ∃ x c, HD w1 w' (w.heap.size + 1) g (w.heap.size + 1) s (.slice none 0 0) x c) (fun W t k => head_A g (w.heap.size + 1) (w.heap.size + 1) s 0 _ w1 W t (IG.out.mo.kept k (by simpa using gM)) gM gB (Nat.le_refl _) (Gr.below (Below.refl _ _) k gB IG.out.tr.lt) (FF.out.b g) (FF.out.c g))
      have P0 := Lib.hid IG.out.tr.pos
      go_wp2_with (first
        | (go_at_call 35; refine KA.out.mono ?_; rintro e w2 ⟨rfl, t2, g2⟩; have T2 := Lib.hid t2; have G2 := Lib.hid g2; clear t2 g2)
        | (go_at_call 37; refine (KH.out _ T2.out G2.out).mono ?_; rintro e w3 ⟨rfl, x, c, hD⟩; have D3 := Lib.hid hD; clear hD))
      go_roundw
      case rel => exact .inr ⟨rfl, .inl ⟨x, c, D3.out⟩⟩
      case measure => rw [P0.out, D3.out.tr.pos]; omega
    · rename World => wr
      obtain ⟨x, c, hD⟩ := hH
      have DD := Lib.hid hD
      have KA := Lib.hid (FF.out.c g _ _ _ _ _ hD.tr)
      have KN := Lib.hid (p := ∀ W, TR W g s 5 5 (.map (some (w.heap.size + 1))) (.slice (some ⟨x, 0, none⟩) 1 c) (.slice none 0 0) → Calls Tryd.prog 36 #[.pointer (some ⟨g, 0, none⟩)] W fun e w' => e = .returned (.bool true) ∧ TR w' g s 6 5 (.map (some (w.heap.size + 1))) (.slice (some ⟨x, 0, none⟩) 1 c) (.slice none 0 0) ∧ Gr g W w') (fun W t => nextLine_yes g s 5 5 _ _ _ W t (by omega))
      have P0 := Lib.hid hD.tr.pos
      clear hD
      go_wp2_with (first
        | (go_at_call 35; refine KA.out.mono ?_; rintro e w2 ⟨rfl, t2, g2⟩; have T2 := Lib.hid t2; have G2 := Lib.hid g2; clear t2 g2)
        | (go_at_call 36; refine (KN.out _ T2.out).mono ?_; rintro e w3 ⟨rfl, t3, g3⟩; have T3 := Lib.hid t3; have G3 := Lib.hid g3; clear t3 g3))
      go_roundw
      case rel => exact .inr ⟨rfl, .inr ⟨x, c, T3.out, Gr.below (Gr.below DD.out.bel G2.out gB DD.out.tr.lt) G3.out gB T2.out.lt⟩⟩
      case measure => rw [P0.out, T3.out.pos]; omega
    · rename World => wr
      obtain ⟨x, c, hD⟩ := hH
      have DD := Lib.hid hD
      have KA := Lib.hid (FF.out.d g _ _ _ _ _ hD.tr)
      have KR := Lib.hid (fun W (t : TR W g s 7 6 (.map (some (w.heap.size + 1))) (.slice (some ⟨x, 0, none⟩) 1 c) (.slice none 0 0)) (b : Below (w.heap.size + 1) w1 W) => row_bad g (w.heap.size + 1) x c s u 6 _ w1 W hh hv t gB b (FF.out.e g) KC.out)
      have P0 := Lib.hid hD.tr.pos
      clear hD
      go_wp2_with (first
        | (go_at_call 35; refine KA.out.mono ?_; rintro e w2 ⟨rfl, t2, g2⟩; have T2 := Lib.hid t2; have G2 := Lib.hid g2; clear t2 g2)
        | (go_at_call 38; refine (KR.out _ T2.out (Gr.below DD.out.bel G2.out gB DD.out.tr.lt)).mono ?_; rintro e w3 ⟨rfl, t3, b3⟩; have B3 := Lib.hid b3; obtain ⟨d0, d1, d2, d3, d4, d5⟩ := t3.c; have hb3 := Lib.hid (RB.out _ b3); obtain ⟨r0, r1, f0, f1⟩ := box_all2 (RB.out _ b3); clear t3 b3))
      go_region
      all_goals
        go_wp2
        obtain ⟨r2, r3, _, _⟩ := box_all2 (box_set2 (u := .slice none 0 0) (v := .slice none 0 0) hb3.out)
        try rw [Exit.noGoto_ret]
        exact bodyPost_ret (v := .tuple #[.agg #[.slice none 0 0, .slice none 0 0], .int .i64 8, .int .i64 51]) (by simp [results, Tryd.results17, go_sem, r2, r3]) rfl ⟨rfl, (((IN.out.bel.trans (B3.out.mono (Nat.le_succ _))).setCell (p := ⟨w.heap.size, 0, none⟩) (Nat.le_refl _) _).setCell (p := ⟨w.heap.size, 1, none⟩) (Nat.le_refl _) _).drew⟩
end Go.Proofs.YthkeoeobpdminaaDoor
