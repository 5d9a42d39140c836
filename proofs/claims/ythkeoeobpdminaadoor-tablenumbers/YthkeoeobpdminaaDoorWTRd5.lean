/-
  WALK: head, of a text whose names are one: A.
-/
import Derived.Test.YthkeoeobpdminaaDoorWTRd4
import Derived.Maps.OwnSet
namespace Go.Proofs.YthkeoeobpdminaaDoor
open Go.RowKit Go.Shelf Go.Maps
set_option linter.unusedVariables false
set_option linter.unusedSimpArgs false

theorem TR.kept {w w' : World} {g : Nat} {s : ByteArray} {at_ pl : Nat} {m nm rw : Value} (h : TR w g s at_ pl m nm rw) (hb : w'.heap[g]? = w.heap[g]?) : TR w' g s at_ pl m nm rw := ⟨hb.trans h.hb, h.sz, h.le⟩
theorem TR.below {w w' : World} {g : Nat} {s : ByteArray} {at_ pl : Nat} {m nm rw : Value} (h : TR w g s at_ pl m nm rw) (b : Below w.heap.size w w') : TR w' g s at_ pl m nm rw := h.kept (b.block g h.lt)
theorem TR.grown {w w' : World} {g : Nat} {s : ByteArray} {at_ pl : Nat} {m nm rw : Value} {r : Option Nat} (h : TR w g s at_ pl m nm rw) (b : w.grownBy w' r) (hr : some g ≠ r) : TR w' g s at_ pl m nm rw := h.kept (b.block g h.lt hr)
theorem TR.alloc {w : World} {g : Nat} {s : ByteArray} {at_ pl : Nat} {m nm rw : Value} (h : TR w g s at_ pl m nm rw) (o : Obj) : TR (w.alloc o) g s at_ pl m nm rw := h.kept (Below.heap_alloc _ _ _ h.lt)
theorem TR.setNm {w : World} {g : Nat} {s : ByteArray} {at_ pl : Nat} {m nm rw : Value} (h : TR w g s at_ pl m nm rw) (v : Value) : TR (w.setCell ⟨g, 4, none⟩ v) g s at_ pl m v rw := ⟨Joins.block_setCell h.hb _, h.sz, h.le⟩
theorem TR.setRw {w : World} {g : Nat} {s : ByteArray} {at_ pl : Nat} {m nm rw : Value} (h : TR w g s at_ pl m nm rw) (v : Value) : TR (w.setCell ⟨g, 5, none⟩ v) g s at_ pl m nm v := ⟨Joins.block_setCell h.hb _, h.sz, h.le⟩
theorem Gr.below {g B : Nat} {a b c : World} (h : Below B a b) (k : Gr g b c) (hg : B ≤ g) (hl : g < b.heap.size) : Below B a c := h.grown k (by omega) (fun i e => by injection e with e; omega)
theorem grow_of_below {a b : World} (h : Below a.heap.size a b) : a.grownBy b none := ⟨h.os, h.tape, h.output, h.size, fun k hk _ => h.block k hk⟩
theorem info9 : (Tryd.prog.info? 9).map (fun i => (i.zero, i.size, i.bytes)) = some (some (.string ⟨#[]⟩), 1, 16) := by kernel_rfl
theorem own_formS {w : World} {B n : Nat} {v : Value} {xs : List Value} (h : w.ownsRow B 9 1 v n xs) (hn : 0 < n) : ∃ g c, v = .slice (some ⟨g, 0, none⟩) n c ∧ B ≤ g ∧ g < w.heap.size := by
  rcases h.2 with ⟨_, h0⟩ | ⟨g, c, cur, rfl, hB, hg, _⟩
  · omega
  · exact ⟨g, c, rfl, hB, (Array.getElem?_eq_some_iff.1 hg).1⟩
/-- An append of one name to none. -/
theorem wp_name1 {ops : Array Oper} {rest : List Oper} {o : Oper} {a : Act} {Q : Exit → Act → World → Prop} (w : World) (f : ByteArray) (hgd : o.guard = none) (s x : Operand)
    (ho : o.op = .call { callee := .builtin .append, args := #[s, x], argTypes := #[22, 22] }) (hs : a.eval s = .slice none 0 0)
    (hx : a.eval x = .slice (some ⟨w.heap.size, 0, none⟩) 1 1)
    (h : ∀ g c w', w'.cell? ⟨g, 0, none⟩ = some (.string f) → w.heap.size ≤ g → g < w'.heap.size → w.grownBy w' none → wpList Tryd.prog ops Q rest (a.put o.dst (.slice (some ⟨g, 0, none⟩) 1 c)) w') :
    wpList Tryd.prog ops Q (o :: rest) a (w.alloc (.cells #[.string f] 9)) := by
  obtain ⟨i9, hi, hz0, hz1, hz2⟩ := info_parts info9
  refine wpList_append_own _ hgd s x 22 ho w.heap.size 9 i9 (.string ⟨#[]⟩) 1 16 Tryd.underlying22 hi hz0 hz1 hz2 rfl (by decide) (.slice none 0 0) 0 [] hs (World.ownsRow_nil _ _ _ _) ⟨w.heap.size, 0, none⟩ 1 1 [.string f] hx rfl ?_ ?_ (by unfold maxLen; omega) (by omega) (by simp) ?_
  · intro j u hj
    match j, hj with
    | 0, hj => simp at hj; subst hj; simp [Addr.add]
  · intro u hu; simp at hu; subst hu; rfl
  · intro v' w' h1 h2 _
    obtain ⟨g, c, rfl, hB, hl⟩ := own_formS h1 (by omega)
    refine h g c w' ?_ hB hl ⟨h2.os, h2.tape, h2.output, Nat.le_trans (by simp) h2.size, fun k hk _ => (h2.block k (by simp; omega) (by simp [Value.ownBlock])).trans (Below.heap_alloc _ _ _ hk)⟩
    have := h1.cells (g := g) rfl 0 (.string f) rfl
    simpa [Addr.add] using this
theorem zeroU (w : World) : (zeroValue 84).run Tryd.prog w = .ok (.agg #[]) w := by kernel_rfl
abbrev MapOwn (w : World) (mb n : Nat) (D : DataW Unit) : Prop := w.ownsMap Tryd.prog 9 unitElem mb n D
def lenS (t : Value) : Nat := match t with | .string s => s.size | _ => 0
/-- What lies behind head. -/
structure HD (w0 W : World) (B g mb : Nat) (s : ByteArray) (rw : Value) (x c : Nat) : Prop where
  tr : TR W g s 5 5 (.map (some mb)) (.slice (some ⟨x, 0, none⟩) 1 c) rw
  nm : W.cell? ⟨x, 0, none⟩ = some (.string ⟨#[65]⟩)
  xl : B ≤ x ∧ x < W.heap.size ∧ x ≠ g
  bel : Below B w0 W
set_option maxRecDepth 100000 in
set_option maxHeartbeats 4000000 in
theorem head_A (g mb B : Nat) (s : ByteArray) (pl : Nat) (rw : Value) (w0 w : World) (h : TR w g s 3 pl (.map (some mb)) (.slice none 0 0) rw) (ho : MapOwn w mb 0 (.map [])) (hne : mb ≠ g) (hg : B ≤ g) (hm : B ≤ mb) (hb : Below B w0 w)
    (w1 : ∀ m nm rw pl W, TR W g s 3 pl m nm rw → Calls Tryd.prog 35 #[.pointer (some ⟨g, 0, none⟩)] W fun e w' => e = .returned (.string ⟨#[65]⟩) ∧ TR w' g s 5 4 m nm rw ∧ Gr g W w')
    (w2 : ∀ m nm rw pl W, TR W g s 5 pl m nm rw → Calls Tryd.prog 35 #[.pointer (some ⟨g, 0, none⟩)] W fun e w' => e = .returned (.string ⟨#[]⟩) ∧ TR w' g s 5 5 m nm rw ∧ Gr g W w') :
    Calls Tryd.prog 37 #[.pointer (some ⟨g, 0, none⟩), .string ⟨#[100, 97, 121]⟩] w fun e w' => e = .returned (.int .i64 0) ∧ ∃ x c, HD w0 w' B g mb s rw x c := by
  have K1 := Lib.hid (w1 _ _ _ _ _ h)
  have K2 := Lib.hid w2
  have HO := Lib.hid ho
  have HB := Lib.hid hb
  have L0 := Lib.hid h.lt
  have KC := Lib.hid (fun W => isCapName_any ⟨#[65]⟩ W (by decide))
  rw [show nameB ⟨#[65]⟩ = true by decide] at KC
  have KL := Lib.hid (fun W => clone_A W)
  have zU := Lib.hid zeroU
  have kS : keyOf Tryd.prog 9 (.string ⟨#[65]⟩) = some (litS ⟨#[65]⟩) := keyS (by decide)
  obtain ⟨i9, hi, hz0, hz1, hz2⟩ := info_parts info9
  clear h ho hb w1 w2
  go_enter Tryd.func37, Tryd.ntmps37
  go_wp2_with (go_at_call 35; refine K1.out.mono ?_; rintro e w1 ⟨rfl, h1, h2⟩; have T1 := Lib.hid h1; have G1 := Lib.hid h2; clear h1 h2)
  go_loopw [5] (fun t wr => (t = .string ⟨#[65]⟩ ∧ wr = w1) ∨ (t = .string ⟨#[]⟩ ∧ ∃ x c, HD w0 wr B g mb s rw x c)) (fun t _ => lenS t)
  case atStart => exact .inl ⟨rfl, rfl⟩
  case round =>
    rcases hrel with ⟨rfl, rfl⟩ | ⟨rfl, hH⟩
    · rename World => w1
      obtain ⟨h0, h1, h2, h3, h4, h5⟩ := T1.out.c
      have M1 := Lib.hid (p := MapOwn w1 mb 0 (.map [])) (HO.out.kept G1.out (by simpa using hne))
      have L1 := Lib.hid T1.out.lt
      have B1 := Lib.hid (Gr.below HB.out G1.out hg (Nat.lt_of_lt_of_le L0.out (Nat.le_refl _)))
      go_wp2_with (first
        | (at_len; refine wpList_len_own _ rfl _ 58 rfl 9 84 Tryd.underlying58 _ mb 0 _ rfl M1.out ?_)
        | (at_lookup; refine wpList_lookup_own_unit _ rfl _ _ 58 rfl 9 84 lawS Tryd.underlying58 (zU.out _) mb 0 _ rfl M1.out _ _ rfl kS ?_)
        | (go_at_call 41; refine (KC.out _).mono ?_; rintro e w' ⟨rfl, rfl⟩)
        | (go_at_call 57; refine (KL.out _).mono ?_; rintro e w3 ⟨rfl, hb3⟩; have T3 := Lib.hid ((T1.out.alloc _).below hb3); have M3 := Lib.hid (p := MapOwn w3 mb 0 (.map [])) ((M1.out.alloc _).kept (grow_of_below hb3) (by simp)); have B3 := Lib.hid ((B1.out.alloc (Nat.le_trans hg (Nat.le_of_lt L1.out)) _).trans (hb3.mono (Nat.le_trans hg (Nat.le_of_lt (Nat.lt_of_lt_of_le L1.out (by simp)))))); obtain ⟨d0, d1, d2, d3, d4, d5⟩ := T3.out.c; clear hb3)
        | (at_mapUpdate; refine wpList_mapUpdate_own _ rfl _ _ _ 58 rfl 9 84 lawS Tryd.underlying58 _ mb 0 _ rfl M3.out (by unfold maxLen; omega) _ _ _ rfl rfl kS _ [] unitElem_mk ?_; intro w4 hm4 hg4; have T4 := Lib.hid (T3.out.grown hg4 (by simpa using Ne.symm hne)); have B4 := Lib.hid (B3.out.grown hg4 (Nat.le_trans hg (Nat.le_of_lt T3.out.lt)) (fun k e => by injection e with e; omega)); obtain ⟨f0, f1, f2, f3, f4, f5⟩ := T4.out.c; clear hm4 hg4)
        | (at_builtin; refine wp_name1 _ _ rfl _ _ rfl rfl rfl ?_; intro x c w5 hc hx1 hx2 hg5; have T5 := Lib.hid (T4.out.grown hg5 (by simp)); have B5 := Lib.hid (B4.out.grown hg5 (Nat.le_trans hg (Nat.le_of_lt T4.out.lt)) (fun k e => by cases e)); have XC := Lib.hid hc; have XL := Lib.hid (p := B ≤ x ∧ x < w5.heap.size ∧ x ≠ g) ⟨by have := T4.out.lt; omega, hx2, by have := T4.out.lt; omega⟩; have z4 := T5.out.f 4; have q4 := T5.out.c.2.2.2.2.1; clear hc hx1 hx2 hg5)
        | (go_at_call 35; refine (K2.out _ _ _ _ _ (T5.out.setNm (.slice (some ⟨x, 0, none⟩) 1 c))).mono ?_; rintro e w6 ⟨rfl, t6, g6⟩; have T6 := Lib.hid t6; have G6 := Lib.hid g6; clear t6 g6))
      go_roundw
      case rel =>
        refine .inr ⟨rfl, x, c, T6.out, ?_, ⟨XL.out.1, Nat.lt_of_lt_of_le XL.out.2.1 (Nat.le_trans (by simp) G6.out.size), XL.out.2.2⟩, ?_⟩
        · refine G6.out.cell (a := ⟨x, 0, none⟩) ?_ (by simpa using XL.out.2.2)
          rw [World.cell?_setCell_other _ _ _ _ (by simp)]
          exact XC.out
        · refine Gr.below (B5.out.setCell (p := ⟨g, 4, none⟩) hg _) G6.out hg ?_
          have := T5.out.lt
          simpa using this
      case measure => decide
    · have HH := Lib.hid hH
      clear hH
      go_wp2
      go_ret
      exact ⟨rfl, HH.out⟩
end Go.Proofs.YthkeoeobpdminaaDoor
