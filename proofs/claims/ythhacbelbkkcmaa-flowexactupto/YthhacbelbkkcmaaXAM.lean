import Derived.Test.YthhacbelbkkcmaaXAK
import Derived.Test.YthhacbelbkkcmaaXAA
namespace Go.Proofs.Ythhacbelbkkcmaa
open Go.RowKit
set_option linter.unusedVariables false
set_option linter.unusedSimpArgs false

/-- A line from a place on: the flow and the place behind it, or the place of what cannot stand there. -/
def LineS (s : ByteArray) (at_ k : Nat) (r : Option Fl) : Prop :=
  ∃ k1 d wh1, ND s at_ 1073741824 k1 d wh1 ∧
    (((wh1 = false ∨ at8 s k1 ≠ 32) ∧ k = k1 ∧ r = none) ∨
     (wh1 = true ∧ at8 s k1 = 32 ∧ ∃ k2 wh2, CurS s (k1 + 1) k2 wh2 ∧
       (((wh2 = false ∨ at8 s k2 ≠ 32) ∧ k = k2 ∧ r = none) ∨
        (wh2 = true ∧ at8 s k2 = 32 ∧ ∃ k3 m wh3, SN s (k2 + 1) k3 m wh3 ∧
          (((wh3 = false ∨ at8 s k3 ≠ 10) ∧ k = k3 ∧ r = none) ∨
           (wh3 = true ∧ at8 s k3 = 10 ∧ k = k3 + 1 ∧ r = some ⟨d, s.extract (k1 + 1) (k1 + 4), m⟩))))))
theorem line_one {s : ByteArray} {at_ k k' : Nat} {r r' : Option Fl} (h : LineS s at_ k r) (h' : LineS s at_ k' r') : k = k' ∧ r = r' := by
  obtain ⟨k1, d, wh1, n1, h⟩ := h
  obtain ⟨k1', d', wh1', n1', h'⟩ := h'
  obtain ⟨rfl, rfl, rfl⟩ := nd_one n1 n1'
  rcases h with ⟨a, b, c⟩ | ⟨a, a2, k2, wh2, n2, h⟩ <;> rcases h' with ⟨a', b', c'⟩ | ⟨a', a2', k2', wh2', n2', h'⟩
  · exact ⟨by omega, by rw [c, c']⟩
  · rcases a with a | a
    · rw [a] at a'; cases a'
    · exact absurd a2' a
  · rcases a' with a' | a'
    · rw [a] at a'; cases a'
    · exact absurd a2 a'
  · obtain ⟨rfl, rfl⟩ := cur_one n2 n2'
    rcases h with ⟨e, b, c⟩ | ⟨e, e2, k3, m, wh3, n3, h⟩ <;> rcases h' with ⟨e', b', c'⟩ | ⟨e', e2', k3', m', wh3', n3', h'⟩
    · exact ⟨by omega, by rw [c, c']⟩
    · rcases e with e | e
      · rw [e] at e'; cases e'
      · exact absurd e2' e
    · rcases e' with e' | e'
      · rw [e] at e'; cases e'
      · exact absurd e2 e'
    · obtain ⟨rfl, rfl, rfl⟩ := sn_one n3 n3'
      rcases h with ⟨f, b, c⟩ | ⟨f, f2, b, c⟩ <;> rcases h' with ⟨f', b', c'⟩ | ⟨f', f2', b', c'⟩
      · exact ⟨by omega, by rw [c, c']⟩
      · rcases f with f | f
        · rw [f] at f'; cases f'
        · exact absurd f2' f
      · rcases f' with f' | f'
        · rw [f] at f'; cases f'
        · exact absurd f2 f'
      · exact ⟨by omega, by rw [c, c']⟩

/-- The box of a flow that is answered. -/
theorem pass_any (g : Nat) (s : ByteArray) (at_ : Nat) (c : Int) (c0 : 0 < c) (w : World) (h : RD w g s at_) :
    Calls Try.prog 52 #[.pointer (some ⟨g, 0, none⟩), .int .u8 c] w fun e w' => ∃ b : Bool, e = .returned (.bool b) ∧ RowKit.Hid (b = decide (at8 s at_ = c)) ∧ RD w' g s (if b then at_ + 1 else at_) ∧ Gr g w w' := by
  by_cases hc : at8 s at_ = c
  · refine (pass_yes g s at_ c c0 w h hc).mono ?_
    rintro e w' ⟨rfl, h1, h2⟩
    exact ⟨true, rfl, (decide_eq_true hc).symm, h1, h2⟩
  · refine (pass_no g s at_ c c0 w h hc).mono ?_
    rintro e w' ⟨rfl, h1, h2⟩
    exact ⟨false, rfl, (decide_eq_false hc).symm, h1, h2⟩

def BoxF (w W : World) : Prop := W.heap[w.heap.size]? = some (.cells #[.int .i64 0, .string ⟨#[]⟩, .int .i64 0] 40 (0, 0))
theorem boxF_new (w : World) : BoxF w (w.alloc (.cells #[.int .i64 0, .string ⟨#[]⟩, .int .i64 0] 40)) := by
  unfold BoxF
  show (w.heap.push _)[w.heap.size]? = _
  simp
theorem boxF_gr {w W W' : World} {g : Nat} (h : BoxF w W) (hg : Gr g W W') (hn : g < w.heap.size) : BoxF w W' := (hg.block _ (Array.getElem?_eq_some_iff.1 h).1 (fun e => by injection e with e; omega)).trans h
theorem boxF_cells {w W : World} (h : BoxF w W) : W.cell? ⟨w.heap.size, 0, none⟩ = some (.int .i64 0) ∧ W.cell? ⟨w.heap.size, 1, none⟩ = some (.string ⟨#[]⟩) ∧ W.cell? ⟨w.heap.size, 2, none⟩ = some (.int .i64 0) ∧
    W.frozen? ⟨w.heap.size, 0, none⟩ = false ∧ W.frozen? ⟨w.heap.size, 1, none⟩ = false ∧ W.frozen? ⟨w.heap.size, 2, none⟩ = false := by
  unfold BoxF at h
  refine ⟨?_, ?_, ?_, ?_, ?_, ?_⟩ <;> simp [World.cell?, World.frozen?, h]
theorem RD.below {w w' : World} {g : Nat} {s : ByteArray} {at_ : Nat} (h : RD w g s at_) (b : Below w.heap.size w w') : RD w' g s at_ :=
  ⟨(b.cell (p := ⟨g, 0, none⟩) h.lt).trans h.t, (b.cell (p := ⟨g, 1, none⟩) h.lt).trans h.a, (b.frozen (p := ⟨g, 1, none⟩) h.lt).trans h.f, Nat.lt_of_lt_of_le h.lt b.size, h.sz, h.le⟩
theorem Gr.new {g : Nat} {w W : World} (hw : Gr g (w.alloc (.cells #[.int .i64 0, .string ⟨#[]⟩, .int .i64 0] 40)) W) : Gr g w W :=
  ⟨hw.os, hw.tape, hw.output, Nat.le_trans (by simp) hw.size, fun k hk hn => (hw.block k (by simp; omega) hn).trans (Below.heap_alloc w _ k hk)⟩
theorem set_other {W : World} {k : Nat} (p : Addr) (hp : p.block ≠ k) (v : Value) : (W.setCell p v).heap[k]? = W.heap[k]? := by
  have hp' : ¬ p.block = k := hp
  simp [World.setCell, Array.getElem?_modify, hp']
theorem Gr.set3 {g : Nat} {w W : World} {a b c : Value} (hw : Gr g (w.alloc (.cells #[.int .i64 0, .string ⟨#[]⟩, .int .i64 0] 40)) W) :
    Gr g w (((W.setCell ⟨w.heap.size, 0, none⟩ a).setCell ⟨w.heap.size, 1, none⟩ b).setCell ⟨w.heap.size, 2, none⟩ c) := by
  have h := hw.new
  refine ⟨h.os, h.tape, h.output, by simpa using h.size, fun k hk hn => ?_⟩
  rw [set_other _ (by simp; omega), set_other _ (by simp; omega), set_other _ (by simp; omega)]
  exact h.block k hk hn
theorem RD.set3 {w W : World} {g : Nat} {s : ByteArray} {at_ : Nat} {a b c : Value} (h : RD W g s at_) (hn : g < w.heap.size) : RD (((W.setCell ⟨w.heap.size, 0, none⟩ a).setCell ⟨w.heap.size, 1, none⟩ b).setCell ⟨w.heap.size, 2, none⟩ c) g s at_ := by
  refine ⟨?_, ?_, ?_, by simpa using h.lt, h.sz, h.le⟩
  · rw [World.cell?_setCell_other _ _ _ _ (by first | (simp; done) | (simp; omega)), World.cell?_setCell_other _ _ _ _ (by first | (simp; done) | (simp; omega)), World.cell?_setCell_other _ _ _ _ (by first | (simp; done) | (simp; omega))]; exact h.t
  · rw [World.cell?_setCell_other _ _ _ _ (by first | (simp; done) | (simp; omega)), World.cell?_setCell_other _ _ _ _ (by first | (simp; done) | (simp; omega)), World.cell?_setCell_other _ _ _ _ (by first | (simp; done) | (simp; omega))]; exact h.a
  · rw [World.frozen?_setCell, World.frozen?_setCell, World.frozen?_setCell]; exact h.f

/-- How line ends. -/
def LineE (r : Option Fl) (e : Ending) : Prop := (r = none ∧ e = .returned (.tuple #[.agg #[.int .i64 0, .string ⟨#[]⟩, .int .i64 0], .bool false])) ∨ (∃ f, r = some f ∧ e = .returned (.tuple #[.agg #[.int .i64 f.d, .string f.c, .int .i64 f.a], .bool true]))

set_option maxRecDepth 100000 in
set_option maxHeartbeats 4000000 in
theorem line_any (g : Nat) (s : ByteArray) (at_ : Nat) (w : World) (h : RD w g s at_) :
    Calls Try.prog 39 #[.pointer (some ⟨g, 0, none⟩)] w fun e w' => ∃ k r, LineS s at_ k r ∧ LineE r e ∧ RD w' g s k ∧ Gr g w w' := by
  have GN := Lib.hid h.lt
  have BX := Lib.hid (boxF_new w)
  have R0 := Lib.hid (h.below ((Below.refl _ _).alloc (Nat.le_refl _) (.cells #[.int .i64 0, .string ⟨#[]⟩, .int .i64 0] 40)))
  have KD := Lib.hid (digits_any g s at_ 1073741824 (by omega) (by omega) _ R0.out)
  simp only [Int.cast_ofNat_Int] at KD
  clear h
  go_enter Try.func39, Try.ntmps39
  go_wp2_with fail
  refine KD.out.mono ?_
  rintro e w1 ⟨k1, hd, hr1, hg1⟩
  obtain ⟨v1, ok1, rfl, HT1⟩ := dig_told (by omega) hd
  have R1 := Lib.hid hr1
  have G1 := Lib.hid hg1
  clear hd hr1 hg1
  cases ok1 with
  | false =>
    have L1 := Lib.hid (p := LineS s at_ k1 none) (by
      obtain ⟨_, _, n, wh, hn, ht⟩ := HT1.out
      refine ⟨k1, n, wh, hn, .inl ⟨?_, rfl, rfl⟩⟩
      rcases ht with ⟨a, _⟩ | ⟨_, a | a⟩
      · cases a
      · exact .inl a
      · exact .inr (by unfold isD at a; omega))
    obtain ⟨y0, y1, y2, y3, y4, y5⟩ := boxF_cells (boxF_gr BX.out G1.out GN.out)
    go_wp2
    exact bodyPost_ret (v := .tuple #[.agg #[.int .i64 0, .string ⟨#[]⟩, .int .i64 0], .bool false]) (by simp [results, Try.results39, go_sem, y0, y1, y2]) rfl ⟨k1, none, L1.out, .inl ⟨rfl, rfl⟩, RD.set3 R1.out GN.out, Gr.set3 G1.out⟩
  | true =>
    obtain ⟨q0, q1, n1, hn1, hv1⟩ : 0 ≤ v1 ∧ v1 ≤ 1073741824 ∧ ∃ n, ND s at_ 1073741824 k1 n true ∧ v1 = n := by
      obtain ⟨a, b, n, wh, hn, ht⟩ := HT1.out
      rcases ht with ⟨_, c, d⟩ | ⟨c, _⟩
      · subst c; exact ⟨a, b, n, hn, d⟩
      · cases c
    have N1 := Lib.hid hn1
    have V1 := Lib.hid hv1
    have vw := pos_wrap q0 (by omega)
    clear hn1 hv1
    have K1 := Lib.hid (pass_any g s k1 32 (by omega) w1 R1.out)
    go_wp2_with fail
    refine K1.out.mono ?_
    rintro e w2 ⟨b1, rfl, hb1, hr2, hg2⟩
    have G2 := Lib.hid (G1.out.trans hg2)
    clear hg2
    cases b1 with
    | false =>
      have R2 := Lib.hid (show RD w2 g s k1 from hr2)
      clear hr2
      have L1 := Lib.hid (p := LineS s at_ k1 none) ⟨k1, n1, true, N1.out, .inl ⟨.inr (of_decide_eq_false hb1.out.symm), rfl, rfl⟩⟩
      obtain ⟨y0, y1, y2, y3, y4, y5⟩ := boxF_cells (boxF_gr BX.out G2.out GN.out)
      go_wp2
      exact bodyPost_ret (v := .tuple #[.agg #[.int .i64 0, .string ⟨#[]⟩, .int .i64 0], .bool false]) (by simp [results, Try.results39, go_sem, y0, y1, y2]) rfl ⟨k1, none, L1.out, .inl ⟨rfl, rfl⟩, RD.set3 R2.out GN.out, Gr.set3 G2.out⟩
    | true =>
      have R2 := Lib.hid (show RD w2 g s (k1 + 1) from hr2)
      have C1 := Lib.hid (of_decide_eq_true hb1.out.symm)
      clear hr2 hb1
      have K2 := Lib.hid (currency_any g s (k1 + 1) w2 R2.out)
      go_wp2_with fail
      refine K2.out.mono ?_
      rintro e w3 ⟨k2, c, ok2, rfl, HC, hr3, hg3⟩
      have R3 := Lib.hid hr3
      have G3 := Lib.hid (G2.out.trans hg3)
      clear hr3 hg3
      cases ok2 with
      | false =>
        have L1 := Lib.hid (p := LineS s at_ k2 none) ⟨k1, n1, true, N1.out, .inr ⟨rfl, C1.out, k2, false, HC.out.1, .inl ⟨.inl rfl, rfl, rfl⟩⟩⟩
        obtain ⟨y0, y1, y2, y3, y4, y5⟩ := boxF_cells (boxF_gr BX.out G3.out GN.out)
        go_wp2
        exact bodyPost_ret (v := .tuple #[.agg #[.int .i64 0, .string ⟨#[]⟩, .int .i64 0], .bool false]) (by simp [results, Try.results39, go_sem, y0, y1, y2]) rfl ⟨k2, none, L1.out, .inl ⟨rfl, rfl⟩, RD.set3 R3.out GN.out, Gr.set3 G3.out⟩
      | true =>
        have EC := Lib.hid (HC.out.2 rfl)
        have K3 := Lib.hid (pass_any g s k2 32 (by omega) w3 R3.out)
        go_wp2_with fail
        refine K3.out.mono ?_
        rintro e w4 ⟨b2, rfl, hb2, hr4, hg4⟩
        have G4 := Lib.hid (G3.out.trans hg4)
        clear hg4
        cases b2 with
        | false =>
          have R4 := Lib.hid (show RD w4 g s k2 from hr4)
          clear hr4
          have L1 := Lib.hid (p := LineS s at_ k2 none) ⟨k1, n1, true, N1.out, .inr ⟨rfl, C1.out, k2, true, HC.out.1, .inl ⟨.inr (of_decide_eq_false hb2.out.symm), rfl, rfl⟩⟩⟩
          obtain ⟨y0, y1, y2, y3, y4, y5⟩ := boxF_cells (boxF_gr BX.out G4.out GN.out)
          go_wp2
          exact bodyPost_ret (v := .tuple #[.agg #[.int .i64 0, .string ⟨#[]⟩, .int .i64 0], .bool false]) (by simp [results, Try.results39, go_sem, y0, y1, y2]) rfl ⟨k2, none, L1.out, .inl ⟨rfl, rfl⟩, RD.set3 R4.out GN.out, Gr.set3 G4.out⟩
        | true =>
          have R4 := Lib.hid (show RD w4 g s (k2 + 1) from hr4)
          have C2 := Lib.hid (of_decide_eq_true hb2.out.symm)
          clear hr4 hb2
          have K4 := Lib.hid (amount_any g s (k2 + 1) w4 R4.out)
          go_wp2_with fail
          refine K4.out.mono ?_
          rintro e w5 ⟨k3, v3, ok3, rfl, HS, hr5, hg5⟩
          have R5 := Lib.hid hr5
          have G5 := Lib.hid (G4.out.trans hg5)
          clear hr5 hg5
          cases ok3 with
          | false =>
            have L1 := Lib.hid (p := LineS s at_ k3 none) (by
              obtain ⟨m, wh, hn, ht⟩ := HS.out
              refine ⟨k1, n1, true, N1.out, .inr ⟨rfl, C1.out, k2, true, HC.out.1, .inr ⟨rfl, C2.out, k3, m, wh, hn, .inl ⟨?_, rfl, rfl⟩⟩⟩⟩
              rcases ht with ⟨a, _⟩ | ⟨_, a | a⟩
              · cases a
              · exact .inl a
              · exact .inr (by unfold isD at a; omega))
            obtain ⟨y0, y1, y2, y3, y4, y5⟩ := boxF_cells (boxF_gr BX.out G5.out GN.out)
            go_wp2
            exact bodyPost_ret (v := .tuple #[.agg #[.int .i64 0, .string ⟨#[]⟩, .int .i64 0], .bool false]) (by simp [results, Try.results39, go_sem, y0, y1, y2]) rfl ⟨k3, none, L1.out, .inl ⟨rfl, rfl⟩, RD.set3 R5.out GN.out, Gr.set3 G5.out⟩
          | true =>
            have S3 := Lib.hid (p := SN s (k2 + 1) k3 v3 true) (by
              obtain ⟨m, wh, hn, ht⟩ := HS.out
              rcases ht with ⟨_, a, b⟩ | ⟨a, _⟩
              · subst a b; exact hn
              · cases a)
            have K5 := Lib.hid (pass_any g s k3 10 (by omega) w5 R5.out)
            go_wp2_with fail
            refine K5.out.mono ?_
            rintro e w6 ⟨b3, rfl, hb3, hr6, hg6⟩
            have G6 := Lib.hid (G5.out.trans hg6)
            clear hg6
            cases b3 with
            | false =>
              have R6 := Lib.hid (show RD w6 g s k3 from hr6)
              clear hr6
              have L1 := Lib.hid (p := LineS s at_ k3 none) ⟨k1, n1, true, N1.out, .inr ⟨rfl, C1.out, k2, true, HC.out.1, .inr ⟨rfl, C2.out, k3, v3, true, S3.out, .inl ⟨.inr (of_decide_eq_false hb3.out.symm), rfl, rfl⟩⟩⟩⟩
              obtain ⟨y0, y1, y2, y3, y4, y5⟩ := boxF_cells (boxF_gr BX.out G6.out GN.out)
              go_wp2
              exact bodyPost_ret (v := .tuple #[.agg #[.int .i64 0, .string ⟨#[]⟩, .int .i64 0], .bool false]) (by simp [results, Try.results39, go_sem, y0, y1, y2]) rfl ⟨k3, none, L1.out, .inl ⟨rfl, rfl⟩, RD.set3 R6.out GN.out, Gr.set3 G6.out⟩
            | true =>
              have R6 := Lib.hid (show RD w6 g s (k3 + 1) from hr6)
              have C3 := Lib.hid (of_decide_eq_true hb3.out.symm)
              clear hr6 hb3
              have L1 := Lib.hid (p := LineS s at_ (k3 + 1) (some ⟨v1, c, v3⟩)) (by
                refine ⟨k1, n1, true, N1.out, .inr ⟨rfl, C1.out, k2, true, HC.out.1, .inr ⟨rfl, C2.out, k3, v3, true, S3.out, .inr ⟨rfl, C3.out, rfl, ?_⟩⟩⟩⟩
                rw [V1.out, EC.out])
              obtain ⟨y0, y1, y2, y3, y4, y5⟩ := boxF_cells (boxF_gr BX.out G6.out GN.out)
              go_wp2
              exact bodyPost_ret (v := .tuple #[.agg #[.int .i64 v1, .string c, .int .i64 v3], .bool true]) (by simp [results, Try.results39, go_sem, y0, y1, y2]) rfl ⟨k3 + 1, _, L1.out, .inr ⟨_, rfl, rfl⟩, RD.set3 R6.out GN.out, Gr.set3 G6.out⟩
end Go.Proofs.Ythhacbelbkkcmaa

namespace Go.Proofs.Ythhacbelbkkcmaa
open Go.RowKit
set_option linter.unusedVariables false
set_option linter.unusedSimpArgs false

/-- Line by line, as far as it goes: the flows, the place, the error. -/
inductive Run (s : ByteArray) : Nat → List Fl → List Fl → Nat → Int → Prop
  | stop {at_ : Nat} {fs : List Fl} (h : ¬ at_ < s.size) : Run s at_ fs fs 0 0
  | bad {at_ k : Nat} {fs : List Fl} (h : at_ < s.size) (l : LineS s at_ k none) : Run s at_ fs [] k 31
  | step {at_ k p : Nat} {fs gs : List Fl} {f : Fl} {e : Int} (h : at_ < s.size) (l : LineS s at_ k (some f)) (r : Run s k (fs ++ [f]) gs p e) : Run s at_ fs gs p e
theorem run_one {s : ByteArray} {at_ p p' : Nat} {fs gs gs' : List Fl} {e e' : Int} (h : Run s at_ fs gs p e) (h' : Run s at_ fs gs' p' e') : gs = gs' ∧ p = p' ∧ e = e' := by
  induction h with
  | stop h => cases h' with
    | stop _ => exact ⟨rfl, rfl, rfl⟩
    | bad k _ => exact absurd k h
    | step k _ _ => exact absurd k h
  | bad h l => cases h' with
    | stop k => exact absurd h k
    | bad _ l' => obtain ⟨rfl, _⟩ := line_one l l'; exact ⟨rfl, rfl, rfl⟩
    | step _ l' _ => have := (line_one l l').2; cases this
  | step h l r ih => cases h' with
    | stop k => exact absurd h k
    | bad _ l' => have := (line_one l l').2; cases this
    | step _ l' r' =>
      obtain ⟨rfl, e⟩ := line_one l l'
      cases e
      exact ih r'
theorem nd_le {s : ByteArray} {at_ lim k n : Nat} {wh : Bool} (h : ND s at_ lim k n wh) : at_ ≤ k := by
  rcases h with ⟨_, h, _⟩ | ⟨_, j, _, h, _⟩ <;> omega
theorem line_lt {s : ByteArray} {at_ k : Nat} {f : Fl} (h : LineS s at_ k (some f)) : at_ + 3 ≤ k := by
  obtain ⟨k1, d, wh1, n1, h⟩ := h
  have a1 := nd_le n1
  rcases h with ⟨_, _, c⟩ | ⟨_, _, k2, wh2, n2, h⟩
  · cases c
  obtain ⟨j, _, a2, _⟩ := n2
  rcases h with ⟨_, _, c⟩ | ⟨_, _, k3, m, wh3, n3, h⟩
  · cases c
  have a3 : k2 + 1 ≤ k3 := by
    rcases n3 with ⟨_, n, b, _⟩ | ⟨_, _, b, _⟩ | ⟨_, _, n, b, _⟩
    · exact nd_le b
    · omega
    · have := nd_le b; omega
  rcases h with ⟨_, _, c⟩ | ⟨_, _, b, _⟩
  · cases c
  · omega

theorem RD.grown {w w' : World} {g : Nat} {s : ByteArray} {at_ : Nat} {row : Option Nat} (h : RD w g s at_) (hg : w.grownBy w' row) (hn : row ≠ some g) : RD w' g s at_ := by
  have hb := hg.block g h.lt (fun e => hn e.symm)
  exact ⟨by rw [World.cell?_of_block (a := ⟨g, 0, none⟩) hb]; exact h.t, by rw [World.cell?_of_block (a := ⟨g, 1, none⟩) hb]; exact h.a, by rw [World.frozen?_of_block (a := ⟨g, 1, none⟩) hb]; exact h.f, Nat.lt_of_lt_of_le h.lt hg.size, h.sz, h.le⟩
theorem rd_new (w : World) (s : ByteArray) (hs : s.size ≤ 1048576) : RD (w.alloc (.cells #[.string s, .int .i64 0] 77)) w.heap.size s 0 :=
  ⟨by go_simp, by go_simp, by go_simp, by simp, hs, by omega⟩
theorem Gr.below {g B : Nat} {a b c : World} (h : Below B a b) (k : Gr g b c) (hg : B ≤ g) (hs : B ≤ b.heap.size) : Below B a c := h.grown k hs (fun i e => by cases e; exact hg)

theorem own_base {w : World} {B B' e s n : Nat} {v : Value} {xs : List Value} (h : w.ownsRow B e s v n xs) (hb : B' ≤ B) : w.ownsRow B' e s v n xs := by
  obtain ⟨h1, h2⟩ := h
  refine ⟨h1, ?_⟩
  rcases h2 with h2 | ⟨g, cap, cur, rfl, hB, r⟩
  · exact .inl h2
  · exact .inr ⟨g, cap, cur, rfl, Nat.le_trans hb hB, r⟩
theorem below_dn {B : Nat} {a w : World} (h : Below B a w) (n : Nat) : Below B a (w.drewN n) := ⟨h.os, h.tape, h.output, h.size, h.block⟩
/-- What Parse answers. -/
def ParE (s : ByteArray) (B : Nat) (w' : World) (e : Ending) : Prop := ∃ (v : Value) (gs : List Fl) (p : Nat) (er : Int), e = .returned (.tuple #[v, .int .i64 (p : Int), .int .i64 er]) ∧ gs.length ≤ 1048576 ∧ w'.ownsRow B 40 3 v gs.length (fcs gs) ∧
  ((1048576 < s.size ∧ gs = [] ∧ p = 0 ∧ er = 6) ∨ (s.size ≤ 1048576 ∧ Run s 0 [] gs p er))

set_option maxRecDepth 100000 in
set_option maxHeartbeats 4000000 in
theorem parse_any (s : ByteArray) (w : World) (hs : s.size ≤ maxLen) :
    Calls Try.prog 22 #[.string s] w fun e w' => ParE s w.heap.size w' e ∧ Below w.heap.size w w' := by
  by_cases hl : 1048576 < s.size
  · have hc : (1048576 : Int) < (s.size : Int) := by omega
    go_enter Try.func22, Try.ntmps22
    go_wp2
    exact bodyPost_ret (v := .tuple #[.slice none 0 0, .int .i64 0, .int .i64 6]) (by simp [results, Try.results22, go_sem]) rfl ⟨⟨_, [], 0, 6, rfl, by simp, ⟨rfl, .inl ⟨rfl, rfl⟩⟩, .inl ⟨hl, rfl, rfl, rfl⟩⟩, Below.refl _ _⟩
  · have hc : ¬ (1048576 : Int) < (s.size : Int) := by omega
    have hz : s.size ≤ 1048576 := by omega
    have R0 := Lib.hid (rd_new w s hz)
    go_enter Try.func22, Try.ntmps22
    go_wp2
    go_loopw [5] (fun v wr => ∃ (at_ : Nat) (fs : List Fl), fs.length ≤ at_ ∧ RD wr w.heap.size s at_ ∧ RowKit.Hid (∀ gs p e, Run s at_ fs gs p e → Run s 0 [] gs p e) ∧ Below w.heap.size w wr ∧ wr.ownsRow (w.heap.size + 1) 40 3 v fs.length (fcs fs)) (fun v wr => s.size - posOf w.heap.size wr)
    case atStart => exact ⟨0, [], by simp, R0.out, fun _ _ _ h => h, (Below.refl _ _).alloc (Nat.le_refl _) _, rfl, .inl ⟨rfl, rfl⟩⟩
    case round =>
      obtain ⟨at_, fs, fl, hr, HRun, hB, hO⟩ := hrel
      have RR := Lib.hid hr
      have BB := Lib.hid hB
      have OO := Lib.hid hO
      have PS := Lib.hid hr.pos
      have SZ := Lib.hid (show w.heap.size + 1 ≤ wr.heap.size from hr.lt)
      obtain ⟨h1, h2, h3, h4, h5, h6⟩ := hr
      clear hB hO
      by_cases hk : at_ < s.size
      · have kc : (at_ : Int) < (s.size : Int) := by omega
        have KL := Lib.hid (line_any w.heap.size s at_ wr RR.out)
        go_wp2_with fail
        refine KL.out.mono ?_
        rintro e w1 ⟨k, r, hL, hE, hr1, hg1⟩
        have R1 := Lib.hid hr1
        have G1 := Lib.hid hg1
        have LL := Lib.hid hL
        clear h1 h2 h3 h4 h5 h6
        obtain ⟨h1, h2, h3, h4, h5, h6⟩ := hr1
        clear hg1 hL
        rcases hE with ⟨rfl, rfl⟩ | ⟨f, rfl, rfl⟩
        · have RES := Lib.hid (HRun.out _ _ _ (Run.bad hk LL.out))
          have B1 := Lib.hid (Gr.below BB.out G1.out (Nat.le_refl _) (Nat.le_trans (Nat.le_succ _) SZ.out))
          go_wp2
          go_quiet (fail)
          go_wp2
          exact bodyPost_ret (v := .tuple #[.slice none 0 0, .int .i64 (k : Int), .int .i64 31]) (by simp [results, Try.results22, go_sem]) rfl ⟨⟨_, [], k, 31, rfl, by simp, ⟨rfl, .inl ⟨rfl, rfl⟩⟩, .inr ⟨hz, RES.out⟩⟩, below_dn (B1.out.alloc B1.out.size _) _⟩
        · obtain ⟨fd, fc, fa⟩ := f
          have lt := line_lt LL.out
          have ST := Lib.hid (p := ∀ gs p e, Run s k (fs ++ [⟨fd, fc, fa⟩]) gs p e → Run s 0 [] gs p e) (fun gs p e r => HRun.out gs p e (Run.step hk LL.out r))
          have O1 := Lib.hid (OO.out.kept G1.out (by
            by_cases e : Value.ownBlock u5 = none
            · exact .inl e
            · exact .inr (fun e' => by have := (OO.out.lt _ e').1; omega)))
          have B1 := Lib.hid (Gr.below BB.out G1.out (Nat.le_refl _) (Nat.le_trans (Nat.le_succ _) SZ.out))
          have S1 := Lib.hid (Nat.le_trans SZ.out G1.out.size)
          go_wp2_with (at_builtin; refine wp_flow _ fd fa fc rfl _ _ rfl (w.heap.size + 1) _ fs rfl (by simp only [World.size_alloc]; rfl) (O1.out.alloc _) (by have := R1.out.le; have := R1.out.sz; omega) (Nat.le_trans S1.out (by simp)) ?_; intro v' w2 ho hg)
          have hne : Value.ownBlock u5 ≠ some w.heap.size := fun e' => by have := (OO.out.lt _ e').1; omega
          have R2 := ((R1.out.below (((Below.refl _ _).alloc (Nat.le_refl _) _).alloc (by simp) _)).grown hg hne)
          refine ⟨⟨k, fs ++ [⟨fd, fc, fa⟩], by simp; omega, R2, ST, ((B1.out.alloc B1.out.size _).alloc (Nat.le_trans B1.out.size (by simp)) _).grown hg (Nat.le_trans B1.out.size (by simp; omega)) (fun i e => Nat.le_trans (Nat.le_succ _) (OO.out.lt i e).1), ho⟩, ?_⟩
          rw [PS.out, R2.pos]
          have := R2.le
          omega
      · have kc : ¬ (at_ : Int) < (s.size : Int) := by omega
        have RES := Lib.hid (HRun.out _ _ _ (Run.stop hk))
        go_wp2
        exact bodyPost_ret (v := .tuple #[u5, .int .i64 0, .int .i64 0]) (by simp [results, Try.results22, go_sem]) rfl ⟨⟨_, fs, 0, 0, rfl, by omega, own_base OO.out (Nat.le_succ _), .inr ⟨hz, RES.out⟩⟩, BB.out⟩
end Go.Proofs.Ythhacbelbkkcmaa
