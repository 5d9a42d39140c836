/-
  WALKS: the reader's line.
-/
import Derived.Test.YtmdgfcldohmjdaaDoorWRead2
namespace Go.Proofs.YtmdgfcldohmjdaaDoor
open Go.RowKit
set_option linter.unusedVariables false
set_option linter.unusedSimpArgs false

/-- A line from a place on: the flow and the place behind it, or the place of what cannot stand there. -/
def LineS (s : ByteArray) (at_ k : Nat) (r : Option Fl) : Prop :=
  ∃ k1 d wh1, ND s at_ 1073741824 k1 d wh1 ∧
    (((wh1 = false ∨ at8 s k1 ≠ 32) ∧ k = k1 ∧ r = none) ∨
     (wh1 = true ∧ at8 s k1 = 32 ∧ ∃ k2 wh2, CurS s (k1 + 1) k2 wh2 ∧
       (((wh2 = false ∨ at8 s k2 ≠ 32) ∧ k = k2 ∧ r = none) ∨
        (wh2 = true ∧ at8 s k2 = 32 ∧ ∃ k3 m wh3, SN s (k2 + 1) k3 m wh3 ∧
          (((wh3 = false ∨ at8 s k3 ≠ 10) ∧ k = k3 ∧ r = none) ∨
           (wh3 = true ∧ at8 s k3 = 10 ∧ k = k3 + 1 ∧ r = some ⟨d, s.extract (k1 + 1) (k1 + 4), m⟩))))))
theorem line_one {s : ByteArray} {at_ k k' : Nat} {r r' : Option Fl} (h : LineS s at_ k r) (h' : LineS s at_ k' r') : k = k' ∧ r = r' := by
  obtain ⟨k1, d, wh1, n1, h⟩ := h
  obtain ⟨k1', d', wh1', n1', h'⟩ := h'
  obtain ⟨rfl, rfl, rfl⟩ := nd_one n1 n1'
  rcases h with ⟨a, b, c⟩ | ⟨a, a2, k2, wh2, n2, h⟩ <;> rcases h' with ⟨a', b', c'⟩ | ⟨a', a2', k2', wh2', n2', h'⟩
  · exact ⟨by omega, by rw [c, c']⟩
  · rcases a with a | a
    · rw [a] at a'; cases a'
    · exact absurd a2' a
  · rcases a' with a' | a'
    · rw [a] at a'; cases a'
    · exact absurd a2 a'
  · obtain ⟨rfl, rfl⟩ := cur_one n2 n2'
    rcases h with ⟨e, b, c⟩ | ⟨e, e2, k3, m, wh3, n3, h⟩ <;> rcases h' with ⟨e', b', c'⟩ | ⟨e', e2', k3', m', wh3', n3', h'⟩
    · exact ⟨by omega, by rw [c, c']⟩
    · rcases e with e | e
      · rw [e] at e'; cases e'
      · exact absurd e2' e
    · rcases e' with e' | e'
      · rw [e] at e'; cases e'
      · exact absurd e2 e'
    · obtain ⟨rfl, rfl, rfl⟩ := sn_one n3 n3'
      rcases h with ⟨f, b, c⟩ | ⟨f, f2, b, c⟩ <;> rcases h' with ⟨f', b', c'⟩ | ⟨f', f2', b', c'⟩
      · exact ⟨by omega, by rw [c, c']⟩
      · rcases f with f | f
        · rw [f] at f'; cases f'
        · exact absurd f2' f
      · rcases f' with f' | f'
        · rw [f] at f'; cases f'
        · exact absurd f2 f'
      · exact ⟨by omega, by rw [c, c']⟩

/-- The box of a flow that is answered. -/
theorem pass_any (g : Nat) (s : ByteArray) (at_ : Nat) (c : Int) (c0 : 0 < c) (w : World) (h : RD w g s at_) :
    Calls Tryd.prog 38 #[.pointer (some ⟨g, 0, none⟩), .int .u8 c] w fun e w' => ∃ b : Bool, e = .returned (.bool b) ∧ RowKit.Hid (b = decide (at8 s at_ = c)) ∧ RD w' g s (if b then at_ + 1 else at_) ∧ Gr g w w' := by
  by_cases hc : at8 s at_ = c
  · refine (pass_yes g s at_ c c0 w h hc).mono ?_
    rintro e w' ⟨rfl, h1, h2⟩
    exact ⟨true, rfl, (decide_eq_true hc).symm, h1, h2⟩
  · refine (pass_no g s at_ c c0 w h hc).mono ?_
    rintro e w' ⟨rfl, h1, h2⟩
    exact ⟨false, rfl, (decide_eq_false hc).symm, h1, h2⟩

def BoxF (w W : World) : Prop := W.heap[w.heap.size]? = some (.cells #[.int .i64 0, .string ⟨#[]⟩, .int .i64 0] 32 (0, 0))
theorem boxF_new (w : World) : BoxF w (w.alloc (.cells #[.int .i64 0, .string ⟨#[]⟩, .int .i64 0] 32)) := by
  unfold BoxF
  show (w.heap.push _)[w.heap.size]? = _
  simp
theorem boxF_gr {w W W' : World} {g : Nat} (h : BoxF w W) (hg : Gr g W W') (hn : g < w.heap.size) : BoxF w W' := (hg.block _ (Array.getElem?_eq_some_iff.1 h).1 (fun e => by injection e with e; omega)).trans h
theorem boxF_cells {w W : World} (h : BoxF w W) : W.cell? ⟨w.heap.size, 0, none⟩ = some (.int .i64 0) ∧ W.cell? ⟨w.heap.size, 1, none⟩ = some (.string ⟨#[]⟩) ∧ W.cell? ⟨w.heap.size, 2, none⟩ = some (.int .i64 0) ∧
    W.frozen? ⟨w.heap.size, 0, none⟩ = false ∧ W.frozen? ⟨w.heap.size, 1, none⟩ = false ∧ W.frozen? ⟨w.heap.size, 2, none⟩ = false := by
  unfold BoxF at h
  refine ⟨?_, ?_, ?_, ?_, ?_, ?_⟩ <;> simp [World.cell?, World.frozen?, h]
theorem RD.below {w w' : World} {g : Nat} {s : ByteArray} {at_ : Nat} (h : RD w g s at_) (b : Below w.heap.size w w') : RD w' g s at_ :=
  ⟨(b.cell (p := ⟨g, 0, none⟩) h.lt).trans h.t, (b.cell (p := ⟨g, 1, none⟩) h.lt).trans h.a, (b.frozen (p := ⟨g, 1, none⟩) h.lt).trans h.f, Nat.lt_of_lt_of_le h.lt b.size, h.sz, h.le⟩
theorem Gr.new {g : Nat} {w W : World} (hw : Gr g (w.alloc (.cells #[.int .i64 0, .string ⟨#[]⟩, .int .i64 0] 32)) W) : Gr g w W :=
  ⟨hw.os, hw.tape, hw.output, Nat.le_trans (by simp) hw.size, fun k hk hn => (hw.block k (by simp; omega) hn).trans (Below.heap_alloc w _ k hk)⟩
theorem set_other {W : World} {k : Nat} (p : Addr) (hp : p.block ≠ k) (v : Value) : (W.setCell p v).heap[k]? = W.heap[k]? := by
  have hp' : ¬ p.block = k := hp
  simp [World.setCell, Array.getElem?_modify, hp']
theorem Gr.set3 {g : Nat} {w W : World} {a b c : Value} (hw : Gr g (w.alloc (.cells #[.int .i64 0, .string ⟨#[]⟩, .int .i64 0] 32)) W) :
    Gr g w (((W.setCell ⟨w.heap.size, 0, none⟩ a).setCell ⟨w.heap.size, 1, none⟩ b).setCell ⟨w.heap.size, 2, none⟩ c) := by
  have h := hw.new
  refine ⟨h.os, h.tape, h.output, by simpa using h.size, fun k hk hn => ?_⟩
  rw [set_other _ (by simp; omega), set_other _ (by simp; omega), set_other _ (by simp; omega)]
  exact h.block k hk hn
theorem RD.set3 {w W : World} {g : Nat} {s : ByteArray} {at_ : Nat} {a b c : Value} (h : RD W g s at_) (hn : g < w.heap.size) : RD (((W.setCell ⟨w.heap.size, 0, none⟩ a).setCell ⟨w.heap.size, 1, none⟩ b).setCell ⟨w.heap.size, 2, none⟩ c) g s at_ := by
  refine ⟨?_, ?_, ?_, by simpa using h.lt, h.sz, h.le⟩
  · rw [World.cell?_setCell_other _ _ _ _ (by first | (simp; done) | (simp; omega)), World.cell?_setCell_other _ _ _ _ (by first | (simp; done) | (simp; omega)), World.cell?_setCell_other _ _ _ _ (by first | (simp; done) | (simp; omega))]; exact h.t
  · rw [World.cell?_setCell_other _ _ _ _ (by first | (simp; done) | (simp; omega)), World.cell?_setCell_other _ _ _ _ (by first | (simp; done) | (simp; omega)), World.cell?_setCell_other _ _ _ _ (by first | (simp; done) | (simp; omega))]; exact h.a
  · rw [World.frozen?_setCell, World.frozen?_setCell, World.frozen?_setCell]; exact h.f

/-- How line ends. -/
def LineE (r : Option Fl) (e : Ending) : Prop := (r = none ∧ e = .returned (.tuple #[.agg #[.int .i64 0, .string ⟨#[]⟩, .int .i64 0], .bool false])) ∨ (∃ f, r = some f ∧ e = .returned (.tuple #[.agg #[.int .i64 f.d, .string f.c, .int .i64 f.a], .bool true]))

set_option maxRecDepth 100000 in
set_option maxHeartbeats 4000000 in
theorem line_any (g : Nat) (s : ByteArray) (at_ : Nat) (w : World) (h : RD w g s at_) :
    Calls Tryd.prog 21 #[.pointer (some ⟨g, 0, none⟩)] w fun e w' => ∃ k r, LineS s at_ k r ∧ LineE r e ∧ RD w' g s k ∧ Gr g w w' := by
  have GN := Lib.hid h.lt
  have BX := Lib.hid (boxF_new w)
  have R0 := Lib.hid (h.below ((Below.refl _ _).alloc (Nat.le_refl _) (.cells #[.int .i64 0, .string ⟨#[]⟩, .int .i64 0] 32)))
  have KD := Lib.hid (digits_any g s at_ 1073741824 (by omega) (by omega) _ R0.out)
  simp only [Int.cast_ofNat_Int] at KD
  clear h
  go_enter Tryd.func21, Tryd.ntmps21
  go_wp2_with fail
  refine KD.out.mono ?_
  rintro e w1 ⟨k1, hd, hr1, hg1⟩
  obtain ⟨v1, ok1, rfl, HT1⟩ := dig_told (by omega) hd
  have R1 := Lib.hid hr1
  have G1 := Lib.hid hg1
  clear hd hr1 hg1
  cases ok1 with
  | false =>
    have L1 := Lib.hid (p := LineS s at_ k1 none) (by
      obtain ⟨_, _, n, wh, hn, ht⟩ := HT1.out
      refine ⟨k1, n, wh, hn, .inl ⟨?_, rfl, rfl⟩⟩
      rcases ht with ⟨a, _⟩ | ⟨_, a | a⟩
      · cases a
      · exact .inl a
      · exact .inr (by unfold isD at a; omega))
    obtain ⟨y0, y1, y2, y3, y4, y5⟩ := boxF_cells (boxF_gr BX.out G1.out GN.out)
    go_wp2
    exact bodyPost_ret (v := .tuple #[.agg #[.int .i64 0, .string ⟨#[]⟩, .int .i64 0], .bool false]) (by simp [results, Tryd.results21, go_sem, y0, y1, y2]) rfl ⟨k1, none, L1.out, .inl ⟨rfl, rfl⟩, RD.set3 R1.out GN.out, Gr.set3 G1.out⟩
  | true =>
    obtain ⟨q0, q1, n1, hn1, hv1⟩ : 0 ≤ v1 ∧ v1 ≤ 1073741824 ∧ ∃ n, ND s at_ 1073741824 k1 n true ∧ v1 = n := by
      obtain ⟨a, b, n, wh, hn, ht⟩ := HT1.out
      rcases ht with ⟨_, c, d⟩ | ⟨c, _⟩
      · subst c; exact ⟨a, b, n, hn, d⟩
      · cases c
    have N1 := Lib.hid hn1
    have V1 := Lib.hid hv1
    have vw := pos_wrap q0 (by omega)
    clear hn1 hv1
    have K1 := Lib.hid (pass_any g s k1 32 (by omega) w1 R1.out)
    go_wp2_with fail
    refine K1.out.mono ?_
    rintro e w2 ⟨b1, rfl, hb1, hr2, hg2⟩
    have G2 := Lib.hid (G1.out.trans hg2)
    clear hg2
    cases b1 with
    | false =>
      have R2 := Lib.hid (show RD w2 g s k1 from hr2)
      clear hr2
      have L1 := Lib.hid (p := LineS s at_ k1 none) ⟨k1, n1, true, N1.out, .inl ⟨.inr (of_decide_eq_false hb1.out.symm), rfl, rfl⟩⟩
      obtain ⟨y0, y1, y2, y3, y4, y5⟩ := boxF_cells (boxF_gr BX.out G2.out GN.out)
      go_wp2
      exact bodyPost_ret (v := .tuple #[.agg #[.int .i64 0, .string ⟨#[]⟩, .int .i64 0], .bool false]) (by simp [results, Tryd.results21, go_sem, y0, y1, y2]) rfl ⟨k1, none, L1.out, .inl ⟨rfl, rfl⟩, RD.set3 R2.out GN.out, Gr.set3 G2.out⟩
    | true =>
      have R2 := Lib.hid (show RD w2 g s (k1 + 1) from hr2)
      have C1 := Lib.hid (of_decide_eq_true hb1.out.symm)
      clear hr2 hb1
      have K2 := Lib.hid (currency_any g s (k1 + 1) w2 R2.out)
      go_wp2_with fail
      refine K2.out.mono ?_
      rintro e w3 ⟨k2, c, ok2, rfl, HC, hr3, hg3⟩
      have R3 := Lib.hid hr3
      have G3 := Lib.hid (G2.out.trans hg3)
      clear hr3 hg3
      cases ok2 with
      | false =>
        have L1 := Lib.hid (p := LineS s at_ k2 none) ⟨k1, n1, true, N1.out, .inr ⟨rfl, C1.out, k2, false, HC.out.1, .inl ⟨.inl rfl, rfl, rfl⟩⟩⟩
        obtain ⟨y0, y1, y2, y3, y4, y5⟩ := boxF_cells (boxF_gr BX.out G3.out GN.out)
        go_wp2
        exact bodyPost_ret (v := .tuple #[.agg #[.int .i64 0, .string ⟨#[]⟩, .int .i64 0], .bool false]) (by simp [results, Tryd.results21, go_sem, y0, y1, y2]) rfl ⟨k2, none, L1.out, .inl ⟨rfl, rfl⟩, RD.set3 R3.out GN.out, Gr.set3 G3.out⟩
      | true =>
        have EC := Lib.hid (HC.out.2 rfl)
        have K3 := Lib.hid (pass_any g s k2 32 (by omega) w3 R3.out)
        go_wp2_with fail
        refine K3.out.mono ?_
        rintro e w4 ⟨b2, rfl, hb2, hr4, hg4⟩
        have G4 := Lib.hid (G3.out.trans hg4)
        clear hg4
        cases b2 with
        | false =>
          have R4 := Lib.hid (show RD w4 g s k2 from hr4)
          clear hr4
          have L1 := Lib.hid (p := LineS s at_ k2 none) ⟨k1, n1, true, N1.out, .inr ⟨rfl, C1.out, k2, true, HC.out.1, .inl ⟨.inr (of_decide_eq_false hb2.out.symm), rfl, rfl⟩⟩⟩
          obtain ⟨y0, y1, y2, y3, y4, y5⟩ := boxF_cells (boxF_gr BX.out G4.out GN.out)
          go_wp2
          exact bodyPost_ret (v := .tuple #[.agg #[.int .i64 0, .string ⟨#[]⟩, .int .i64 0], .bool false]) (by simp [results, Tryd.results21, go_sem, y0, y1, y2]) rfl ⟨k2, none, L1.out, .inl ⟨rfl, rfl⟩, RD.set3 R4.out GN.out, Gr.set3 G4.out⟩
        | true =>
          have R4 := Lib.hid (show RD w4 g s (k2 + 1) from hr4)
          have C2 := Lib.hid (of_decide_eq_true hb2.out.symm)
          clear hr4 hb2
          have K4 := Lib.hid (amount_any g s (k2 + 1) w4 R4.out)
          go_wp2_with fail
          refine K4.out.mono ?_
          rintro e w5 ⟨k3, v3, ok3, rfl, HS, hr5, hg5⟩
          have R5 := Lib.hid hr5
          have G5 := Lib.hid (G4.out.trans hg5)
          clear hr5 hg5
          cases ok3 with
          | false =>
            have L1 := Lib.hid (p := LineS s at_ k3 none) (by
              obtain ⟨m, wh, hn, ht⟩ := HS.out
              refine ⟨k1, n1, true, N1.out, .inr ⟨rfl, C1.out, k2, true, HC.out.1, .inr ⟨rfl, C2.out, k3, m, wh, hn, .inl ⟨?_, rfl, rfl⟩⟩⟩⟩
              rcases ht with ⟨a, _⟩ | ⟨_, a | a⟩
              · cases a
              · exact .inl a
              · exact .inr (by unfold isD at a; omega))
            obtain ⟨y0, y1, y2, y3, y4, y5⟩ := boxF_cells (boxF_gr BX.out G5.out GN.out)
            go_wp2
            exact bodyPost_ret (v := .tuple #[.agg #[.int .i64 0, .string ⟨#[]⟩, .int .i64 0], .bool false]) (by simp [results, Tryd.results21, go_sem, y0, y1, y2]) rfl ⟨k3, none, L1.out, .inl ⟨rfl, rfl⟩, RD.set3 R5.out GN.out, Gr.set3 G5.out⟩
          | true =>
            have S3 := Lib.hid (p := SN s (k2 + 1) k3 v3 true) (by
              obtain ⟨m, wh, hn, ht⟩ := HS.out
              rcases ht with ⟨_, a, b⟩ | ⟨a, _⟩
              · subst a b; exact hn
              · cases a)
            have K5 := Lib.hid (pass_any g s k3 10 (by omega) w5 R5.out)
            go_wp2_with fail
            refine K5.out.mono ?_
            rintro e w6 ⟨b3, rfl, hb3, hr6, hg6⟩
            have G6 := Lib.hid (G5.out.trans hg6)
            clear hg6
            cases b3 with
            | false =>
              have R6 := Lib.hid (show RD w6 g s k3 from hr6)
              clear hr6
              have L1 := Lib.hid (p := LineS s at_ k3 none) ⟨k1, n1, true, N1.out, .inr ⟨rfl, C1.out, k2, true, HC.out.1, .inr ⟨rfl, C2.out, k3, v3, true, S3.out, .inl ⟨.inr (of_decide_eq_false hb3.out.symm), rfl, rfl⟩⟩⟩⟩
              obtain ⟨y0, y1, y2, y3, y4, y5⟩ := boxF_cells (boxF_gr BX.out G6.out GN.out)
              go_wp2
              exact bodyPost_ret (v := .tuple #[.agg #[.int .i64 0, .string ⟨#[]⟩, .int .i64 0], .bool false]) (by simp [results, Tryd.results21, go_sem, y0, y1, y2]) rfl ⟨k3, none, L1.out, .inl ⟨rfl, rfl⟩, RD.set3 R6.out GN.out, Gr.set3 G6.out⟩
            | true =>
              have R6 := Lib.hid (show RD w6 g s (k3 + 1) from hr6)
              have C3 := Lib.hid (of_decide_eq_true hb3.out.symm)
              clear hr6 hb3
              have L1 := Lib.hid (p := LineS s at_ (k3 + 1) (some ⟨v1, c, v3⟩)) (by
                refine ⟨k1, n1, true, N1.out, .inr ⟨rfl, C1.out, k2, true, HC.out.1, .inr ⟨rfl, C2.out, k3, v3, true, S3.out, .inr ⟨rfl, C3.out, rfl, ?_⟩⟩⟩⟩
                rw [V1.out, EC.out])
              obtain ⟨y0, y1, y2, y3, y4, y5⟩ := boxF_cells (boxF_gr BX.out G6.out GN.out)
              go_wp2
              exact bodyPost_ret (v := .tuple #[.agg #[.int .i64 v1, .string c, .int .i64 v3], .bool true]) (by simp [results, Tryd.results21, go_sem, y0, y1, y2]) rfl ⟨k3 + 1, _, L1.out, .inr ⟨_, rfl, rfl⟩, RD.set3 R6.out GN.out, Gr.set3 G6.out⟩
end Go.Proofs.YtmdgfcldohmjdaaDoor
