/-
  FOR LexScans: rows of tokens that are written over; lists that stay.
-/
import Derived.Test.YtlihkmhhfnkkoaaDoorWRefLex14
namespace Go.Proofs.YtlihkmhhfnkkoaaDoor
open Go.RowKit Lx
set_option linter.unusedVariables false
set_option linter.unusedSimpArgs false

theorem scan_isM (s : ByteArray) (ts : List Tok) (p : Nat) (er : Int) (hS : Scn (lst s) ts p er) (w : World) (hM : Mon w) (hE : Ev w) :
    Calls Tryd.prog 4 #[.string s] w fun e w' => ∃ a cap, e = .returned (.tuple #[.slice a ts.length cap, .int .i64 (p : Int), .int .i64 er]) ∧ SL w w' (.slice a ts.length cap) a cap ts := by
  rcases Nat.lt_or_ge 65536 s.size with h | h
  · obtain ⟨rfl, rfl, rfl⟩ : ts = [] ∧ p = 0 ∧ er = 6 := by
      rcases hS with ⟨_, h1, h2, h3⟩ | ⟨h1, _⟩
      · exact ⟨h1, h2, h3⟩
      · rw [lst_len] at h1; omega
    have h' : (65536 : Int) < (s.size : Int) := by omega
    have FIN := Lib.hid (p := SL w w (.slice none 0 0) none 0 []) ⟨World.ownsRow_nil _ _ _ _, ⟨rfl, by decide, .inl rfl⟩, Below.refl _ _, Nat.le_refl _⟩
    clear hS hM hE
    go_enter Tryd.func4, Tryd.ntmps4
    go_wp2
    go_step3
    go_wp2
    try rw [Exit.noGoto_ret]
    exact bodyPost_ret (v := .tuple #[.slice none 0 0, .int .i64 0, .int .i64 6]) (by simp [results, Tryd.results4, go_sem]) rfl ⟨none, 0, rfl, FIN.out⟩
  · exact scan_is s (by omega) ts p er hS w hM hE
theorem Lx.Sc.zero {r : L} {at_ : Nat} {ts : List Tok} {p : Nat} {e : Int} (h : Sc r at_ ts p e) : e = 0 → p = 0 := by
  induction h with
  | done a => intro _; rfl
  | skip hr h k ih => exact ih
  | tok hr h k ih => exact ih
  | err hr h => intro he; have g := step_good hr; rw [h] at g; exact absurd he g.2.1
set_option maxRecDepth 100000 in

theorem rscan_isM (s : ByteArray) (ts : List Tok) (p : Nat) (er : Int) (hS : Scn (lst s) ts p er) (w : World) :
    Calls Tryd.prog 5 #[.string s] w fun e w' => ∃ a cap, e = .returned (.tuple #[.slice a ts.length cap, .int .i64 (p : Int), .int .i64 er]) ∧ SL w w' (.slice a ts.length cap) a cap ts := by
  rcases Nat.lt_or_ge 65536 s.size with h | h
  · obtain ⟨rfl, rfl, rfl⟩ : ts = [] ∧ p = 0 ∧ er = 6 := by
      rcases hS with ⟨_, h1, h2, h3⟩ | ⟨h1, _⟩
      · exact ⟨h1, h2, h3⟩
      · rw [lst_len] at h1; omega
    have h' : (65536 : Int) < (s.size : Int) := by omega
    have FIN := Lib.hid (p := SL w w (.slice none 0 0) none 0 []) ⟨World.ownsRow_nil _ _ _ _, ⟨rfl, by decide, .inl rfl⟩, Below.refl _ _, Nat.le_refl _⟩
    clear hS
    go_enter Tryd.func5, Tryd.ntmps5
    go_wp2
    exact bodyPost_ret (v := .tuple #[.slice none 0 0, .int .i64 0, .int .i64 6]) (by simp [results, Tryd.results5, go_sem]) rfl ⟨none, 0, rfl, FIN.out⟩
  · exact rscan_is s (by omega) ts p er hS w
def T99 : Tok := ⟨99, [], 0, 0, 0, 0, 0, 0, 0⟩
def T98 : Tok := ⟨98, [], 0, 0, 0, 0, 0, 0, 0⟩
/-- A list that lies at or above a block. -/
structure TX (w : World) (B : Nat) (a : Option Addr) (n : Nat) (ts : List Tok) : Prop where
  tl : TL w a n ts
  up : ∀ b o, a = some ⟨b, o, none⟩ → B ≤ b
theorem TX.later {w w' : World} {B : Nat} {a : Option Addr} {n : Nat} {ts : List Tok} (h : TX w B a n ts) (b : Below w.heap.size w w') : TX w' B a n ts := ⟨h.tl.later b, h.up⟩
theorem tx_of {w w' : World} {B : Nat} {v : Value} {a : Option Addr} {cap : Nat} {ts : List Tok} (h : SL w w' (.slice a ts.length cap) a cap ts) (hB : B ≤ w.heap.size) : TX w' B a ts.length ts :=
  ⟨h.tl, fun b o e => by
    rcases h.ow.2 with ⟨h1, h2⟩ | ⟨g, c, cur, h1, hb, hg, hn, hm, hs, ht⟩
    · injection h1 with h1; rw [h1] at e; cases e
    · injection h1 with h1; rw [h1] at e; injection e with e; injection e with e; omega⟩
/-- What lies above stays where one row below is written over. -/
theorem TX.kept {w w' : World} {B : Nat} {a : Option Addr} {n : Nat} {ts : List Tok} {row : Option Nat} (h : TX w B a n ts) (g : w.grownBy w' row) (hr : ∀ k, row = some k → k < B) : TX w' B a n ts := by
  refine ⟨⟨h.tl.1, h.tl.2.1, ?_⟩, h.up⟩
  rcases h.tl.2.2 with h3 | ⟨x, o, rfl, hx, hc⟩
  · exact .inl h3
  · refine .inr ⟨x, o, rfl, Nat.lt_of_lt_of_le hx g.size, fun i hi => ?_⟩
    have hb : w'.heap[x]? = w.heap[x]? := g.block x hx (fun e => absurd (hr x e.symm) (by have := h.up x o rfl; omega))
    have c := hc i hi
    exact ⟨(World.cell?_of_block (a := ⟨x, o + i * 9, none⟩) hb).trans c.c0, (World.cell?_of_block (a := ⟨x, o + i * 9 + 1, none⟩) hb).trans c.c1, (World.cell?_of_block (a := ⟨x, o + i * 9 + 2, none⟩) hb).trans c.c2, (World.cell?_of_block (a := ⟨x, o + i * 9 + 3, none⟩) hb).trans c.c3, (World.cell?_of_block (a := ⟨x, o + i * 9 + 4, none⟩) hb).trans c.c4, (World.cell?_of_block (a := ⟨x, o + i * 9 + 5, none⟩) hb).trans c.c5, (World.cell?_of_block (a := ⟨x, o + i * 9 + 6, none⟩) hb).trans c.c6, (World.cell?_of_block (a := ⟨x, o + i * 9 + 7, none⟩) hb).trans c.c7, (World.cell?_of_block (a := ⟨x, o + i * 9 + 8, none⟩) hb).trans c.c8⟩
/-- One token's cells written over. -/
theorem tcs_set (t : Tok) : ∀ (ts : List Tok) (k : Nat), k < ts.length →
    ((((((((((tcs ts).set (k * 9) (.int .i64 t.k)).set (k * 9 + 1) (.string (bs t.t))).set (k * 9 + 2) (.int .i64 t.a)).set (k * 9 + 3) (.int .i64 t.num)).set (k * 9 + 4) (.int .i64 t.y)).set (k * 9 + 5) (.int .i64 t.m)).set (k * 9 + 6) (.int .i64 t.d)).set (k * 9 + 7) (.int .i64 t.n)).set (k * 9 + 8) (.int .i64 t.u)) = tcs (ts.set k t)
  | [], k, h => by simp at h
  | u :: ts, 0, _ => rfl
  | u :: ts, k + 1, h => by
    have e : tcs (u :: ts) = tcells u ++ tcs ts := rfl
    have ih := tcs_set t ts k (by simpa using h)
    have sr : ∀ (l : List Value) (j : Nat) (x : Value), (tcells u ++ l).set ((k + 1) * 9 + j) x = tcells u ++ l.set (k * 9 + j) x := fun l j x => by
      rw [List.set_append_right _ _ (by rw [tcells_len]; omega), tcells_len, show (k + 1) * 9 + j - 9 = k * 9 + j by omega]
    have sr0 : ∀ (l : List Value) (x : Value), (tcells u ++ l).set ((k + 1) * 9) x = tcells u ++ l.set (k * 9) x := fun l x => sr l 0 x
    rw [e, sr0, sr, sr, sr, sr, sr, sr, sr, sr, ih]
    rfl
abbrev W9 (w : World) (g i : Nat) (a0 a1 a2 a3 a4 a5 a6 a7 a8 : Value) : World := ((((((((w.setCell ⟨g, i, none⟩ a0).setCell ⟨g, i + 1, none⟩ a1).setCell ⟨g, i + 2, none⟩ a2).setCell ⟨g, i + 3, none⟩ a3).setCell ⟨g, i + 4, none⟩ a4).setCell ⟨g, i + 5, none⟩ a5).setCell ⟨g, i + 6, none⟩ a6).setCell ⟨g, i + 7, none⟩ a7).setCell ⟨g, i + 8, none⟩ a8
theorem W9.size (w : World) (g i : Nat) (a0 a1 a2 a3 a4 a5 a6 a7 a8 : Value) : (W9 w g i a0 a1 a2 a3 a4 a5 a6 a7 a8).heap.size = w.heap.size := by simp [W9]
theorem setCell_grown (w : World) (g i : Nat) (v : Value) : w.grownBy (w.setCell ⟨g, i, none⟩ v) (some g) :=
  ⟨rfl, rfl, rfl, by simp, fun k hk hr => by
    have hn : g ≠ k := fun e => hr (by rw [e])
    simp [World.setCell, Array.getElem?_modify, hn]⟩
theorem grown_trans {a b c : World} {r : Option Nat} (h : a.grownBy b r) (k : b.grownBy c r) : a.grownBy c r :=
  ⟨k.os.trans h.os, k.tape.trans h.tape, k.output.trans h.output, Nat.le_trans h.size k.size, fun j hj hr => (k.block j (Nat.lt_of_lt_of_le hj h.size) hr).trans (h.block j hj hr)⟩
theorem W9.grown (w : World) (g i : Nat) (a0 a1 a2 a3 a4 a5 a6 a7 a8 : Value) : w.grownBy (W9 w g i a0 a1 a2 a3 a4 a5 a6 a7 a8) (some g) :=
  grown_trans (grown_trans (grown_trans (grown_trans (grown_trans (grown_trans (grown_trans (grown_trans (setCell_grown w g i a0) (setCell_grown _ g _ a1)) (setCell_grown _ g _ a2)) (setCell_grown _ g _ a3)) (setCell_grown _ g _ a4)) (setCell_grown _ g _ a5)) (setCell_grown _ g _ a6)) (setCell_grown _ g _ a7)) (setCell_grown _ g _ a8)
/-- A token of an own row is written over. -/
theorem OwT.set {w : World} {B g n cap k : Nat} {ts : List Tok} (h : OwT w B (.slice (some ⟨g, 0, none⟩) n cap) ts) (hk : k < ts.length) (t : Tok) (tx : ByteArray) (htx : tx = bs t.t) :
    OwT (W9 w g (k * 9) (.int .i64 t.k) (.string tx) (.int .i64 t.a) (.int .i64 t.num) (.int .i64 t.y) (.int .i64 t.m) (.int .i64 t.d) (.int .i64 t.n) (.int .i64 t.u)) B (.slice (some ⟨g, 0, none⟩) n cap) (ts.set k t) := by
  subst htx
  obtain ⟨h1, h2⟩ := h
  rcases h2 with ⟨h2, _⟩ | ⟨g', cap', cur, h2, hB, hg, hnc, hm, hs, ht⟩
  · cases h2
  · injection h2 with h2 h4 h3
    injection h2 with h2
    injection h2 with h2
    subst h2 h3
    refine ⟨tcs_len _, .inr ⟨g, cap, _, by rw [List.length_set, ← h4], hB, Joins.block_setCell (Joins.block_setCell (Joins.block_setCell (Joins.block_setCell (Joins.block_setCell (Joins.block_setCell (Joins.block_setCell (Joins.block_setCell (Joins.block_setCell hg _) _) _) _) _) _) _) _) _, by rw [List.length_set]; exact hnc, hm, by simp [hs], ?_⟩⟩
    simp only [Array.toList_setIfInBounds, List.take_set, List.length_set]
    rw [ht]
    exact tcs_set t ts k hk
/-- The first k written over. -/
def ovr (k : Nat) (ts : List Tok) : List Tok := List.replicate k T99 ++ ts.drop k
theorem ovr_len {k : Nat} {ts : List Tok} (h : k ≤ ts.length) : (ovr k ts).length = ts.length := by unfold ovr; simp; omega
theorem ovr_next {k : Nat} {ts : List Tok} (h : k < ts.length) : (ovr k ts).set k T99 = ovr (k + 1) ts := by
  unfold ovr
  rw [List.set_append_right _ _ (by simp), List.length_replicate, Nat.sub_self, List.drop_eq_getElem_cons h, List.set_cons_zero, List.replicate_succ', List.append_assoc]
  rfl
theorem ovr_all (ts : List Tok) : ovr ts.length ts = List.replicate ts.length T99 := by unfold ovr; simp
/-- An own row's cells, the first of each token. -/
theorem own_kind {w : World} {B : Nat} {v : Value} {ts : List Tok} (h : OwT w B v ts) (i : Nat) (hi : i < ts.length) : ∃ g cap, v = .slice (some ⟨g, 0, none⟩) ts.length cap ∧ ts.length ≤ cap ∧ w.cell? ⟨g, i * 9, none⟩ = some (.int .i64 (ts.getD i default).k) := by
  obtain ⟨h1, h2⟩ := h
  rcases h2 with ⟨rfl, h2⟩ | ⟨g, cap, cur, rfl, hB, hg, hn, hm, hs, ht⟩
  · omega
  · refine ⟨g, cap, rfl, hn, ?_⟩
    have e : w.cell? ⟨g, i * 9 + 0, none⟩ = cur[i * 9 + 0]? := by simp [World.cell?, hg]
    have := tcs_at ts i hi 0 (by omega)
    rw [← ht, List.getElem?_take_of_lt (by omega)] at this
    rw [Nat.add_zero] at e this
    rw [e]
    simpa [tcells] using this
theorem own_slice {w : World} {B : Nat} {v : Value} {ts : List Tok} (h : OwT w B v ts) : ∃ a cap, v = .slice a ts.length cap ∧ ts.length ≤ cap := by
  rcases h.2 with ⟨rfl, h2⟩ | ⟨g, cap, cur, rfl, hB, hg, hn, hm, hs, ht⟩
  · exact ⟨none, 0, by rw [h2], by omega⟩
  · exact ⟨_, cap, rfl, hn⟩
end Go.Proofs.YtlihkmhhfnkkoaaDoor
