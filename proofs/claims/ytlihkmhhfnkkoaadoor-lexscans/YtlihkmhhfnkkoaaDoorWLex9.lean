/-
  WALK: Scan (made by gen/gen_scan.py).
-/
import Derived.Test.YtlihkmhhfnkkoaaDoorWLexT
import Derived.WalkMore
namespace Go.Proofs.YtlihkmhhfnkkoaaDoor
open Go.RowKit Lx
set_option linter.unusedVariables false
set_option linter.unusedSimpArgs false

/-- Nine cells set, then the place. -/
abbrev W10 (w : World) (g : Nat) (a0 a1 a2 a3 a4 a5 a6 a7 a8 p : Value) : World := (((((((((w.setCell ⟨g, 0, none⟩ a0).setCell ⟨g, 1, none⟩ a1).setCell ⟨g, 2, none⟩ a2).setCell ⟨g, 3, none⟩ a3).setCell ⟨g, 4, none⟩ a4).setCell ⟨g, 5, none⟩ a5).setCell ⟨g, 6, none⟩ a6).setCell ⟨g, 7, none⟩ a7).setCell ⟨g, 8, none⟩ a8).setCell ⟨g, 2, none⟩ p
theorem set10 {w : World} {g : Nat} {b0 b1 b2 b3 b4 b5 b6 b7 b8 : Value} {T : TypeId} (h : w.heap[g]? = some (.cells #[b0, b1, b2, b3, b4, b5, b6, b7, b8] T)) (a0 a1 a2 a3 a4 a5 a6 a7 a8 p : Value) :
    (W10 w g a0 a1 a2 a3 a4 a5 a6 a7 a8 p).heap[g]? = some (.cells #[a0, a1, p, a3, a4, a5, a6, a7, a8] T) := by
  have h9 := set9 h a0 a1 a2 a3 a4 a5 a6 a7 a8
  unfold W10
  generalize ((((((((w.setCell ⟨g, 0, none⟩ a0).setCell ⟨g, 1, none⟩ a1).setCell ⟨g, 2, none⟩ a2).setCell ⟨g, 3, none⟩ a3).setCell ⟨g, 4, none⟩ a4).setCell ⟨g, 5, none⟩ a5).setCell ⟨g, 6, none⟩ a6).setCell ⟨g, 7, none⟩ a7).setCell ⟨g, 8, none⟩ a8 = w9 at h9 ⊢
  exact Joins.block_setCell (i := 2) h9 p
theorem below9 {B : Nat} {w0 w : World} {g : Nat} (h : Below B w0 w) (hg : B ≤ g) (a0 a1 a2 a3 a4 a5 a6 a7 a8 : Value) :
    Below B w0 (((((((((w.setCell ⟨g, 0, none⟩ a0).setCell ⟨g, 1, none⟩ a1).setCell ⟨g, 2, none⟩ a2).setCell ⟨g, 3, none⟩ a3).setCell ⟨g, 4, none⟩ a4).setCell ⟨g, 5, none⟩ a5).setCell ⟨g, 6, none⟩ a6).setCell ⟨g, 7, none⟩ a7).setCell ⟨g, 8, none⟩ a8) :=
  ((((((((h.setCell (p := ⟨g, 0, none⟩) hg _).setCell (p := ⟨g, 1, none⟩) hg _).setCell (p := ⟨g, 2, none⟩) hg _).setCell (p := ⟨g, 3, none⟩) hg _).setCell (p := ⟨g, 4, none⟩) hg _).setCell (p := ⟨g, 5, none⟩) hg _).setCell (p := ⟨g, 6, none⟩) hg _).setCell (p := ⟨g, 7, none⟩) hg _).setCell (p := ⟨g, 8, none⟩) hg _
theorem below10 {B : Nat} {w0 w : World} {g : Nat} (h : Below B w0 w) (hg : B ≤ g) (a0 a1 a2 a3 a4 a5 a6 a7 a8 p : Value) : Below B w0 (W10 w g a0 a1 a2 a3 a4 a5 a6 a7 a8 p) :=
  (below9 h hg a0 a1 a2 a3 a4 a5 a6 a7 a8).setCell (p := ⟨g, 2, none⟩) hg _
theorem size10 (w : World) (g : Nat) (a0 a1 a2 a3 a4 a5 a6 a7 a8 p : Value) : (W10 w g a0 a1 a2 a3 a4 a5 a6 a7 a8 p).heap.size = w.heap.size := by simp [W10]
abbrev zeroT : Obj := .cells #[.int .i64 0, .string ⟨#[]⟩, .int .i64 0, .int .i64 0, .int .i64 0, .int .i64 0, .int .i64 0, .int .i64 0, .int .i64 0] 32
/-- Where the loop stands. -/
structure SI (w wr : World) (s : ByteArray) (v : Value) (k : Nat) (acc : List Tok) : Prop where
  ow : OwT wr w.heap.size v acc
  le : k ≤ s.size
  ln : acc.length ≤ k
  sc : ∀ ts p e, Sc ((lst s).drop k) k ts p e → Sc (lst s) 0 (acc ++ ts) p e
  bel : Below w.heap.size w wr
/-- What Scan leaves. -/
def ScanP (w : World) (s : ByteArray) (e : Ending) (w' : World) : Prop := ∃ v ts p er, e = .returned (.tuple #[v, .int .i64 (p : Nat), .int .i64 er]) ∧ OwT w' w.heap.size v ts ∧ ts.length ≤ s.size ∧ Sc (lst s) 0 ts p er ∧ Below w.heap.size w w'
theorem drop_ne {l : L} {k : Nat} (h : k < l.length) : l.drop k ≠ [] := by intro e; have := congrArg List.length e; simp at this; omega
theorem SI.skip {w wr w' : World} {s : ByteArray} {v : Value} {k n : Nat} {acc : List Tok} (h : SI w wr s v k acc) (hk : k < s.size) (hs : Lx.step ((lst s).drop k) = .skip n) (b : Below wr.heap.size wr w') : SI w w' s v (k + n) acc ∧ 0 < n := by
  have hr := drop_ne (l := lst s) (k := k) (by rw [lst_len]; exact hk)
  have g := step_good hr
  rw [hs] at g
  have hn := g.2
  rw [List.length_drop, lst_len] at hn
  exact ⟨⟨h.ow.later b, by omega, Nat.le_trans h.ln (by omega), fun ts p e hq => h.sc ts p e (.skip hr hs (by rw [List.drop_drop]; exact hq)), h.bel.trans (b.mono h.bel.size)⟩, g.1⟩
theorem SI.tok {w wr w' : World} {s : ByteArray} {v v' : Value} {k : Nat} {acc : List Tok} {t : Tok} (h : SI w wr s v k acc) (hk : k < s.size) (hs : Lx.step ((lst s).drop k) = .tok t) (ho : OwT w' w.heap.size v' (acc ++ [{ t with a := k }])) (b : Below w.heap.size w w') : SI w w' s v' (k + t.t.length) (acc ++ [{ t with a := k }]) := by
  have hr := drop_ne (l := lst s) (k := k) (by rw [lst_len]; exact hk)
  have g := step_good hr
  rw [hs] at g
  have hn : t.t.length ≤ s.size - k := by
    have := congrArg List.length g.2.1
    rw [List.length_take, List.length_drop, lst_len] at this
    omega
  refine ⟨ho, by omega, ?_, fun ts p e hq => ?_, b⟩
  · rw [List.length_append]; have := h.ln; have := g.1; simp; omega
  · rw [List.append_assoc]
    exact h.sc _ p e (.tok hr hs (by rw [List.drop_drop]; exact hq))
theorem SI.err {w wr w' : World} {s : ByteArray} {v : Value} {k n : Nat} {er : Int} {acc : List Tok} (h : SI w wr s v k acc) (hk : k < s.size) (hs : Lx.step ((lst s).drop k) = .err n er) (b : Below wr.heap.size wr w') : ScanP w s (.returned (.tuple #[v, .int .i64 ((k : Int) + (n : Int)), .int .i64 er])) w' := by
  have hr := drop_ne (l := lst s) (k := k) (by rw [lst_len]; exact hk)
  refine ⟨v, acc, k + n, er, by rw [Int.natCast_add], h.ow.later b, Nat.le_trans h.ln h.le, ?_, h.bel.trans (b.mono h.bel.size)⟩
  have := h.sc [] (k + n) er (.err hr hs)
  rwa [List.append_nil] at this
theorem SI.done {w wr : World} {s : ByteArray} {v : Value} {acc : List Tok} (h : SI w wr s v s.size acc) : ScanP w s (.returned (.tuple #[v, .int .i64 0, .int .i64 0])) wr := by
  refine ⟨v, acc, 0, 0, rfl, h.ow, Nat.le_trans h.ln h.le, ?_, h.bel⟩
  have := h.sc [] 0 0 (by rw [List.drop_eq_nil_of_le (by rw [lst_len]; exact Nat.le_refl _)]; exact .done _)
  rwa [List.append_nil] at this
theorem SI.start (w : World) (s : ByteArray) : SI w w s (.slice none 0 0) 0 [] := ⟨World.ownsRow_nil _ _ _ _, Nat.zero_le _, Nat.le_refl _, fun ts p e h => h, Below.refl _ _⟩
theorem datT_or (r : L) : (∃ t, datT r = .tok t) ∨ ∃ e, datT r = .err 0 e := by
  unfold datT; split
  · exact .inl ⟨_, rfl⟩
  · exact .inr ⟨_, rfl⟩
theorem digT_or (r : L) : (∃ t, digT r = .tok t) ∨ ∃ e, digT r = .err 0 e := by
  unfold digT; split
  · exact .inr ⟨_, rfl⟩
  · split
    · exact .inl ⟨_, rfl⟩
    · split
      · exact .inr ⟨_, rfl⟩
      · exact .inl ⟨_, rfl⟩
theorem marT_or (r : L) : (∃ t, marT r = .tok t) ∨ ∃ e, marT r = .err 0 e := by
  unfold marT; split
  · exact .inl ⟨_, rfl⟩
  · split
    · exact .inl ⟨_, rfl⟩
    · exact .inr ⟨_, rfl⟩
theorem datT_a {r : L} {t : Tok} (h : datT r = .tok t) : t.t.length ≤ 10 := by rw [datT_text h, List.length_take]; omega
/-- The box behind Clone. -/
theorem box_after {w2 w3 : World} {g : Nat} {b0 b1 b2 b3 b4 b5 b6 b7 b8 : Value} {T : TypeId} {a0 a1 a2 a3 a4 a5 a6 a7 a8 p : Value} (h : w2.heap[g]? = some (.cells #[b0, b1, b2, b3, b4, b5, b6, b7, b8] T)) (b : Below (W10 w2 g a0 a1 a2 a3 a4 a5 a6 a7 a8 p).heap.size (W10 w2 g a0 a1 a2 a3 a4 a5 a6 a7 a8 p) w3) : TB w3 g a0 a1 p a3 a4 a5 a6 a7 a8 :=
  box_tok (T := T) ((b.block g (by rw [size10]; exact (Array.getElem?_eq_some_iff.1 h).1)).trans (set10 h a0 a1 a2 a3 a4 a5 a6 a7 a8 p))
theorem below_after {B : Nat} {w0 w2 w3 : World} {g : Nat} {a0 a1 a2 a3 a4 a5 a6 a7 a8 p : Value} (h : Below B w0 w2) (hg : B ≤ g) (hs : B ≤ w2.heap.size) (b : Below (W10 w2 g a0 a1 a2 a3 a4 a5 a6 a7 a8 p).heap.size (W10 w2 g a0 a1 a2 a3 a4 a5 a6 a7 a8 p) w3) : Below B w0 w3 :=
  (below10 h hg a0 a1 a2 a3 a4 a5 a6 a7 a8 p).trans (b.mono (by rw [size10]; exact hs))
theorem beginsWithDate_bel (s : ByteArray) (w : World) (hs : s.size ≤ 9223372036854775806) :
    Calls Tryd.prog 9 #[.string s] w fun e w' => e = .returned (.bool (fits form (lst s))) ∧ Below w.heap.size w w' := by
  refine (beginsWithDate_any s w hs).mono ?_
  rintro e w' ⟨rfl, n, rfl⟩
  exact ⟨rfl, below_q n⟩
end Go.Proofs.YtlihkmhhfnkkoaaDoor
