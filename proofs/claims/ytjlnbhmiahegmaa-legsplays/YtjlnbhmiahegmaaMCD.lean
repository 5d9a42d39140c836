/-
  Actions that the law hands in.
-/
import Derived.Test.YtjlnbhmiahegmaaWPB
namespace Go.Proofs.Ytjlnbhmiahegmaa
open Go.RowKit
set_option linter.unusedVariables false
set_option linter.unusedSimpArgs false

theorem Bk.set6 {w : World} {b : Nat} {cur : Array Value} {t : TypeId} (h : Bk w b cur t) (k : Nat) (a0 a1 a2 a3 a4 a5 : Value) (hk : k + 5 < cur.size) :
    ∃ cur', Bk ((((((w.setCell ⟨b, k, none⟩ a0).setCell ⟨b, k + 1, none⟩ a1).setCell ⟨b, k + 2, none⟩ a2).setCell ⟨b, k + 3, none⟩ a3).setCell ⟨b, k + 4, none⟩ a4).setCell ⟨b, k + 5, none⟩ a5) b cur' t ∧ cur'.size = cur.size ∧ (∀ j, j < k ∨ k + 5 < j → cur'[j]? = cur[j]?) ∧ cur'[k]? = some a0 ∧ cur'[k + 1]? = some a1 ∧ cur'[k + 2]? = some a2 ∧ cur'[k + 3]? = some a3 ∧ cur'[k + 4]? = some a4 ∧ cur'[k + 5]? = some a5 := by
  obtain ⟨c4, q1, q2, q3, q4, q5, q6, q7⟩ := h.set4 k a0 a1 a2 a3 (by omega)
  obtain ⟨c6, p1, p2, p3, p4, p5⟩ := q1.set2 (k + 4) a4 a5 (by omega)
  refine ⟨c6, p1, p2.trans q2, fun j hj => by rw [p3 _ (by omega), q3 _ (by omega)], ?_, ?_, ?_, ?_, p4, p5⟩
  · rw [p3 _ (by omega)]; exact q4
  · rw [p3 _ (by omega)]; exact q5
  · rw [p3 _ (by omega)]; exact q6
  · rw [p3 _ (by omega)]; exact q7
theorem Bk.set9 {w : World} {b : Nat} {cur : Array Value} {t : TypeId} (h : Bk w b cur t) (k : Nat) (a0 a1 a2 a3 a4 a5 a6 a7 a8 : Value) (hk : k + 8 < cur.size) :
    ∃ cur', Bk (((((((((w.setCell ⟨b, k, none⟩ a0).setCell ⟨b, k + 1, none⟩ a1).setCell ⟨b, k + 2, none⟩ a2).setCell ⟨b, k + 3, none⟩ a3).setCell ⟨b, k + 4, none⟩ a4).setCell ⟨b, k + 5, none⟩ a5).setCell ⟨b, k + 6, none⟩ a6).setCell ⟨b, k + 7, none⟩ a7).setCell ⟨b, k + 8, none⟩ a8) b cur' t ∧ cur'.size = cur.size ∧ (∀ j, j < k ∨ k + 8 < j → cur'[j]? = cur[j]?) ∧ cur'[k]? = some a0 ∧ cur'[k + 1]? = some a1 ∧ cur'[k + 2]? = some a2 ∧ cur'[k + 3]? = some a3 ∧ cur'[k + 4]? = some a4 ∧ cur'[k + 5]? = some a5 ∧ cur'[k + 6]? = some a6 ∧ cur'[k + 7]? = some a7 ∧ cur'[k + 8]? = some a8 := by
  obtain ⟨c6, q1, q2, q3, q4, q5, q6, q7, q8, q9⟩ := h.set6 k a0 a1 a2 a3 a4 a5 (by omega)
  obtain ⟨c8, p1, p2, p3, p4, p5⟩ := q1.set2 (k + 6) a6 a7 (by omega)
  have s1 : k + 8 < c8.size := by omega
  refine ⟨c8.set (k + 8) a8 s1, p1.set (k + 8) a8 s1, by simp; omega, fun j hj => by rw [Array.getElem?_set_ne _ (by omega), p3 _ (by omega), q3 _ (by omega)], ?_, ?_, ?_, ?_, ?_, ?_, ?_, ?_, by simp [s1]⟩
  · rw [Array.getElem?_set_ne _ (by omega), p3 _ (by omega)]; exact q4
  · rw [Array.getElem?_set_ne _ (by omega), p3 _ (by omega)]; exact q5
  · rw [Array.getElem?_set_ne _ (by omega), p3 _ (by omega)]; exact q6
  · rw [Array.getElem?_set_ne _ (by omega), p3 _ (by omega)]; exact q7
  · rw [Array.getElem?_set_ne _ (by omega), p3 _ (by omega)]; exact q8
  · rw [Array.getElem?_set_ne _ (by omega), p3 _ (by omega)]; exact q9
  · rw [Array.getElem?_set_ne _ (by omega)]; exact p4
  · rw [Array.getElem?_set_ne _ (by omega)]; exact p5
theorem Bk.some6 {w : World} {b : Nat} {cur : Array Value} {t : TypeId} (h : Bk w b cur t) (k : Nat) (hk : k + 5 < cur.size) : ∀ j, j < 6 → ∃ v, w.cell? ⟨b, k + j, none⟩ = some v := fun j hj => h.some1 (k + j) (by omega)
theorem Bk.some9 {w : World} {b : Nat} {cur : Array Value} {t : TypeId} (h : Bk w b cur t) (k : Nat) (hk : k + 8 < cur.size) : ∀ j, j < 9 → ∃ v, w.cell? ⟨b, k + j, none⟩ = some v := fun j hj => h.some1 (k + j) (by omega)
/-- A step that is handed in. -/
structure HS1 (w : World) (lo : Nat) (cur : Array Value) (k : Nat) (s s' : St) : Prop where
  cs : ∀ c, c < 6 → cur[k * 6 + c]? = some (s'.cs.getD c default)
  kind : s'.kind = s.kind
  want : s'.want = s.want
  e : s'.e = s.e
  xh : XH w lo s.e s'.x
/-- The steps of an action that are handed in, the first k of them. -/
structure HSS (w : World) (lo sb : Nat) (ss : List St) (k : Nat) (cur : Array Value) (S : Nat → St) : Prop where
  lo : lo ≤ sb
  bk : Bk w sb cur 73
  sz : cur.size = (ss.length + 3) * 6
  st : ∀ j, j < k → j < ss.length → HS1 w (sb + 1) cur j (ss.getD j default) (S j)
  mrk : ∀ j, j < k → ss.length ≤ j → j < ss.length + 3 → cur[j * 6]? = some (.int .i64 (-77))
theorem HSS.keep {w w' : World} {lo sb : Nat} {ss : List St} {k : Nat} {cur : Array Value} {S : Nat → St} (h : HSS w lo sb ss k cur S) (hw : ∀ c, lo ≤ c → c < w.heap.size → w'.heap[c]? = w.heap[c]?) : HSS w' lo sb ss k cur S :=
  ⟨h.lo, (hw sb h.lo h.bk.lt).trans h.bk, h.sz, fun j h1 h2 => ⟨(h.st j h1 h2).cs, (h.st j h1 h2).kind, (h.st j h1 h2).want, (h.st j h1 h2).e, (h.st j h1 h2).xh.keep (fun c q1 q2 => hw c (by have := h.lo; omega) q2)⟩, h.mrk⟩
/-- An action that is handed in. -/
structure HA1 (w : World) (lo : Nat) (CUR : Array Value) (i : Nat) (a a' : At) : Prop where
  cs : ∀ c, c < 9 → CUR[i * 9 + c]? = some (a'.cs.getD c default)
  day : a'.day = a.day
  kind : a'.kind = a.kind
  e : a'.e = a.e
  cur : a'.cur = a.cur
  cell : a'.cell = a.cell
  xh : XH w lo a.e a'.x
  sl : a'.ss.length = a.ss.length
  sc : a'.sc = a.ss.length + 3
  ss : ∃ sb cur, a'.sa = some ⟨sb, 0, none⟩ ∧ HSS w lo sb a.ss (a.ss.length + 3) cur (fun j => a'.ss.getD j default)
theorem HA1.keep {w w' : World} {lo : Nat} {CUR : Array Value} {i : Nat} {a a' : At} (h : HA1 w lo CUR i a a') (hw : ∀ c, lo ≤ c → c < w.heap.size → w'.heap[c]? = w.heap[c]?) : HA1 w' lo CUR i a a' := by
  obtain ⟨sb, cur, q1, q2⟩ := h.ss
  exact ⟨h.cs, h.day, h.kind, h.e, h.cur, h.cell, h.xh.keep hw, h.sl, h.sc, sb, cur, q1, q2.keep hw⟩
theorem HA1.other {w : World} {lo : Nat} {CUR CUR' : Array Value} {i : Nat} {a a' : At} (h : HA1 w lo CUR i a a') (hc : ∀ c, c < 9 → CUR'[i * 9 + c]? = CUR[i * 9 + c]?) : HA1 w lo CUR' i a a' :=
  ⟨fun c q => (hc c q).trans (h.cs c q), h.day, h.kind, h.e, h.cur, h.cell, h.xh, h.sl, h.sc, h.ss⟩
/-- The actions that are handed in, the first i of them, in block b. -/
structure HAs (w : World) (b : Nat) (al : List At) (i : Nat) (CUR : Array Value) (A : Nat → At) : Prop where
  bk : Bk w b CUR 71
  sz : CUR.size = (al.length + 3) * 9
  act : ∀ j, j < i → j < al.length → HA1 w (b + 1) CUR j (al.getD j default) (A j)
  mrk : ∀ j, j < i → al.length ≤ j → j < al.length + 3 → CUR[j * 9]? = some (.int .i64 (-77)) ∧ CUR[j * 9 + 2]? = some (.slice none 0 0)
theorem HAs.later {w w' : World} {b : Nat} {al : List At} {i : Nat} {CUR : Array Value} {A : Nat → At} (h : HAs w b al i CUR A) (g : Below w.heap.size w w') : HAs w' b al i CUR A :=
  ⟨h.bk.below g h.bk.lt, h.sz, fun j h1 h2 => (h.act j h1 h2).keep (fun c _ q => g.block c q), h.mrk⟩
theorem other6 (w : World) (b k : Nat) (v0 v1 v2 v3 v4 v5 : Value) (c : Nat) (hc : c ≠ b) : ((((((w.setCell ⟨b, k, none⟩ v0).setCell ⟨b, k + 1, none⟩ v1).setCell ⟨b, k + 2, none⟩ v2).setCell ⟨b, k + 3, none⟩ v3).setCell ⟨b, k + 4, none⟩ v4).setCell ⟨b, k + 5, none⟩ v5).heap[c]? = w.heap[c]? := by
  rw [heap_set_other _ _ _ _ _ (Ne.symm hc), heap_set_other _ _ _ _ _ (Ne.symm hc), heap_set_other _ _ _ _ _ (Ne.symm hc), heap_set_other _ _ _ _ _ (Ne.symm hc), heap_set_other _ _ _ _ _ (Ne.symm hc), heap_set_other _ _ _ _ _ (Ne.symm hc)]
theorem other9 (w : World) (b k : Nat) (v0 v1 v2 v3 v4 v5 v6 v7 v8 : Value) (c : Nat) (hc : c ≠ b) : (((((((((w.setCell ⟨b, k, none⟩ v0).setCell ⟨b, k + 1, none⟩ v1).setCell ⟨b, k + 2, none⟩ v2).setCell ⟨b, k + 3, none⟩ v3).setCell ⟨b, k + 4, none⟩ v4).setCell ⟨b, k + 5, none⟩ v5).setCell ⟨b, k + 6, none⟩ v6).setCell ⟨b, k + 7, none⟩ v7).setCell ⟨b, k + 8, none⟩ v8).heap[c]? = w.heap[c]? := by
  rw [heap_set_other _ _ _ _ _ (Ne.symm hc), heap_set_other _ _ _ _ _ (Ne.symm hc), heap_set_other _ _ _ _ _ (Ne.symm hc), heap_set_other _ _ _ _ _ (Ne.symm hc), heap_set_other _ _ _ _ _ (Ne.symm hc), heap_set_other _ _ _ _ _ (Ne.symm hc), heap_set_other _ _ _ _ _ (Ne.symm hc), heap_set_other _ _ _ _ _ (Ne.symm hc), heap_set_other _ _ _ _ _ (Ne.symm hc)]
theorem other4 (w : World) (b k : Nat) (v0 v1 v2 v3 : Value) (c : Nat) (hc : c ≠ b) : ((((w.setCell ⟨b, k, none⟩ v0).setCell ⟨b, k + 1, none⟩ v1).setCell ⟨b, k + 2, none⟩ v2).setCell ⟨b, k + 3, none⟩ v3).heap[c]? = w.heap[c]? := by
  rw [heap_set_other _ _ _ _ _ (Ne.symm hc), heap_set_other _ _ _ _ _ (Ne.symm hc), heap_set_other _ _ _ _ _ (Ne.symm hc), heap_set_other _ _ _ _ _ (Ne.symm hc)]
theorem belowS6 {B : Nat} {w0 w : World} (h : Below B w0 w) (b k : Nat) (hb : B ≤ b) (v0 v1 v2 v3 v4 v5 : Value) : Below B w0 ((((((w.setCell ⟨b, k, none⟩ v0).setCell ⟨b, k + 1, none⟩ v1).setCell ⟨b, k + 2, none⟩ v2).setCell ⟨b, k + 3, none⟩ v3).setCell ⟨b, k + 4, none⟩ v4).setCell ⟨b, k + 5, none⟩ v5) := ((((((h.setCell (p := ⟨b, k, none⟩) hb _).setCell (p := ⟨b, k + 1, none⟩) hb _).setCell (p := ⟨b, k + 2, none⟩) hb _).setCell (p := ⟨b, k + 3, none⟩) hb _).setCell (p := ⟨b, k + 4, none⟩) hb _).setCell (p := ⟨b, k + 5, none⟩) hb _)
theorem belowS9 {B : Nat} {w0 w : World} (h : Below B w0 w) (b k : Nat) (hb : B ≤ b) (v0 v1 v2 v3 v4 v5 v6 v7 v8 : Value) : Below B w0 (((((((((w.setCell ⟨b, k, none⟩ v0).setCell ⟨b, k + 1, none⟩ v1).setCell ⟨b, k + 2, none⟩ v2).setCell ⟨b, k + 3, none⟩ v3).setCell ⟨b, k + 4, none⟩ v4).setCell ⟨b, k + 5, none⟩ v5).setCell ⟨b, k + 6, none⟩ v6).setCell ⟨b, k + 7, none⟩ v7).setCell ⟨b, k + 8, none⟩ v8) := (((((((((h.setCell (p := ⟨b, k, none⟩) hb _).setCell (p := ⟨b, k + 1, none⟩) hb _).setCell (p := ⟨b, k + 2, none⟩) hb _).setCell (p := ⟨b, k + 3, none⟩) hb _).setCell (p := ⟨b, k + 4, none⟩) hb _).setCell (p := ⟨b, k + 5, none⟩) hb _).setCell (p := ⟨b, k + 6, none⟩) hb _).setCell (p := ⟨b, k + 7, none⟩) hb _).setCell (p := ⟨b, k + 8, none⟩) hb _)
theorem belowS4 {B : Nat} {w0 w : World} (h : Below B w0 w) (b k : Nat) (hb : B ≤ b) (v0 v1 v2 v3 : Value) : Below B w0 ((((w.setCell ⟨b, k, none⟩ v0).setCell ⟨b, k + 1, none⟩ v1).setCell ⟨b, k + 2, none⟩ v2).setCell ⟨b, k + 3, none⟩ v3) := ((((h.setCell (p := ⟨b, k, none⟩) hb _).setCell (p := ⟨b, k + 1, none⟩) hb _).setCell (p := ⟨b, k + 2, none⟩) hb _).setCell (p := ⟨b, k + 3, none⟩) hb _)
theorem HSS.any {w : World} {lo sb : Nat} {ss : List St} {k : Nat} {cur : Array Value} {S : Nat → St} (h : HSS w lo sb ss k cur S) (hk : k < ss.length + 3) (v0 v1 v2 v3 v4 v5 : Value) :
    ∃ cur', HSS ((((((w.setCell ⟨sb, k * 6, none⟩ v0).setCell ⟨sb, k * 6 + 1, none⟩ v1).setCell ⟨sb, k * 6 + 2, none⟩ v2).setCell ⟨sb, k * 6 + 3, none⟩ v3).setCell ⟨sb, k * 6 + 4, none⟩ v4).setCell ⟨sb, k * 6 + 5, none⟩ v5) lo sb ss k cur' S ∧ cur'[k * 6]? = some v0 ∧ cur'[k * 6 + 1]? = some v1 := by
  obtain ⟨cur', q1, q2, q3, q4, q5, _⟩ := h.bk.set6 (k * 6) v0 v1 v2 v3 v4 v5 (by have := h.sz; omega)
  refine ⟨cur', ⟨h.lo, q1, q2.trans h.sz, fun j h1 h2 => ⟨fun c hc => ?_, (h.st j h1 h2).kind, (h.st j h1 h2).want, (h.st j h1 h2).e, (h.st j h1 h2).xh.keep (fun c p1 p2 => other6 w sb (k * 6) v0 v1 v2 v3 v4 v5 c (by omega))⟩, fun j h1 h2 h3 => ?_⟩, q4, q5⟩
  · rw [q3 _ (by omega)]; exact (h.st j h1 h2).cs c hc
  · rw [q3 _ (by omega)]; exact h.mrk j h1 h2 h3
theorem HSS.odd {w : World} {lo sb : Nat} {ss : List St} {k : Nat} {cur : Array Value} {S : Nat → St} (h : HSS w lo sb ss k cur S) (hk : k < ss.length + 3) (hm : ss.length ≤ k) (v1 v2 v3 v4 v5 : Value) :
    ∃ cur', HSS ((((((w.setCell ⟨sb, k * 6, none⟩ (.int .i64 (-77))).setCell ⟨sb, k * 6 + 1, none⟩ v1).setCell ⟨sb, k * 6 + 2, none⟩ v2).setCell ⟨sb, k * 6 + 3, none⟩ v3).setCell ⟨sb, k * 6 + 4, none⟩ v4).setCell ⟨sb, k * 6 + 5, none⟩ v5) lo sb ss (k + 1) cur' S := by
  obtain ⟨cur', q, q0, _⟩ := h.any hk (.int .i64 (-77)) v1 v2 v3 v4 v5
  refine ⟨cur', q.lo, q.bk, q.sz, fun j h1 h2 => q.st j (by omega) h2, fun j h1 h2 h3 => ?_⟩
  by_cases e : j = k
  · subst e; exact q0
  · exact q.mrk j (by omega) h2 h3
theorem HSS.next {w w5 : World} {lo sb : Nat} {ss : List St} {k : Nat} {cur : Array Value} {S : Nat → St} (h : HSS w lo sb ss k cur S) (hk : k < ss.length) {s : St} (hs : ss.getD k default = s) {v0 v1 v2 v3 v4 v5 : Value} {u2 u3 u4 u5 : Value} (b5 : Below w.heap.size ((((((((((((w.setCell ⟨sb, k * 6, none⟩ v0).setCell ⟨sb, k * 6 + 1, none⟩ v1).setCell ⟨sb, k * 6 + 2, none⟩ v2).setCell ⟨sb, k * 6 + 3, none⟩ v3).setCell ⟨sb, k * 6 + 4, none⟩ v4).setCell ⟨sb, k * 6 + 5, none⟩ v5).setCell ⟨sb, k * 6, none⟩ (.int .i64 s.kind)).setCell ⟨sb, k * 6 + 1, none⟩ (.bool s.want)).setCell ⟨sb, k * 6 + 2, none⟩ u2).setCell ⟨sb, k * 6 + 3, none⟩ u3).setCell ⟨sb, k * 6 + 4, none⟩ u4).setCell ⟨sb, k * 6 + 5, none⟩ u5) w5) {y0 y1 y2 y3 : Value} (hx : XH w5 w.heap.size s.e [y0, y1, y2, y3]) :
    ∃ cur' S', HSS ((((w5.setCell ⟨sb, k * 6 + 2, none⟩ y0).setCell ⟨sb, k * 6 + 3, none⟩ y1).setCell ⟨sb, k * 6 + 4, none⟩ y2).setCell ⟨sb, k * 6 + 5, none⟩ y3) lo sb ss (k + 1) cur' S' := by
  obtain ⟨c1, q1, _⟩ := h.any (by omega) v0 v1 v2 v3 v4 v5
  obtain ⟨c2, q2, e0, e1⟩ := q1.any (by omega) (.int .i64 s.kind) (.bool s.want) u2 u3 u4 u5
  have hlt := h.bk.lt
  have q5 := q2.keep (w' := w5) (fun c p1 p2 => b5.block c (by simpa using p2))
  obtain ⟨c3, r1, r2, r3, r4, r5, r6, r7⟩ := q5.bk.set4 (k * 6 + 2) y0 y1 y2 y3 (by have := h.sz; have := q5.sz; omega)
  have ho := other4 w5 sb (k * 6 + 2) y0 y1 y2 y3
  refine ⟨c3, fun j => if j = k then { s with x := [y0, y1, y2, y3] } else S j, h.lo, r1, r2.trans q5.sz, fun j h1 h2 => ?_, fun j h1 h2 h3 => ?_⟩
  · by_cases e : j = k
    · subst e
      simp only [if_true]
      refine ⟨fun c hc => ?_, by rw [hs], by rw [hs], by rw [hs], ?_⟩
      · match c, hc with
        | 0, _ => rw [r3 _ (by omega)]; exact e0
        | 1, _ => rw [r3 _ (by omega)]; exact e1
        | 2, _ => exact r4
        | 3, _ => exact r5
        | 4, _ => exact r6
        | 5, _ => exact r7
      · rw [hs]; exact (hx.lower (by omega)).keep (fun c p1 p2 => ho c (by omega))
    · simp only [if_neg e]
      have q := q5.st j (by omega) h2
      exact ⟨fun c hc => by rw [r3 _ (by omega)]; exact q.cs c hc, q.kind, q.want, q.e, q.xh.keep (fun c p1 p2 => ho c (by omega))⟩
  · rw [r3 _ (by omega)]; exact q5.mrk j (by omega) h2 h3
theorem HAs.any {w : World} {b : Nat} {al : List At} {i : Nat} {CUR : Array Value} {A : Nat → At} (h : HAs w b al i CUR A) (hi : i < al.length + 3) (v0 v1 v2 v3 v4 v5 v6 v7 v8 : Value) :
    ∃ CUR', HAs (((((((((w.setCell ⟨b, i * 9, none⟩ v0).setCell ⟨b, i * 9 + 1, none⟩ v1).setCell ⟨b, i * 9 + 2, none⟩ v2).setCell ⟨b, i * 9 + 3, none⟩ v3).setCell ⟨b, i * 9 + 4, none⟩ v4).setCell ⟨b, i * 9 + 5, none⟩ v5).setCell ⟨b, i * 9 + 6, none⟩ v6).setCell ⟨b, i * 9 + 7, none⟩ v7).setCell ⟨b, i * 9 + 8, none⟩ v8) b al i CUR' A ∧ CUR'[i * 9]? = some v0 ∧ CUR'[i * 9 + 1]? = some v1 ∧ CUR'[i * 9 + 2]? = some v2 ∧ CUR'[i * 9 + 3]? = some v3 ∧ CUR'[i * 9 + 4]? = some v4 ∧ CUR'[i * 9 + 5]? = some v5 ∧ CUR'[i * 9 + 6]? = some v6 ∧ CUR'[i * 9 + 7]? = some v7 ∧ CUR'[i * 9 + 8]? = some v8 := by
  obtain ⟨cur', q1, q2, q3, q4⟩ := h.bk.set9 (i * 9) v0 v1 v2 v3 v4 v5 v6 v7 v8 (by have := h.sz; omega)
  refine ⟨cur', ⟨q1, q2.trans h.sz, fun j h1 h2 => ((h.act j h1 h2).keep (fun c p1 p2 => other9 w b (i * 9) v0 v1 v2 v3 v4 v5 v6 v7 v8 c (by omega))).other (fun c hc => q3 _ (by omega)), fun j h1 h2 h3 => ?_⟩, q4⟩
  rw [q3 _ (by omega), q3 _ (by omega)]; exact h.mrk j h1 h2 h3
theorem HAs.odd {w : World} {b : Nat} {al : List At} {i : Nat} {CUR : Array Value} {A : Nat → At} (h : HAs w b al i CUR A) (hi : i < al.length + 3) (hm : al.length ≤ i) (v1 v3 v4 v5 v6 v7 v8 : Value) :
    ∃ CUR', HAs (((((((((w.setCell ⟨b, i * 9, none⟩ (.int .i64 (-77))).setCell ⟨b, i * 9 + 1, none⟩ v1).setCell ⟨b, i * 9 + 2, none⟩ (.slice none 0 0)).setCell ⟨b, i * 9 + 3, none⟩ v3).setCell ⟨b, i * 9 + 4, none⟩ v4).setCell ⟨b, i * 9 + 5, none⟩ v5).setCell ⟨b, i * 9 + 6, none⟩ v6).setCell ⟨b, i * 9 + 7, none⟩ v7).setCell ⟨b, i * 9 + 8, none⟩ v8) b al (i + 1) CUR' A := by
  obtain ⟨CUR', q, q0, _, q2, _⟩ := h.any hi (.int .i64 (-77)) v1 (.slice none 0 0) v3 v4 v5 v6 v7 v8
  refine ⟨CUR', q.bk, q.sz, fun j h1 h2 => q.act j (by omega) h2, fun j h1 h2 h3 => ?_⟩
  by_cases e : j = i
  · subst e; exact ⟨q0, q2⟩
  · exact q.mrk j (by omega) h2 h3
/-- An action whose steps are not laid yet. -/
structure HAp (w : World) (b : Nat) (al : List At) (i : Nat) (CUR : Array Value) (A : Nat → At) (xs : List Value) : Prop where
  base : HAs w b al i CUR A
  c0 : CUR[i * 9]? = some (.int .i64 (al.getD i default).day)
  c1 : CUR[i * 9 + 1]? = some (.int .i64 (al.getD i default).kind)
  cx : ∀ c, c < 4 → CUR[i * 9 + 3 + c]? = some (xs.getD c default)
  c7 : CUR[i * 9 + 7]? = some (.string (al.getD i default).cur)
  c8 : CUR[i * 9 + 8]? = some (.int .i64 (al.getD i default).cell)
  xl : xs.length = 4
  xh : XH w (b + 1) (al.getD i default).e xs
theorem HAp.later {w w' : World} {b : Nat} {al : List At} {i : Nat} {CUR : Array Value} {A : Nat → At} {xs : List Value} (h : HAp w b al i CUR A xs) (g : Below w.heap.size w w') : HAp w' b al i CUR A xs :=
  ⟨h.base.later g, h.c0, h.c1, h.cx, h.c7, h.c8, h.xl, h.xh.later g⟩
theorem HAs.part {w w5 : World} {b : Nat} {al : List At} {i : Nat} {CUR : Array Value} {A : Nat → At} (h : HAs w b al i CUR A) (hi : i < al.length) {a : At} (ha : al.getD i default = a) {v0 v1 v2 v3 v4 v5 v6 v7 v8 : Value} {u2 u3 u4 u5 u6 : Value} (b5 : Below w.heap.size ((((((((((((((((((w.setCell ⟨b, i * 9, none⟩ v0).setCell ⟨b, i * 9 + 1, none⟩ v1).setCell ⟨b, i * 9 + 2, none⟩ v2).setCell ⟨b, i * 9 + 3, none⟩ v3).setCell ⟨b, i * 9 + 4, none⟩ v4).setCell ⟨b, i * 9 + 5, none⟩ v5).setCell ⟨b, i * 9 + 6, none⟩ v6).setCell ⟨b, i * 9 + 7, none⟩ v7).setCell ⟨b, i * 9 + 8, none⟩ v8).setCell ⟨b, i * 9, none⟩ (.int .i64 a.day)).setCell ⟨b, i * 9 + 1, none⟩ (.int .i64 a.kind)).setCell ⟨b, i * 9 + 2, none⟩ u2).setCell ⟨b, i * 9 + 3, none⟩ u3).setCell ⟨b, i * 9 + 4, none⟩ u4).setCell ⟨b, i * 9 + 5, none⟩ u5).setCell ⟨b, i * 9 + 6, none⟩ u6).setCell ⟨b, i * 9 + 7, none⟩ (.string a.cur)).setCell ⟨b, i * 9 + 8, none⟩ (.int .i64 a.cell)) w5) {y0 y1 y2 y3 : Value} (hx : XH w5 w.heap.size a.e [y0, y1, y2, y3]) :
    ∃ CUR', HAp ((((w5.setCell ⟨b, i * 9 + 3, none⟩ y0).setCell ⟨b, i * 9 + 4, none⟩ y1).setCell ⟨b, i * 9 + 5, none⟩ y2).setCell ⟨b, i * 9 + 6, none⟩ y3) b al i CUR' A [y0, y1, y2, y3] := by
  subst ha
  obtain ⟨c1, q1, _⟩ := h.any (by omega) v0 v1 v2 v3 v4 v5 v6 v7 v8
  obtain ⟨c2, q2, e0, e1, _, _, _, _, _, e7, e8⟩ := q1.any (by omega) (.int .i64 (al.getD i default).day) (.int .i64 (al.getD i default).kind) u2 u3 u4 u5 u6 (.string (al.getD i default).cur) (.int .i64 (al.getD i default).cell)
  have hlt := h.bk.lt
  have q5 := q2.later (w' := w5) (by have q := b5; exact ⟨q.os, q.tape, q.output, q.size, fun k hk => q.block k (by simpa using hk)⟩)
  obtain ⟨c3, r1, r2, r3, r4, r5, r6, r7⟩ := q5.bk.set4 (i * 9 + 3) y0 y1 y2 y3 (by have := h.sz; have := q5.sz; omega)
  have ho := other4 w5 b (i * 9 + 3) y0 y1 y2 y3
  refine ⟨c3, ⟨r1, r2.trans q5.sz, fun j h1 h2 => ((q5.act j h1 h2).keep (fun c p1 p2 => ho c (by omega))).other (fun c hc => r3 _ (by omega)), fun j h1 h2 h3 => ?_⟩, ?_, ?_, fun c hc => ?_, ?_, ?_, rfl, (hx.lower (by omega)).keep (fun c p1 p2 => ho c (by omega))⟩
  · rw [r3 _ (by omega), r3 _ (by omega)]; exact q5.mrk j h1 h2 h3
  · rw [r3 _ (by omega)]; exact e0
  · rw [r3 _ (by omega)]; exact e1
  · match c, hc with
    | 0, _ => exact r4
    | 1, _ => exact r5
    | 2, _ => exact r6
    | 3, _ => exact r7
  · rw [r3 _ (by omega)]; exact e7
  · rw [r3 _ (by omega)]; exact e8
theorem HAp.next {w w8 : World} {b : Nat} {al : List At} {i : Nat} {CUR : Array Value} {A : Nat → At} {xs : List Value} (h : HAp w b al i CUR A xs) (hi : i < al.length) (b8 : Below w.heap.size w w8) {m : Nat} (hm : (al.getD i default).ss.length = m) {cur : Array Value} {S : Nat → St} (hs : HSS w8 (b + 1) w.heap.size (al.getD i default).ss (m + 3) cur S) :
    ∃ CUR' A', HAs (w8.setCell ⟨b, i * 9 + 2, none⟩ (.slice (some ⟨w.heap.size, 0, none⟩) m (m + 3))) b al (i + 1) CUR' A' := by
  subst hm
  have h8 := h.later b8
  have s1 : i * 9 + 2 < CUR.size := by have := h8.base.sz; omega
  obtain ⟨y0, y1, y2, y3, rfl⟩ : ∃ y0 y1 y2 y3, xs = [y0, y1, y2, y3] := by
    have := h.xl
    match xs, this with
    | [y0, y1, y2, y3], _ => exact ⟨_, _, _, _, rfl⟩
  have kp : ∀ c, b + 1 ≤ c → c < w8.heap.size → (w8.setCell ⟨b, i * 9 + 2, none⟩ (.slice (some ⟨w.heap.size, 0, none⟩) (al.getD i default).ss.length ((al.getD i default).ss.length + 3))).heap[c]? = w8.heap[c]? := fun c p1 p2 => heap_set_other _ _ _ _ _ (by omega)
  refine ⟨CUR.set (i * 9 + 2) _ s1, fun j => if j = i then { al.getD i default with sa := some ⟨w.heap.size, 0, none⟩, sc := (al.getD i default).ss.length + 3, ss := (List.range (al.getD i default).ss.length).map S, x := [y0, y1, y2, y3] } else A j, h8.base.bk.set _ _ s1, by simpa using h8.base.sz, fun j h1 h2 => ?_, fun j h1 h2 h3 => ?_⟩
  · by_cases e : j = i
    · subst e
      simp only [if_true]
      refine ⟨fun c hc => ?_, rfl, rfl, rfl, rfl, rfl, h8.xh.keep kp, by simp, rfl, w.heap.size, cur, rfl, ?_⟩
      · match c, hc with
        | 0, _ => rw [Array.getElem?_set_ne _ (by omega)]; exact h8.c0
        | 1, _ => rw [Array.getElem?_set_ne _ (by omega)]; exact h8.c1
        | 2, _ => simp [s1, At.cs]
        | 3, _ => rw [Array.getElem?_set_ne _ (by omega)]; exact h8.cx 0 (by omega)
        | 4, _ => rw [Array.getElem?_set_ne _ (by omega)]; exact h8.cx 1 (by omega)
        | 5, _ => rw [Array.getElem?_set_ne _ (by omega)]; exact h8.cx 2 (by omega)
        | 6, _ => rw [Array.getElem?_set_ne _ (by omega)]; exact h8.cx 3 (by omega)
        | 7, _ => rw [Array.getElem?_set_ne _ (by omega)]; exact h8.c7
        | 8, _ => rw [Array.getElem?_set_ne _ (by omega)]; exact h8.c8
      · have q := hs.keep kp
        exact ⟨q.lo, q.bk, q.sz, fun k p1 p2 => by rw [xgetD_map_range p2]; exact q.st k p1 p2, q.mrk⟩
    · simp only [if_neg e]
      exact ((h8.base.act j (by omega) h2).keep kp).other (fun c hc => by rw [Array.getElem?_set_ne _ (by omega)])
  · rw [Array.getElem?_set_ne _ (by omega), Array.getElem?_set_ne _ (by omega)]; exact h8.base.mrk j (by omega) h2 h3
theorem infoA : (Try.prog.info? 71).map (fun i => (i.zero, i.size, i.bytes)) = some (some (.agg #[.int .i64 0, .int .i64 0, .slice none 0 0, .int .i64 0, .int .i64 0, .int .i64 0, .slice none 0 0, .string ⟨#[]⟩, .int .i64 0]), 9, 112) := by kernel_rfl
theorem infoSt : (Try.prog.info? 73).map (fun i => (i.zero, i.size, i.bytes)) = some (some (.agg #[.int .i64 0, .bool false, .int .i64 0, .int .i64 0, .int .i64 0, .slice none 0 0]), 6, 64) := by kernel_rfl
theorem make_as3 (W : World) (n : Nat) (hn : n ≤ 1256584717422) : (Instr.makeSlice 39 (.int .i64 ((n : Int) + 3)) (.int .i64 ((n : Int) + 3))).run Try.prog W = .ok (.slice (some ⟨W.heap.size, 0, none⟩) (n + 3) (n + 3)) (W.alloc (.cells (madeCells #[.int .i64 0, .int .i64 0, .slice none 0 0, .int .i64 0, .int .i64 0, .int .i64 0, .slice none 0 0, .string ⟨#[]⟩, .int .i64 0] ((n + 3) * 9)) 71)) := by
  obtain ⟨i0, hi, hz0, hz1, hz2⟩ := info_parts infoA
  have := run_make (P := Try.prog) W 39 71 i0 _ Try.underlying39 hi hz0 .i64 .i64 ((n : Int) + 3) ((n : Int) + 3) (by omega) (by omega) (by rw [hz2]; omega) (by omega)
  rw [hz1] at this
  have e2 : ((n : Int) + 3).toNat = n + 3 := by omega
  simpa [Value.cells, e2] using this
theorem make_st3 (W : World) (n : Nat) (hn : n ≤ 2199023255488) : (Instr.makeSlice 69 (.int .i64 ((n : Int) + 3)) (.int .i64 ((n : Int) + 3))).run Try.prog W = .ok (.slice (some ⟨W.heap.size, 0, none⟩) (n + 3) (n + 3)) (W.alloc (.cells (madeCells #[.int .i64 0, .bool false, .int .i64 0, .int .i64 0, .int .i64 0, .slice none 0 0] ((n + 3) * 6)) 73)) := by
  obtain ⟨i0, hi, hz0, hz1, hz2⟩ := info_parts infoSt
  have := run_make (P := Try.prog) W 69 73 i0 _ Try.underlying69 hi hz0 .i64 .i64 ((n : Int) + 3) ((n : Int) + 3) (by omega) (by omega) (by rw [hz2]; omega) (by omega)
  rw [hz1] at this
  have e2 : ((n : Int) + 3).toNat = n + 3 := by omega
  simpa [Value.cells, e2] using this
end Go.Proofs.Ytjlnbhmiahegmaa

namespace Go.Proofs.Ytjlnbhmiahegmaa
open Go.RowKit
set_option linter.unusedVariables false
set_option linter.unusedSimpArgs false

set_option maxRecDepth 100000 in
set_option maxHeartbeats 20000000 in
theorem handActions_any {w : World} {al : List At} {pa : Option Addr} {pc : Nat} (hA : AL w pa al) (hN : ∀ a ∈ al, a.e.n ≤ 1048576 ∧ ∀ s ∈ a.ss, s.e.n ≤ 1048576) :
    Calls Try.prog 16 #[.slice pa al.length pc] w fun e' w' => (∃ CUR A, e' = .returned (.slice (some ⟨w.heap.size, 0, none⟩) al.length (al.length + 3)) ∧ HAs w' w.heap.size al (al.length + 3) CUR A) ∧ Below w.heap.size w w' := by
  have hn := hA.1
  have MK := fun W => make_as3 W al.length hn
  obtain ⟨w3, hw3⟩ : ∃ w3, w.alloc (.cells (madeCells #[.int .i64 0, .int .i64 0, .slice none 0 0, .int .i64 0, .int .i64 0, .int .i64 0, .slice none 0 0, .string ⟨#[]⟩, .int .i64 0] ((al.length + 3) * 9)) 71) = w3 := ⟨_, rfl⟩
  have S3 := Lib.hid (show ∃ CUR A, HAs w3 w.heap.size al 0 CUR A ∧ Below w.heap.size w w3 by
    subst hw3
    exact ⟨_, fun _ => default, ⟨Bk.new w _ _, by simp [madeCells], fun j hj => absurd hj (by omega), fun j hj => absurd hj (by omega)⟩, (Below.refl _ _).alloc (Nat.le_refl _) _⟩)
  have HW3 := Lib.hid hw3
  have HA := Lib.hid hA
  have HM := Lib.hid (show ∀ i, i < al.length → al.getD i default ∈ al from fun i hi => by rw [show al.getD i default = al[i] by simp [List.getD, hi]]; exact List.getElem_mem hi)
  have HN := Lib.hid hN
  obtain ⟨n, hnn⟩ : ∃ n, al.length = n := ⟨_, rfl⟩
  have HL := Lib.hid hnn
  rw [hnn] at hn MK HW3 ⊢
  clear hw3 hA hN hnn
  go_enter Try.func16, Try.ntmps16
  go_wp2
  rw [HW3.out]
  clear HW3 MK
  go_loopw [4] (fun t wr => ∃ (i : Nat), i ≤ n + 3 ∧ t = .int .i64 i ∧ ∃ CUR A, HAs wr w.heap.size al i CUR A ∧ Below w.heap.size w wr) (fun t _ => n + 3 - (intOf t).toNat)
  case atStart => exact ⟨0, by omega, rfl, S3.out⟩
  case round =>
    rename World => wo
    clear S3
    obtain ⟨i, hi, rfl, CUR, A, hS, hBl⟩ := hrel
    have SS := Lib.hid hS
    have BL := Lib.hid hBl
    clear hS hBl
    by_cases il : i < n + 3
    · have ic : (i : Int) < (n : Int) + 3 := by omega
      have szz : i * 9 + 8 < CUR.size := by have := SS.out.sz; have := HL.out; omega
      have S9 := SS.out.bk.some9 (i * 9) szz
      obtain ⟨m0, d0⟩ := S9 0 (by omega)
      obtain ⟨m1, d1⟩ := S9 1 (by omega)
      obtain ⟨m2, d2⟩ := S9 2 (by omega)
      obtain ⟨m3, d3⟩ := S9 3 (by omega)
      obtain ⟨m4, d4⟩ := S9 4 (by omega)
      obtain ⟨m5, d5⟩ := S9 5 (by omega)
      obtain ⟨m6, d6⟩ := S9 6 (by omega)
      obtain ⟨m7, d7⟩ := S9 7 (by omega)
      obtain ⟨m8, d8⟩ := S9 8 (by omega)
      rw [Nat.add_zero] at d0
      have f0 := SS.out.bk.frozen (i * 9)
      have f1 := SS.out.bk.frozen (i * 9 + 1)
      have f2 := SS.out.bk.frozen (i * 9 + 2)
      have f3 := SS.out.bk.frozen (i * 9 + 3)
      have f4 := SS.out.bk.frozen (i * 9 + 4)
      have f5 := SS.out.bk.frozen (i * 9 + 5)
      have f6 := SS.out.bk.frozen (i * 9 + 6)
      have f7 := SS.out.bk.frozen (i * 9 + 7)
      have f8 := SS.out.bk.frozen (i * 9 + 8)
      clear S9 szz
      by_cases jl : i < n
      · have jc : (i : Int) < (n : Int) := by omega
        have jd : decide (n ≤ i) = false := by simpa using jl
        have jn : ¬ n ≤ i := by omega
        have il' : i < al.length := by rw [HL.out]; exact jl
        obtain ⟨ob, oo, hpa, hob, hat⟩ := HA.out.at (by omega)
        subst hpa
        obtain ⟨hav, hac0⟩ := hat i il'
        have HAV := Lib.hid hav
        have HAC := Lib.hid hac0
        have HNE := Lib.hid (HN.out _ (HM.out i il'))
        have HAG := Lib.hid (show al.getD i default = al.getD i default from rfl)
        obtain ⟨a, ha⟩ : ∃ a, al.getD i default = a := ⟨_, rfl⟩
        rw [ha] at HAV HAC HNE
        have HAEQ := Lib.hid ha
        have hac := HAC.out.later BL.out hob
        obtain ⟨x0, x1, x2, x3, x4, x5, hx, k3, k4, k5, k6⟩ := hac.nine HAV.out
        have k0 := hac.day
        have k1 := hac.kind
        have k2 := hac.ss
        have k7 := hac.cur
        have k8 := hac.cell
        obtain ⟨m, hm⟩ : ∃ m, a.ss.length = m := ⟨_, rfl⟩
        rw [hm] at k2
        have HMM := Lib.hid hm
        have mL : m ≤ 2199023255488 := by rw [← hm]; exact HAV.out.2.2.2.2.2.1.1
        have ne1 : ¬ ob = w.heap.size := by omega
        have ne2 : ¬ w.heap.size = ob := by omega
        obtain ⟨w1, hw1⟩ : ∃ w1, (((((((((wo.setCell ⟨w.heap.size, i * 9, none⟩ (.int .i64 (-77))).setCell ⟨w.heap.size, i * 9 + 1, none⟩ (.int .i64 0)).setCell ⟨w.heap.size, i * 9 + 2, none⟩ (.slice none 0 0)).setCell ⟨w.heap.size, i * 9 + 3, none⟩ (.int .i64 0)).setCell ⟨w.heap.size, i * 9 + 4, none⟩ (.int .i64 0)).setCell ⟨w.heap.size, i * 9 + 5, none⟩ (.int .i64 0)).setCell ⟨w.heap.size, i * 9 + 6, none⟩ (.slice none 0 0)).setCell ⟨w.heap.size, i * 9 + 7, none⟩ (.string ⟨#[]⟩)).setCell ⟨w.heap.size, i * 9 + 8, none⟩ (.int .i64 0)) = w1 := ⟨_, rfl⟩
        have S1 := Lib.hid (show ∃ C1, HAs w1 w.heap.size al i C1 A from by rw [← hw1]; obtain ⟨C1, q, _⟩ := SS.out.any (by rw [HL.out]; exact il) (.int .i64 (-77)) (.int .i64 0) (.slice none 0 0) (.int .i64 0) (.int .i64 0) (.int .i64 0) (.slice none 0 0) (.string ⟨#[]⟩) (.int .i64 0); exact ⟨C1, q⟩)
        have B1 := Lib.hid (show Below w.heap.size w w1 from by rw [← hw1]; exact belowS9 BL.out _ _ (Nat.le_refl _) _ _ _ _ _ _ _ _ _)
        have Z1 := Lib.hid (show w1.heap.size = wo.heap.size from by rw [← hw1]; simp)
        obtain ⟨C1, hS1⟩ := S1.out
        have sz1 : i * 9 + 8 < C1.size := by have := hS1.sz; have := HL.out; omega
        obtain ⟨_, g0⟩ := hS1.bk.some1 (i * 9) (by omega)
        have h0 := hS1.bk.frozen (i * 9)
        obtain ⟨_, g1⟩ := hS1.bk.some1 (i * 9 + 1) (by omega)
        have h1 := hS1.bk.frozen (i * 9 + 1)
        obtain ⟨_, g2⟩ := hS1.bk.some1 (i * 9 + 2) (by omega)
        have h2 := hS1.bk.frozen (i * 9 + 2)
        obtain ⟨_, g3⟩ := hS1.bk.some1 (i * 9 + 3) (by omega)
        have h3 := hS1.bk.frozen (i * 9 + 3)
        obtain ⟨_, g4⟩ := hS1.bk.some1 (i * 9 + 4) (by omega)
        have h4 := hS1.bk.frozen (i * 9 + 4)
        obtain ⟨_, g5⟩ := hS1.bk.some1 (i * 9 + 5) (by omega)
        have h5 := hS1.bk.frozen (i * 9 + 5)
        obtain ⟨_, g6⟩ := hS1.bk.some1 (i * 9 + 6) (by omega)
        have h6 := hS1.bk.frozen (i * 9 + 6)
        obtain ⟨_, g7⟩ := hS1.bk.some1 (i * 9 + 7) (by omega)
        have h7 := hS1.bk.frozen (i * 9 + 7)
        obtain ⟨_, g8⟩ := hS1.bk.some1 (i * 9 + 8) (by omega)
        have h8 := hS1.bk.frozen (i * 9 + 8)
        obtain ⟨w2, hw2⟩ : ∃ w2, (((((((((w1.setCell ⟨w.heap.size, i * 9, none⟩ (.int .i64 a.day)).setCell ⟨w.heap.size, i * 9 + 1, none⟩ (.int .i64 a.kind)).setCell ⟨w.heap.size, i * 9 + 2, none⟩ (.slice a.sa m a.sc)).setCell ⟨w.heap.size, i * 9 + 3, none⟩ (.int .i64 x0)).setCell ⟨w.heap.size, i * 9 + 4, none⟩ (.int .i64 x1)).setCell ⟨w.heap.size, i * 9 + 5, none⟩ (.int .i64 x2)).setCell ⟨w.heap.size, i * 9 + 6, none⟩ (.slice x3 x4 x5)).setCell ⟨w.heap.size, i * 9 + 7, none⟩ (.string a.cur)).setCell ⟨w.heap.size, i * 9 + 8, none⟩ (.int .i64 a.cell)) = w2 := ⟨_, rfl⟩
        have B2 := Lib.hid (show Below w.heap.size w w2 from by rw [← hw2]; exact belowS9 B1.out _ _ (Nat.le_refl _) _ _ _ _ _ _ _ _ _)
        have hac1 := HAC.out.later B1.out hob
        have hac2 := HAC.out.later B2.out hob
        have n0 := hac1.day
        have n1' := hac1.kind
        have n2' := hac1.ss
        obtain ⟨_, _, _, _, _, _, hx', n3, n4, n5, n6⟩ := hac1.nine HAV.out
        rw [hx] at hx'
        injection hx' with e1 hx'; injection hx' with e2 hx'; injection hx' with e3 hx'; injection hx' with e4 _
        injection e1 with _ e1; injection e2 with _ e2; injection e3 with _ e3; injection e4 with e4 e5 e6
        subst e1 e2 e3 e4 e5 e6
        have n7 := hac1.cur
        have n8 := hac1.cell
        obtain ⟨_, _, _, _, _, _, hx', p3, p4, p5, p6⟩ := hac2.nine HAV.out
        rw [hx] at hx'
        injection hx' with e1 hx'; injection hx' with e2 hx'; injection hx' with e3 hx'; injection hx' with e4 _
        injection e1 with _ e1; injection e2 with _ e2; injection e3 with _ e3; injection e4 with e4 e5 e6
        subst e1 e2 e3 e4 e5 e6
        rw [hm] at n2'
        have HXV : XV w a.e [.int .i64 x0, .int .i64 x1, .int .i64 x2, .slice x3 x4 x5] := by rw [← hx]; exact HAV.out.2.2.2.1
        have KX := Lib.hid (handX_any HXV w2 B2.out HNE.out.1)
        have HW2 := Lib.hid hw2
        have HW1 := Lib.hid hw1
        clear hat hav hac0 hac hac1 hac2 hx hm HXV ha HAG
        go_wp2_with fail
        go_at_call 6
        refine KX.out.mono ?_
        rintro e' w5 ⟨vs, rfl, hx5, b5⟩
        obtain ⟨z0, z1, z2, z3, z4, z5, hvs⟩ := hx5.form
        subst hvs
        have X5 := Lib.hid hx5
        have B5 := Lib.hid b5
        have BW5 := Lib.hid (B2.out.trans (b5.mono B2.out.size))
        clear hx5 b5 hw1 hw2
        have S2 := Lib.hid (show ∃ C2, HAs w2 w.heap.size al i C2 A from by rw [← HW2.out]; obtain ⟨C2, q, _⟩ := hS1.any (by rw [HL.out]; exact il) (.int .i64 a.day) (.int .i64 a.kind) (.slice a.sa m a.sc) (.int .i64 x0) (.int .i64 x1) (.int .i64 x2) (.slice x3 x4 x5) (.string a.cur) (.int .i64 a.cell); exact ⟨C2, q⟩)
        have Z2 := Lib.hid (show w2.heap.size = wo.heap.size from by rw [← HW2.out]; simpa using Z1.out)
        obtain ⟨C2, hS2⟩ := S2.out
        have hS5 := hS2.later B5.out
        have sz5 : i * 9 + 8 < C2.size := by have := hS5.sz; have := HL.out; omega
        obtain ⟨_, q0⟩ := hS5.bk.some1 (i * 9 + 3) (by omega)
        have r0 := hS5.bk.frozen (i * 9 + 3)
        obtain ⟨_, q1⟩ := hS5.bk.some1 (i * 9 + 4) (by omega)
        have r1 := hS5.bk.frozen (i * 9 + 4)
        obtain ⟨_, q2⟩ := hS5.bk.some1 (i * 9 + 5) (by omega)
        have r2 := hS5.bk.frozen (i * 9 + 5)
        obtain ⟨_, q3⟩ := hS5.bk.some1 (i * 9 + 6) (by omega)
        have r3 := hS5.bk.frozen (i * 9 + 6)
        obtain ⟨w6, hw6⟩ : ∃ w6, ((((w5.setCell ⟨w.heap.size, i * 9 + 3, none⟩ (.int .i64 z0)).setCell ⟨w.heap.size, i * 9 + 4, none⟩ (.int .i64 z1)).setCell ⟨w.heap.size, i * 9 + 5, none⟩ (.int .i64 z2)).setCell ⟨w.heap.size, i * 9 + 6, none⟩ (.slice z3 z4 z5)) = w6 := ⟨_, rfl⟩
        have PT := Lib.hid (show ∃ C6, HAp w6 w.heap.size al i C6 A [.int .i64 z0, .int .i64 z1, .int .i64 z2, .slice z3 z4 z5] from by
          rw [← hw6]
          refine SS.out.part il' HAEQ.out (v0 := .int .i64 (-77)) (v1 := .int .i64 0) (v2 := .slice none 0 0) (v3 := .int .i64 0) (v4 := .int .i64 0) (v5 := .int .i64 0) (v6 := .slice none 0 0) (v7 := .string ⟨#[]⟩) (v8 := .int .i64 0) (u2 := .slice a.sa m a.sc) (u3 := .int .i64 x0) (u4 := .int .i64 x1) (u5 := .int .i64 x2) (u6 := .slice x3 x4 x5) ?_ (by rw [← Z2.out]; exact X5.out)
          have q := B5.out
          rw [← HW2.out, ← HW1.out] at q
          exact ⟨q.os, q.tape, q.output, q.size, fun c hc => q.block c (by simpa using hc)⟩)
        have B6 := Lib.hid (show Below w.heap.size w w6 from by rw [← hw6]; exact belowS4 BW5.out _ _ (Nat.le_refl _) _ _ _ _)
        have hac6 := HAC.out.later B6.out hob
        have t2 := hac6.ss
        rw [HMM.out] at t2
        have MK2 := fun W => make_st3 W m mL
        obtain ⟨w7, hw7⟩ : ∃ w7, w6.alloc (.cells (madeCells #[.int .i64 0, .bool false, .int .i64 0, .int .i64 0, .int .i64 0, .slice none 0 0] ((m + 3) * 6)) 73) = w7 := ⟨_, rfl⟩
        have BLT := Lib.hid (show w.heap.size + 1 ≤ w6.heap.size from by obtain ⟨C6, q⟩ := PT.out; exact q.base.bk.lt)
        have S7 := Lib.hid (show ∃ cur S, HSS w7 (w.heap.size + 1) w6.heap.size a.ss 0 cur S ∧ Below w6.heap.size w6 w7 by
          rw [← hw7]
          exact ⟨_, fun _ => default, ⟨BLT.out, Bk.new w6 _ _, by simp [madeCells, HMM.out], fun j hj => absurd hj (by omega), fun j hj => absurd hj (by omega)⟩, (Below.refl _ _).alloc (Nat.le_refl _) _⟩)
        have HW6 := Lib.hid hw6
        have HW7 := Lib.hid hw7
        clear hS1 hS2 hS5 hac6 hw7
        go_wp2
        rw [HW7.out]
        clear HW6 HW7 MK2 hw6
        go_loopw [6] (fun t wr => ∃ (k : Nat), k ≤ m + 3 ∧ t = .int .i64 k ∧ ∃ cur S, HSS wr (w.heap.size + 1) w6.heap.size a.ss k cur S ∧ Below w6.heap.size w6 wr) (fun t _ => m + 3 - (intOf t).toNat)
        case atStart => exact ⟨0, by omega, rfl, S7.out⟩
        case round =>
          clear S7 t2
          obtain ⟨k, hk, rfl, cur, S, hT, hTB⟩ := hrel
          have TT := Lib.hid hT
          have TB := Lib.hid hTB
          have BT := Lib.hid (B6.out.trans (hTB.mono B6.out.size))
          clear hT hTB
          have t2 := (HAC.out.later BT.out hob).ss
          rw [HMM.out] at t2
          have ne3 : ¬ ob = w6.heap.size := by have := B6.out.size; omega
          have ne4 : ¬ w6.heap.size = ob := by have := B6.out.size; omega
          by_cases kl : k < m + 3
          · have kc : (k : Int) < (m : Int) + 3 := by omega
            have szs : k * 6 + 5 < cur.size := by have := TT.out.sz; have := HMM.out; omega
            obtain ⟨_, aa0⟩ := TT.out.bk.some1 (k * 6) (by omega)
            have bb0 := TT.out.bk.frozen (k * 6)
            obtain ⟨_, aa1⟩ := TT.out.bk.some1 (k * 6 + 1) (by omega)
            have bb1 := TT.out.bk.frozen (k * 6 + 1)
            obtain ⟨_, aa2⟩ := TT.out.bk.some1 (k * 6 + 2) (by omega)
            have bb2 := TT.out.bk.frozen (k * 6 + 2)
            obtain ⟨_, aa3⟩ := TT.out.bk.some1 (k * 6 + 3) (by omega)
            have bb3 := TT.out.bk.frozen (k * 6 + 3)
            obtain ⟨_, aa4⟩ := TT.out.bk.some1 (k * 6 + 4) (by omega)
            have bb4 := TT.out.bk.frozen (k * 6 + 4)
            obtain ⟨_, aa5⟩ := TT.out.bk.some1 (k * 6 + 5) (by omega)
            have bb5 := TT.out.bk.frozen (k * 6 + 5)
            clear szs
            by_cases ml : k < m
            · have mc : (k : Int) < (m : Int) := by omega
              have ml' : k < a.ss.length := by rw [HMM.out]; exact ml
              obtain ⟨sb, so, hsa, hsb, hst⟩ := HAV.out.2.2.2.2.2.1.at (by omega)
              obtain ⟨hsv, hsc0⟩ := hst k ml'
              have HSV := Lib.hid hsv
              have HSC := Lib.hid hsc0
              have HNS := Lib.hid (HNE.out.2 _ (show a.ss.getD k default ∈ a.ss by rw [show a.ss.getD k default = a.ss[k] by simp [List.getD, ml']]; exact List.getElem_mem ml'))
              obtain ⟨st, hsteq⟩ : ∃ x, a.ss.getD k default = x := ⟨_, rfl⟩
              rw [hsteq] at HSV HSC HNS
              have HST := Lib.hid hsteq
              rw [hsa] at t2
              have HSA := Lib.hid hsa
              have ne5 : ¬ sb = w6.heap.size := by have := B6.out.size; omega
              have ne6 : ¬ w6.heap.size = sb := by have := B6.out.size; omega
              obtain ⟨v1, hv1⟩ : ∃ v1, ((((((wr.setCell ⟨w6.heap.size, k * 6, none⟩ (.int .i64 (-77))).setCell ⟨w6.heap.size, k * 6 + 1, none⟩ (.bool false)).setCell ⟨w6.heap.size, k * 6 + 2, none⟩ (.int .i64 0)).setCell ⟨w6.heap.size, k * 6 + 3, none⟩ (.int .i64 0)).setCell ⟨w6.heap.size, k * 6 + 4, none⟩ (.int .i64 0)).setCell ⟨w6.heap.size, k * 6 + 5, none⟩ (.slice none 0 0)) = v1 := ⟨_, rfl⟩
              have D1 := Lib.hid (show (∃ c1, HSS v1 (w.heap.size + 1) w6.heap.size a.ss k c1 S) ∧ Below w6.heap.size w6 v1 ∧ v1.heap.size = wr.heap.size from by
                rw [← hv1]
                obtain ⟨c1, q, _⟩ := TT.out.any (by omega) (.int .i64 (-77)) (.bool false) (.int .i64 0) (.int .i64 0) (.int .i64 0) (.slice none 0 0)
                exact ⟨⟨c1, q⟩, belowS6 TB.out _ _ (Nat.le_refl _) _ _ _ _ _ _, by simp⟩)
              obtain ⟨⟨c1, hD1⟩, _, _⟩ := D1.out
              have sz1' : k * 6 + 5 < c1.size := by have := hD1.sz; have := HMM.out; omega
              obtain ⟨_, cc0⟩ := hD1.bk.some1 (k * 6) (by omega)
              have dd0 := hD1.bk.frozen (k * 6)
              obtain ⟨_, cc1⟩ := hD1.bk.some1 (k * 6 + 1) (by omega)
              have dd1 := hD1.bk.frozen (k * 6 + 1)
              obtain ⟨_, cc2⟩ := hD1.bk.some1 (k * 6 + 2) (by omega)
              have dd2 := hD1.bk.frozen (k * 6 + 2)
              obtain ⟨_, cc3⟩ := hD1.bk.some1 (k * 6 + 3) (by omega)
              have dd3 := hD1.bk.frozen (k * 6 + 3)
              obtain ⟨_, cc4⟩ := hD1.bk.some1 (k * 6 + 4) (by omega)
              have dd4 := hD1.bk.frozen (k * 6 + 4)
              obtain ⟨_, cc5⟩ := hD1.bk.some1 (k * 6 + 5) (by omega)
              have dd5 := hD1.bk.frozen (k * 6 + 5)
              have BV1 := Lib.hid (B6.out.trans (D1.out.2.1.mono B6.out.size))
              have scv := HSC.out.later BV1.out hsb
              obtain ⟨y0, y1, y2, y3, y4, y5, hy, s2, s3, s4, s5⟩ := scv.six HSV.out
              have s0 := scv.kind
              have s1 := scv.want
              have t3 := (HAC.out.later BV1.out hob).ss
              rw [HMM.out, hsa] at t3
              obtain ⟨v2, hv2⟩ : ∃ v2, ((((((v1.setCell ⟨w6.heap.size, k * 6, none⟩ (.int .i64 st.kind)).setCell ⟨w6.heap.size, k * 6 + 1, none⟩ (.bool st.want)).setCell ⟨w6.heap.size, k * 6 + 2, none⟩ (.int .i64 y0)).setCell ⟨w6.heap.size, k * 6 + 3, none⟩ (.int .i64 y1)).setCell ⟨w6.heap.size, k * 6 + 4, none⟩ (.int .i64 y2)).setCell ⟨w6.heap.size, k * 6 + 5, none⟩ (.slice y3 y4 y5)) = v2 := ⟨_, rfl⟩
              have D2 := Lib.hid (show (∃ c2, HSS v2 (w.heap.size + 1) w6.heap.size a.ss k c2 S) ∧ Below w6.heap.size w6 v2 ∧ v2.heap.size = wr.heap.size from by
                rw [← hv2]
                obtain ⟨c2, q, _⟩ := hD1.any (by omega) (.int .i64 st.kind) (.bool st.want) (.int .i64 y0) (.int .i64 y1) (.int .i64 y2) (.slice y3 y4 y5)
                exact ⟨⟨c2, q⟩, belowS6 D1.out.2.1 _ _ (Nat.le_refl _) _ _ _ _ _ _, by simpa using D1.out.2.2⟩)
              have BV2 := Lib.hid (B6.out.trans (D2.out.2.1.mono B6.out.size))
              have scw := HSC.out.later BV2.out hsb
              obtain ⟨_, _, _, _, _, _, hy', r2, r3, r4, r5⟩ := scw.six HSV.out
              rw [hy] at hy'
              injection hy' with e1 hy'; injection hy' with e2 hy'; injection hy' with e3 hy'; injection hy' with e4 _
              injection e1 with _ e1; injection e2 with _ e2; injection e3 with _ e3; injection e4 with e4 e5 e6
              subst e1 e2 e3 e4 e5 e6
              have t4 := (HAC.out.later BV2.out hob).ss
              rw [HMM.out, hsa] at t4
              have HXV : XV w st.e [.int .i64 y0, .int .i64 y1, .int .i64 y2, .slice y3 y4 y5] := by rw [← hy]; exact HSV.out.2
              have KX2 := Lib.hid (handX_any HXV v2 BV2.out HNS.out)
              have HV1 := Lib.hid hv1
              have HV2 := Lib.hid hv2
              clear hst hsv hsc0 hsteq scv scw hy HXV hD1 hsa
              go_wp2_with fail
              go_at_call 6
              refine KX2.out.mono ?_
              rintro e' v5 ⟨vs, rfl, hx5, b5⟩
              obtain ⟨z0', z1', z2', z3', z4', z5', hvs⟩ := hx5.form
              subst hvs
              have XV5 := Lib.hid hx5
              have BV5 := Lib.hid b5
              obtain ⟨⟨c2, hD2⟩, _, _⟩ := D2.out
              have hD5 := hD2.keep (w' := v5) (fun c _ q => b5.block c q)
              have sz5' : k * 6 + 5 < c2.size := by have := hD5.sz; have := HMM.out; omega
              obtain ⟨_, ee0⟩ := hD5.bk.some1 (k * 6 + 2) (by omega)
              have gg0 := hD5.bk.frozen (k * 6 + 2)
              obtain ⟨_, ee1⟩ := hD5.bk.some1 (k * 6 + 3) (by omega)
              have gg1 := hD5.bk.frozen (k * 6 + 3)
              obtain ⟨_, ee2⟩ := hD5.bk.some1 (k * 6 + 4) (by omega)
              have gg2 := hD5.bk.frozen (k * 6 + 4)
              obtain ⟨_, ee3⟩ := hD5.bk.some1 (k * 6 + 5) (by omega)
              have gg3 := hD5.bk.frozen (k * 6 + 5)
              clear hx5 b5 hD2 hD5 hv1 hv2
              go_wp2
              go_roundw
              case rel =>
                obtain ⟨cur', S', q⟩ := TT.out.next ml' HST.out (u2 := .int .i64 y0) (u3 := .int .i64 y1) (u4 := .int .i64 y2) (u5 := .slice y3 y4 y5) (v0 := .int .i64 (-77)) (v1 := .bool false) (v2 := .int .i64 0) (v3 := .int .i64 0) (v4 := .int .i64 0) (v5 := .slice none 0 0) (w5 := v5) (by
                  have q := BV5.out
                  rw [← HV2.out, ← HV1.out] at q
                  exact ⟨q.os, q.tape, q.output, q.size, fun c hc => q.block c (by simpa using hc)⟩) (by rw [← D2.out.2.2]; exact XV5.out)
                exact ⟨k + 1, by omega, by go_num, cur', S', q, belowS4 (D2.out.2.1.trans (BV5.out.mono D2.out.2.1.size)) _ _ (Nat.le_refl _) _ _ _ _⟩
              case measure => simp [intOf]; omega
            · have mc : ¬ (k : Int) < (m : Int) := by omega
              go_wp2
              go_roundw
              case rel =>
                obtain ⟨cur', q⟩ := TT.out.odd (by rw [HMM.out]; exact kl) (by rw [HMM.out]; omega) (.bool false) (.int .i64 0) (.int .i64 0) (.int .i64 0) (.slice none 0 0)
                exact ⟨k + 1, by omega, by go_num, cur', S, q, belowS6 TB.out _ _ (Nat.le_refl _) _ _ _ _ _ _⟩
              case measure => simp [intOf]; omega
          · obtain rfl : k = m + 3 := by omega
            obtain ⟨C6, hP⟩ := PT.out
            have hP8 := hP.later TB.out
            obtain ⟨_, u2'⟩ := hP8.base.bk.some1 (i * 9 + 2) (by have := hP8.base.sz; have := HL.out; omega)
            have v2' := hP8.base.bk.frozen (i * 9 + 2)
            have HPP := Lib.hid hP
            clear hP hP8
            go_wp2
            go_roundw
            case rel =>
              obtain ⟨CUR', A', q⟩ := HPP.out.next il' TB.out (m := m) (by rw [HAEQ.out]; exact HMM.out) (by rw [HAEQ.out]; exact TT.out)
              exact ⟨i + 1, by omega, by go_num, CUR', A', q, BT.out.setCell (p := ⟨w.heap.size, i * 9 + 2, none⟩) (Nat.le_refl _) _⟩
            case measure => simp [intOf]; omega
      · have jc : ¬ (i : Int) < (n : Int) := by omega
        have jd : decide (n ≤ i) = true := by simpa using jl
        have jn : n ≤ i := by omega
        go_wp2
        go_roundw
        case rel =>
          obtain ⟨CUR', q⟩ := SS.out.odd (by rw [HL.out]; exact il) (by rw [HL.out]; exact jn) (.int .i64 0) (.int .i64 0) (.int .i64 0) (.int .i64 0) (.slice none 0 0) (.string ⟨#[]⟩) (.int .i64 0)
          exact ⟨i + 1, by omega, by go_num, CUR', A, q, belowS9 BL.out _ _ (Nat.le_refl _) _ _ _ _ _ _ _ _ _⟩
        case measure => simp [intOf]; omega
    · obtain rfl : i = n + 3 := by omega
      go_wp2
      refine bodyPost_ret (v := .slice (some ⟨w.heap.size, 0, none⟩) n (n + 3)) (by simp [results, Try.results16, go_sem]) rfl ?_
      exact ⟨⟨CUR, A, rfl, SS.out⟩, BL.out⟩
end Go.Proofs.Ytjlnbhmiahegmaa
