/-
  WALK: own: a table in new memory.
-/
import Derived.Test.YthkeoeobpdminaaDoorWTOwn1
import Derived.Deep.AppendLies
namespace Go.Proofs.YthkeoeobpdminaaDoor
open Go.RowKit
set_option linter.unusedVariables false
set_option linter.unusedSimpArgs false

/-- The cell behind a row's end, and the variable that holds it. -/
def bc : Cl := ⟨true, -77177⟩
def Bh (w : World) : Prop := 0 < w.heap.size ∧ w.cell? ⟨0, 0, none⟩ = some (.bool true) ∧ w.cell? ⟨0, 1, none⟩ = some (.int .i64 (-77177))
theorem Bh.later {w w' : World} (h : Bh w) (b : Below w.heap.size w w') : Bh w' :=
  ⟨Nat.lt_of_lt_of_le h.1 b.size, (b.cell (p := ⟨0, 0, none⟩) h.1).trans h.2.1, (b.cell (p := ⟨0, 1, none⟩) h.1).trans h.2.2⟩

/-- The cells of a list of cells. -/
def ccs (cs : List Cl) : List Value := cs.flatMap fun c => [.bool c.h, .int .i64 c.v]
theorem ccs_len (cs : List Cl) : (ccs cs).length = cs.length * 2 := by
  induction cs with
  | nil => rfl
  | cons f fs ih => simp [ccs] at ih ⊢; omega
theorem ccs_app (a b : List Cl) : ccs (a ++ b) = ccs a ++ ccs b := by simp [ccs]
theorem ccs_at : ∀ (cs : List Cl) (i : Nat), i < cs.length → (ccs cs)[i * 2]? = some (.bool (cs.getD i default).h) ∧ (ccs cs)[i * 2 + 1]? = some (.int .i64 (cs.getD i default).v)
  | [], i, h => by simp at h
  | c :: cs, 0, _ => by simp [ccs]
  | c :: cs, i + 1, h => by
    have := ccs_at cs i (by simpa using h)
    have e : ccs (c :: cs) = [.bool c.h, .int .i64 c.v] ++ ccs cs := by simp [ccs]
    rw [show (i + 1) * 2 = i * 2 + 2 by omega, show i * 2 + 2 + 1 = i * 2 + 1 + 2 by omega, e, List.getElem?_append_right (by simp), List.getElem?_append_right (by simp)]
    simpa using this
theorem ccs_one (cs : List Cl) : ∀ u ∈ ccs cs, u.oneCell' = true := by
  intro u hu
  obtain ⟨c, _, hc⟩ := List.mem_flatMap.1 hu
  simp at hc
  rcases hc with rfl | rfl <;> rfl
theorem rc_news {w : World} {a : Option Addr} {n : Nat} {cs : List Cl} (h : RC w a n cs) : ∀ x, a = some x → ∀ j u, (ccs cs)[j]? = some u → w.cell? (x.add j) = some u := by
  intro x e j u hj
  obtain ⟨h1, _, _, h4⟩ := h
  have hjl : j < cs.length * 2 := by have := (List.getElem?_eq_some_iff.1 hj).1; rwa [ccs_len] at this
  rcases h4 with h4 | ⟨b, o, rfl, hb, hc⟩
  · omega
  · injection e with e; subst e
    rw [Go.Addr.add_lit]
    obtain ⟨q, r, hr, rfl⟩ : ∃ q r, r < 2 ∧ j = q * 2 + r := ⟨j / 2, j % 2, Nat.mod_lt _ (by omega), by omega⟩
    obtain ⟨c0, c1⟩ := hc q (by omega)
    obtain ⟨d0, d1⟩ := ccs_at cs q (by omega)
    rcases (show r = 0 ∨ r = 1 by omega) with rfl | rfl
    · rw [Nat.add_zero] at hj ⊢
      rw [d0] at hj; rw [c0]; exact hj
    · rw [d1] at hj; rw [← Nat.add_assoc, c1]; exact hj
/-- A row in new memory, two cells behind its end. -/
def RowN (w : World) (B : Nat) (q : Rw) (cs : List Cl) : Prop := q.n = cs.length ∧ q.n + 2 ≤ q.cap ∧ q.cap ≤ maxLen ∧ w.ownsRow B 35 2 (.slice q.a (q.n + 2) q.cap) (q.n + 2) (ccs (cs ++ [bc, bc])) ∧ ∃ g, q.a = some ⟨g, 0, none⟩
theorem rowN_of {w : World} {B : Nat} {v : Value} {n : Nat} {cs : List Cl} (hl : cs.length = n) (h : w.ownsRow B 35 2 v (n + 2) (ccs (cs ++ [bc, bc]))) : ∃ g c, v = .slice (some ⟨g, 0, none⟩) (n + 2) c ∧ n + 2 ≤ c ∧ B ≤ g ∧ g < w.heap.size ∧ RowN w B ⟨some ⟨g, 0, none⟩, n, c, cs⟩ cs := by
  obtain ⟨g, c, rfl, h1, h2, h3, h4⟩ := own_form h
  exact ⟨g, c, rfl, h1, h4, h3, hl.symm, h1, h2, h, g, rfl⟩
theorem row_kept {w w' : World} {B : Nat} {q : Rw} {cs : List Cl} {r : Option Nat} (h : RowN w B q cs) (g : w.grownBy w' r) (hr : ∀ k, q.a = some ⟨k, 0, none⟩ → r ≠ some k) : RowN w' B q cs := by
  obtain ⟨h1, h2, h3, h4, g0, h5⟩ := h
  refine ⟨h1, h2, h3, ⟨h4.1, ?_⟩, g0, h5⟩
  rcases h4.2 with hn | ⟨k, cap, cur, e, hB, hg, rest⟩
  · exact .inl hn
  · refine .inr ⟨k, cap, cur, e, hB, ?_, rest⟩
    injection e with e1 _ _
    rw [g.block k (Array.getElem?_eq_some_iff.1 hg).1 (fun x => hr k e1 x.symm)]; exact hg
theorem row_later {w w' : World} {B : Nat} {q : Rw} {cs : List Cl} (h : RowN w B q cs) (b : Below w.heap.size w w') : RowN w' B q cs := by
  obtain ⟨h1, h2, h3, h4, g0, h5⟩ := h
  refine ⟨h1, h2, h3, ⟨h4.1, ?_⟩, g0, h5⟩
  rcases h4.2 with hn | ⟨k, cap, cur, e, hB, hg, rest⟩
  · exact .inl hn
  · exact .inr ⟨k, cap, cur, e, hB, by rw [b.block k (Array.getElem?_eq_some_iff.1 hg).1]; exact hg, rest⟩
theorem rowN_rc {w : World} {B : Nat} {q : Rw} {cs : List Cl} (h : RowN w B q cs) (hw : ∀ c ∈ cs, (Lit.int .i64 c.v).wf = true) (hn : cs.length ≤ 8796093021952) : RC w q.a q.n cs ∧ ∃ g, q.a = some ⟨g, 0, none⟩ ∧ g < w.heap.size ∧ ∀ i, i < q.n + 2 → CC w g (i * 2) ((cs ++ [bc, bc]).getD i default) := by
  obtain ⟨h1, h2, h3, h4, g, h5⟩ := h
  rw [h5] at h4
  have hg := (h4.lt g rfl).2
  have cc : ∀ i, i < q.n + 2 → CC w g (i * 2) ((cs ++ [bc, bc]).getD i default) := fun i hi => by
    obtain ⟨d0, d1⟩ := ccs_at (cs ++ [bc, bc]) i (by simp; omega)
    exact ⟨by rw [World.ownsRow.cellAt h4 (i * 2) (by omega)]; exact d0, by rw [World.ownsRow.cellAt h4 (i * 2 + 1) (by omega)]; exact d1⟩
  refine ⟨⟨h1.symm, by omega, hw, .inr ⟨g, 0, h5, hg, fun i hi => ?_⟩⟩, g, h5, hg, cc⟩
  have := cc i (by omega)
  rw [Nat.zero_add]
  rwa [show (cs ++ [bc, bc]).getD i default = cs.getD i default by simp only [List.getD]; rw [List.getElem?_append_left (by omega)]] at this

/-- 'x.Rows = append(x.Rows, row)' in a region that draws. -/
theorem step_rows {ops : Array Oper} {o : Oper} {a : Act} {K : Act → World → Prop} {Q : Exit → Act → World → Prop} {E : Prop} (w : World) (hgd : o.guard = none) (s x : Operand)
    (ho : o.op = .call { callee := .builtin .append, args := #[s, x], argTypes := #[23, 23] }) (base : Nat) (v : Value) (k : Nat) (xs : List Value) (hs : a.eval s = v)
    (hown : w.ownsRow base 37 1 v k xs) (Bn : Nat) (ad : Option Addr) (n c : Nat) (fr : Nat × Nat) (hx : a.eval x = .slice (some ⟨Bn, 0, none⟩) 1 1) (hb : w.heap[Bn]? = some (.cells #[.slice ad n c] 37 fr)) (hl : k ≤ 5864062014640) (hbase : base ≤ w.heap.size)
    (h : ∀ g cap w', w'.ownsRow base 37 1 (.slice (some ⟨g, 0, none⟩) (k + 1) cap) (k + 1) (xs ++ [.slice ad n c]) → w.grownBy w' v.ownBlock → K (a.put o.dst (.slice (some ⟨g, 0, none⟩) (k + 1) cap)) w') :
    if Region.wanted o (yielded ops a.tmps) = true then Oper.wp Tryd.prog o a w K Q else E := by
  obtain ⟨i0, hi, hz0, hz1, hz2⟩ := info_parts infoR
  refine step_append_lies w hgd s x 23 ho base 37 i0 (.slice none 0 0) 1 24 Tryd.underlying23 hi hz0 hz1 hz2 rfl (by decide) v k xs hs hown ⟨Bn, 0, none⟩ 1 1 [.slice ad n c] hx rfl (fun j u hj => World.news_of_block hb j u hj) ?_ (by omega) (by unfold maxLen; omega) (by omega) hbase w.heap.size rfl (fun g cap w' h1 h2 _ _ => h g cap w' h1 h2)
  intro u hu
  simp at hu; subst hu; rfl

/-- What lies while the rows are made: block X holds the new table. -/
structure OW (w1 wr : World) (v1 L : Value) (k : Nat) (qs : List Rw) (rs : List Rw) : Prop where
  bel : Below w1.heap.size w1 wr
  x0 : wr.cell? ⟨w1.heap.size, 0, none⟩ = some v1
  x1 : wr.cell? ⟨w1.heap.size, 1, none⟩ = some L
  xf : wr.frozen? ⟨w1.heap.size, 1, none⟩ = false
  xt : ∃ cs fz, wr.heap[w1.heap.size]? = some (.cells cs 25 fz)
  lo : wr.ownsRow w1.heap.size 37 1 L k (qs.map fun q => .slice q.a q.n q.cap)
  ql : qs.length = k
  rows : ∀ i, i < k → RowN wr w1.heap.size (qs.getD i default) (rs.getD i default).cs
theorem ty_apart {w : World} {B : Nat} {E F : TypeId} {size : Nat} {v : Value} {n : Nat} {xs : List Value} {q : Nat} {cs : Array Value} {fz : Nat × Nat} (h : w.ownsRow B E size v n xs) (hq : w.heap[q]? = some (.cells cs F fz)) (ht : F ≠ E) : v.ownBlock ≠ some q := by
  intro he
  rcases h.2 with ⟨rfl, _⟩ | ⟨g, cap, cur, rfl, _, hg, _⟩
  · cases he
  · simp [Value.ownBlock] at he
    subst he
    rw [hg] at hq
    injection hq with hq
    injection hq with _ hq _
    exact ht hq.symm
theorem rowN_block {w : World} {B : Nat} {q : Rw} {cs : List Cl} (h : RowN w B q cs) : ∀ k, q.a = some ⟨k, 0, none⟩ → ∃ cur fz, w.heap[k]? = some (.cells cur 35 fz) := by
  intro k e
  obtain ⟨h1, h2, h3, h4, g0, h5⟩ := h
  rcases h4.2 with ⟨hn, _⟩ | ⟨k', cap, cur, e', hB, hg, rest⟩
  · rw [h5] at hn; cases hn
  · injection e' with e1 _ _
    rw [e1] at e; injection e with e; injection e with e; subst e
    exact ⟨_, _, hg⟩
theorem OW.step {w1 wr w3 w4 w5 : World} {v1 L L' : Value} {k n g c : Nat} {qs rs : List Rw} (h : OW w1 wr v1 L k qs rs) (b3 : Below wr.heap.size wr w3) (b4 : Below w3.heap.size w3 w4) (g5 : w4.grownBy w5 L.ownBlock)
    (hr : RowN w3 w1.heap.size ⟨some ⟨g, 0, none⟩, n, c, (rs.getD k default).cs⟩ (rs.getD k default).cs) (hL : w5.ownsRow w1.heap.size 37 1 L' (k + 1) ((qs.map fun q => Value.slice q.a q.n q.cap) ++ [.slice (some ⟨g, 0, none⟩) n c])) :
    OW w1 (w5.setCell ⟨w1.heap.size, 1, none⟩ L') v1 L' (k + 1) (qs ++ [⟨some ⟨g, 0, none⟩, n, c, (rs.getD k default).cs⟩]) rs := by
  obtain ⟨cs, fz, ht⟩ := h.xt
  have hXr : w1.heap.size < wr.heap.size := (Array.getElem?_eq_some_iff.1 ht).1
  have b4' : Below wr.heap.size wr w4 := b3.trans (b4.mono b3.size)
  have hX4 : w4.heap[w1.heap.size]? = some (.cells cs 25 fz) := (b4'.block _ hXr).trans ht
  have hX4l : w1.heap.size < w4.heap.size := (Array.getElem?_eq_some_iff.1 hX4).1
  have lo4 : w4.ownsRow w1.heap.size 37 1 L k (qs.map fun q => .slice q.a q.n q.cap) := by
    refine ⟨h.lo.1, ?_⟩
    rcases h.lo.2 with hn | ⟨q, cap, cur, e, hB, hg, rest⟩
    · exact .inl hn
    · exact .inr ⟨q, cap, cur, e, hB, by rw [b4'.block q (Array.getElem?_eq_some_iff.1 hg).1]; exact hg, rest⟩
  have neX : L.ownBlock ≠ some w1.heap.size := ty_apart lo4 hX4 (by decide)
  have hX5 : w5.heap[w1.heap.size]? = some (.cells cs 25 fz) := (g5.block _ hX4l (fun e => neX e.symm)).trans hX4
  have neX' : L'.ownBlock ≠ some w1.heap.size := ty_apart hL hX5 (by decide)
  have row5 : ∀ q cs', RowN w4 w1.heap.size q cs' → RowN (w5.setCell ⟨w1.heap.size, 1, none⟩ L') w1.heap.size q cs' := fun q cs' hq => by
    have h5 : RowN w5 w1.heap.size q cs' := row_kept hq g5 (fun j e => by
      obtain ⟨cur, fz', hj⟩ := rowN_block hq j e
      exact ty_apart lo4 hj (by decide))
    refine row_kept h5 (grT_set w5 w1.heap.size 1 L') (fun j e => ?_)
    obtain ⟨cur, fz', hj⟩ := rowN_block h5 j e
    intro e2
    injection e2 with e2
    subst e2
    rw [hj] at hX5
    injection hX5 with hX5
    injection hX5 with _ hX5 _
    revert hX5; decide
  have B5 : Below w1.heap.size w1 w5 := (h.bel.trans (b4'.mono h.bel.size)).grown g5 (Nat.le_of_lt hX4l) (fun j e => (lo4.lt j e).1)
  have cX : ∀ j, w5.cell? ⟨w1.heap.size, j, none⟩ = wr.cell? ⟨w1.heap.size, j, none⟩ := fun j =>
    (World.cell?_of_block (a := ⟨w1.heap.size, j, none⟩) (g5.block _ hX4l (fun e => neX e.symm))).trans (b4'.cell (p := ⟨w1.heap.size, j, none⟩) hXr)
  have fX : w5.frozen? ⟨w1.heap.size, 1, none⟩ = false := ((World.frozen?_of_block (a := ⟨w1.heap.size, 1, none⟩) (g5.block _ hX4l (fun e => neX e.symm))).trans (b4'.frozen (p := ⟨w1.heap.size, 1, none⟩) hXr)).trans h.xf
  refine ⟨B5.setCell (p := ⟨w1.heap.size, 1, none⟩) (by simp) _, ?_, ?_, ?_, ⟨cs.setIfInBounds 1 L', fz, by simp [World.setCell, Array.getElem?_modify, hX5]⟩, ?_, by simp [h.ql], fun i hi => ?_⟩
  · rw [World.cell?_setCell_other _ _ _ _ (by simp), cX]; exact h.x0
  · exact World.cell?_setCell_same' _ _ _ (by rw [cX, h.x1]; rfl)
  · rw [World.frozen?_setCell]; exact fX
  · have : (qs ++ [(⟨some ⟨g, 0, none⟩, n, c, (rs.getD k default).cs⟩ : Rw)]).map (fun q => Value.slice q.a q.n q.cap) = (qs.map fun q => Value.slice q.a q.n q.cap) ++ [.slice (some ⟨g, 0, none⟩) n c] := by simp
    rw [this]
    refine ⟨hL.1, ?_⟩
    rcases hL.2 with hn | ⟨q, cap, cur, e, hB, hg, rest⟩
    · exact .inl hn
    · refine .inr ⟨q, cap, cur, e, hB, ?_, rest⟩
      have : w1.heap.size ≠ q := fun e2 => neX' (by rw [e, e2]; rfl)
      rw [(grT_set w5 w1.heap.size 1 L').block q (Array.getElem?_eq_some_iff.1 hg).1 (by simp; omega)]; exact hg
  · rcases (show i < k ∨ i = k by omega) with q | q
    · rw [show (qs ++ [(⟨some ⟨g, 0, none⟩, n, c, (rs.getD k default).cs⟩ : Rw)]).getD i default = qs.getD i default by simp only [List.getD]; rw [List.getElem?_append_left (by rw [h.ql]; exact q)]]
      exact row5 _ _ (row_later (h.rows i q) b4')
    · subst q
      rw [show (qs ++ [(⟨some ⟨g, 0, none⟩, n, c, (rs.getD i default).cs⟩ : Rw)]).getD i default = ⟨some ⟨g, 0, none⟩, n, c, (rs.getD i default).cs⟩ by simp only [List.getD]; rw [List.getElem?_append_right (by rw [h.ql]; omega), h.ql]; simp]
      exact row5 _ _ (row_later hr b4)
end Go.Proofs.YthkeoeobpdminaaDoor
