import Derived.Test.YtldplmchgmoopaaDoorXAA
import Derived.Laws.AppendOwn
import Derived.Laws.AppendOwnNone
import Derived.Laws.OwnMore
import Derived.Maps.AppendAt
import Derived.Lib.LazyBuf
import Derived.Deep.AppendLies
import Derived.Deep.RegionLaw
namespace Go.Proofs.YtldplmchgmoopaaDoor
open Go.RowKit
set_option linter.unusedVariables false
set_option linter.unusedSimpArgs false

/-- 'append(s, x...)' of a row that the call owns; x: any slice, its cells as they lie. -/
theorem wp_appG {T E : TypeId} {z : Value} {size bytes : Nat} (hT : Tryd.prog.underlying T = some (.slice E)) (hinfo : (Tryd.prog.info? E).map (fun i => (i.zero, i.size, i.bytes)) = some (some z, size, bytes)) (hzs : z.cells.size = size) (hsz : 0 < size)
    {ops : Array Oper} {rest : List Oper} {o : Oper} {a : Act} {Q : Exit → Act → World → Prop} (w : World) (B : Nat) (hB : B ≤ w.heap.size) (ad : Option Addr) (n cap : Nat) (us : List Value) (hl : us.length = n * size) (hnews : ∀ x, ad = some x → ∀ j u, us[j]? = some u → w.cell? (x.add j) = some u) (hn0 : ad = none → n = 0 ∧ cap = 0) (one : ∀ u ∈ us, u.oneCell' = true)
    (hgd : o.guard = none) (s x : Operand) (ho : o.op = .call { callee := .builtin .append, args := #[s, x], argTypes := #[T, T] }) (v : Value) (m : Nat) (xs : List Value) (hs : a.eval s = v) (hown : w.ownsRow B E size v m xs) (hx : a.eval x = .slice ad n cap) (h63 : m + n ≤ maxLen) (hby : (m + n) * bytes ≤ 140737488355328)
    (h : ∀ v' w', w'.ownsRow B E size v' (m + n) (xs ++ us) → w.grownBy w' v.ownBlock → wpList Tryd.prog ops Q rest (a.put o.dst v') w') : wpList Tryd.prog ops Q (o :: rest) a w := by
  obtain ⟨i0, hi, hz0, hz1, hz2⟩ := info_parts hinfo
  cases ad with
  | none =>
    obtain ⟨rfl, rfl⟩ := hn0 rfl
    have : us = [] := List.length_eq_zero_iff.1 (by omega)
    subst this
    exact wpList_append_own_none hgd s x T ho B E i0 size hT hi v m xs hs hown hx (h v w (by simpa using hown) ⟨rfl, rfl, rfl, Nat.le_refl _, fun _ _ _ => rfl⟩)
  | some x1 =>
    exact wpList_append_own _ hgd s x T ho B E i0 z size bytes hT hi hz0 hz1 hz2 hzs hsz v m xs hs hown x1 n cap us hx hl (hnews x1 rfl) one h63 hby hB (fun v' w' h1 h2 _ => h v' w' h1 h2)

theorem infoS : (Tryd.prog.info? 9).map (fun i => (i.zero, i.size, i.bytes)) = some (some (.string ⟨#[]⟩), 1, 16) := by kernel_rfl
theorem infoC : (Tryd.prog.info? 65).map (fun i => (i.zero, i.size, i.bytes)) = some (some (.agg #[.bool false, .int .i64 0]), 2, 16) := by kernel_rfl
theorem infoR : (Tryd.prog.info? 50).map (fun i => (i.zero, i.size, i.bytes)) = some (some (.slice none 0 0), 1, 24) := by kernel_rfl
/-- 'Behind'. -/
def bhd : ByteArray := ⟨#[66, 101, 104, 105, 110, 100]⟩
/-- Names in new memory, two more behind their end (or none). -/
def NO (w : World) (B : Nat) (a : Option Addr) (v : Value) (n : Nat) (ss : List ByteArray) : Prop :=
  (a = none ∧ v = .slice none 0 0 ∧ n = 0) ∨ ∃ g c, v = .slice (some ⟨g, 0, none⟩) n c ∧ n + 2 ≤ c ∧ c ≤ maxLen ∧ (B ≤ g ∧ g < w.heap.size) ∧ ∀ i, i < n + 2 → w.cell? ⟨g, i, none⟩ = some (.string ((ss ++ [bhd, bhd]).getD i default))
theorem NO.later {w w' : World} {B : Nat} {a : Option Addr} {v : Value} {n : Nat} {ss : List ByteArray} (h : NO w B a v n ss) (b : Below w.heap.size w w') : NO w' B a v n ss := by
  rcases h with h | ⟨g, c, h1, h2, h2', h3, h4⟩
  · exact .inl h
  · exact .inr ⟨g, c, h1, h2, h2', ⟨h3.1, Nat.lt_of_lt_of_le h3.2 b.size⟩, fun i hi => (b.cell (p := ⟨g, i, none⟩) h3.2).trans (h4 i hi)⟩
theorem NO.kept {w w' : World} {B p : Nat} {a : Option Addr} {v : Value} {n : Nat} {ss : List ByteArray} (h : NO w B a v n ss) (b : w.grownBy w' (some p)) (hp : p < B) : NO w' B a v n ss := by
  rcases h with h | ⟨g, c, h1, h2, h2', h3, h4⟩
  · exact .inl h
  · exact .inr ⟨g, c, h1, h2, h2', ⟨h3.1, Nat.lt_of_lt_of_le h3.2 b.size⟩, fun i hi => (World.cell?_of_block (a := ⟨g, i, none⟩) (b.block g h3.2 (by simp; omega))).trans (h4 i hi)⟩
theorem NO.nl {w : World} {B : Nat} {a0 a : Option Addr} {n k c : Nat} {ss : List ByteArray} (h : NO w B a0 (.slice a n c) k ss) (hl : ss.length = k) (hn : k ≤ 8796093021952) (hw : ∀ s ∈ ss, s.size ≤ 140737488351232) : n = k ∧ NL w a k ss := by
  rcases h with ⟨_, h, rfl⟩ | ⟨g, c', h1, h2, h2', h3, h4⟩
  · injection h with e1 e2 e3; subst e1 e2; exact ⟨rfl, hl, hn, hw, .inl rfl⟩
  · injection h1 with e1 e2 e3
    refine ⟨e2, hl, hn, hw, .inr ⟨g, 0, e1, h3.2, fun i hi => ?_⟩⟩
    rw [Nat.zero_add, h4 i (by omega)]
    simp only [List.getD]
    rw [List.getElem?_append_left (by omega)]

theorem strs_one (ss : List ByteArray) : ∀ u ∈ ss.map Value.string, u.oneCell' = true := by
  intro u hu
  obtain ⟨s, _, rfl⟩ := List.mem_map.1 hu
  rfl
end Go.Proofs.YtldplmchgmoopaaDoor

namespace Go.Proofs.YtldplmchgmoopaaDoor
open Go.RowKit
set_option linter.unusedVariables false
set_option linter.unusedSimpArgs false

/-- The cell behind a row's end, and the variable that holds it. -/
def bc : Cl := ⟨true, -77177⟩
/-- The cells of a list of cells. -/
def ccs (cs : List Cl) : List Value := cs.flatMap fun c => [.bool c.h, .int .i64 c.v]
theorem ccs_app (a b : List Cl) : ccs (a ++ b) = ccs a ++ ccs b := by simp [ccs]
theorem ccs_at : ∀ (cs : List Cl) (i : Nat), i < cs.length → (ccs cs)[i * 2]? = some (.bool (cs.getD i default).h) ∧ (ccs cs)[i * 2 + 1]? = some (.int .i64 (cs.getD i default).v)
  | [], i, h => by simp at h
  | c :: cs, 0, _ => by simp [ccs]
  | c :: cs, i + 1, h => by
    have := ccs_at cs i (by simpa using h)
    have e : ccs (c :: cs) = [.bool c.h, .int .i64 c.v] ++ ccs cs := by simp [ccs]
    rw [show (i + 1) * 2 = i * 2 + 2 by omega, show i * 2 + 2 + 1 = i * 2 + 1 + 2 by omega, e, List.getElem?_append_right (by simp), List.getElem?_append_right (by simp)]
    simpa using this
theorem ccs_one (cs : List Cl) : ∀ u ∈ ccs cs, u.oneCell' = true := by
  intro u hu
  obtain ⟨c, _, hc⟩ := List.mem_flatMap.1 hu
  simp at hc
  rcases hc with rfl | rfl <;> rfl
/-- A row in new memory, two cells behind its end. -/
def RowN (w : World) (B : Nat) (q : Rw) (cs : List Cl) : Prop := q.n = cs.length ∧ q.n + 2 ≤ q.cap ∧ q.cap ≤ maxLen ∧ w.ownsRow B 65 2 (.slice q.a (q.n + 2) q.cap) (q.n + 2) (ccs (cs ++ [bc, bc])) ∧ ∃ g, q.a = some ⟨g, 0, none⟩
theorem row_kept {w w' : World} {B : Nat} {q : Rw} {cs : List Cl} {r : Option Nat} (h : RowN w B q cs) (g : w.grownBy w' r) (hr : ∀ k, q.a = some ⟨k, 0, none⟩ → r ≠ some k) : RowN w' B q cs := by
  obtain ⟨h1, h2, h3, h4, g0, h5⟩ := h
  refine ⟨h1, h2, h3, ⟨h4.1, ?_⟩, g0, h5⟩
  rcases h4.2 with hn | ⟨k, cap, cur, e, hB, hg, rest⟩
  · exact .inl hn
  · refine .inr ⟨k, cap, cur, e, hB, ?_, rest⟩
    injection e with e1 _ _
    rw [g.block k (Array.getElem?_eq_some_iff.1 hg).1 (fun x => hr k e1 x.symm)]; exact hg
theorem row_later {w w' : World} {B : Nat} {q : Rw} {cs : List Cl} (h : RowN w B q cs) (b : Below w.heap.size w w') : RowN w' B q cs := by
  obtain ⟨h1, h2, h3, h4, g0, h5⟩ := h
  refine ⟨h1, h2, h3, ⟨h4.1, ?_⟩, g0, h5⟩
  rcases h4.2 with hn | ⟨k, cap, cur, e, hB, hg, rest⟩
  · exact .inl hn
  · exact .inr ⟨k, cap, cur, e, hB, by rw [b.block k (Array.getElem?_eq_some_iff.1 hg).1]; exact hg, rest⟩
theorem rowN_rc {w : World} {B : Nat} {q : Rw} {cs : List Cl} (h : RowN w B q cs) (hw : ∀ c ∈ cs, (Lit.int .i64 c.v).wf = true) (hn : cs.length ≤ 8796093021952) : RC w q.a q.n cs ∧ ∃ g, q.a = some ⟨g, 0, none⟩ ∧ g < w.heap.size ∧ ∀ i, i < q.n + 2 → CC w g (i * 2) ((cs ++ [bc, bc]).getD i default) := by
  obtain ⟨h1, h2, h3, h4, g, h5⟩ := h
  rw [h5] at h4
  have hg := (h4.lt g rfl).2
  have cc : ∀ i, i < q.n + 2 → CC w g (i * 2) ((cs ++ [bc, bc]).getD i default) := fun i hi => by
    obtain ⟨d0, d1⟩ := ccs_at (cs ++ [bc, bc]) i (by simp; omega)
    exact ⟨by rw [World.ownsRow.cellAt h4 (i * 2) (by omega)]; exact d0, by rw [World.ownsRow.cellAt h4 (i * 2 + 1) (by omega)]; exact d1⟩
  refine ⟨⟨h1.symm, by omega, hw, .inr ⟨g, 0, h5, hg, fun i hi => ?_⟩⟩, g, h5, hg, cc⟩
  have := cc i (by omega)
  rw [Nat.zero_add]
  rwa [show (cs ++ [bc, bc]).getD i default = cs.getD i default by simp only [List.getD]; rw [List.getElem?_append_left (by omega)]] at this

/-- 'x.Rows = append(x.Rows, row)' in a region that draws. -/
theorem step_rows {ops : Array Oper} {o : Oper} {a : Act} {K : Act → World → Prop} {Q : Exit → Act → World → Prop} {E : Prop} (w : World) (hgd : o.guard = none) (s x : Operand)
    (ho : o.op = .call { callee := .builtin .append, args := #[s, x], argTypes := #[23, 23] }) (base : Nat) (v : Value) (k : Nat) (xs : List Value) (hs : a.eval s = v)
    (hown : w.ownsRow base 50 1 v k xs) (Bn : Nat) (ad : Option Addr) (n c : Nat) (fr : Nat × Nat) (hx : a.eval x = .slice (some ⟨Bn, 0, none⟩) 1 1) (hb : w.heap[Bn]? = some (.cells #[.slice ad n c] 50 fr)) (hl : k ≤ 5864062014640) (hbase : base ≤ w.heap.size)
    (h : ∀ g cap w', w'.ownsRow base 50 1 (.slice (some ⟨g, 0, none⟩) (k + 1) cap) (k + 1) (xs ++ [.slice ad n c]) → w.grownBy w' v.ownBlock → K (a.put o.dst (.slice (some ⟨g, 0, none⟩) (k + 1) cap)) w') :
    if Region.wanted o (yielded ops a.tmps) = true then Oper.wp Tryd.prog o a w K Q else E := by
  obtain ⟨i0, hi, hz0, hz1, hz2⟩ := info_parts infoR
  refine step_append_lies w hgd s x 23 ho base 50 i0 (.slice none 0 0) 1 24 Tryd.underlying23 hi hz0 hz1 hz2 rfl (by decide) v k xs hs hown ⟨Bn, 0, none⟩ 1 1 [.slice ad n c] hx rfl (fun j u hj => World.news_of_block hb j u hj) ?_ (by omega) (by unfold maxLen; omega) (by omega) hbase w.heap.size rfl (fun g cap w' h1 h2 _ _ => h g cap w' h1 h2)
  intro u hu
  simp at hu; subst hu; rfl

/-- What lies while the rows are made: block X holds the new table. -/
structure OW (w1 wr : World) (v1 L : Value) (k : Nat) (qs : List Rw) (rs : List Rw) : Prop where
  bel : Below w1.heap.size w1 wr
  x0 : wr.cell? ⟨w1.heap.size, 0, none⟩ = some v1
  x1 : wr.cell? ⟨w1.heap.size, 1, none⟩ = some L
  xf : wr.frozen? ⟨w1.heap.size, 1, none⟩ = false
  xt : ∃ cs fz, wr.heap[w1.heap.size]? = some (.cells cs 32 fz)
  lo : wr.ownsRow w1.heap.size 50 1 L k (qs.map fun q => .slice q.a q.n q.cap)
  ql : qs.length = k
  rows : ∀ i, i < k → RowN wr w1.heap.size (qs.getD i default) (rs.getD i default).cs
theorem ty_apart {w : World} {B : Nat} {E F : TypeId} {size : Nat} {v : Value} {n : Nat} {xs : List Value} {q : Nat} {cs : Array Value} {fz : Nat × Nat} (h : w.ownsRow B E size v n xs) (hq : w.heap[q]? = some (.cells cs F fz)) (ht : F ≠ E) : v.ownBlock ≠ some q := by
  intro he
  rcases h.2 with ⟨rfl, _⟩ | ⟨g, cap, cur, rfl, _, hg, _⟩
  · cases he
  · simp [Value.ownBlock] at he
    subst he
    rw [hg] at hq
    injection hq with hq
    injection hq with _ hq _
    exact ht hq.symm
theorem rowN_block {w : World} {B : Nat} {q : Rw} {cs : List Cl} (h : RowN w B q cs) : ∀ k, q.a = some ⟨k, 0, none⟩ → ∃ cur fz, w.heap[k]? = some (.cells cur 65 fz) := by
  intro k e
  obtain ⟨h1, h2, h3, h4, g0, h5⟩ := h
  rcases h4.2 with ⟨hn, _⟩ | ⟨k', cap, cur, e', hB, hg, rest⟩
  · rw [h5] at hn; cases hn
  · injection e' with e1 _ _
    rw [e1] at e; injection e with e; injection e with e; subst e
    exact ⟨_, _, hg⟩
theorem OW.step {w1 wr w3 w4 w5 : World} {v1 L L' : Value} {k n g c : Nat} {qs rs : List Rw} (h : OW w1 wr v1 L k qs rs) (b3 : Below wr.heap.size wr w3) (b4 : Below w3.heap.size w3 w4) (g5 : w4.grownBy w5 L.ownBlock)
    (hr : RowN w3 w1.heap.size ⟨some ⟨g, 0, none⟩, n, c, (rs.getD k default).cs⟩ (rs.getD k default).cs) (hL : w5.ownsRow w1.heap.size 50 1 L' (k + 1) ((qs.map fun q => Value.slice q.a q.n q.cap) ++ [.slice (some ⟨g, 0, none⟩) n c])) :
    OW w1 (w5.setCell ⟨w1.heap.size, 1, none⟩ L') v1 L' (k + 1) (qs ++ [⟨some ⟨g, 0, none⟩, n, c, (rs.getD k default).cs⟩]) rs := by
  obtain ⟨cs, fz, ht⟩ := h.xt
  have hXr : w1.heap.size < wr.heap.size := (Array.getElem?_eq_some_iff.1 ht).1
  have b4' : Below wr.heap.size wr w4 := b3.trans (b4.mono b3.size)
  have hX4 : w4.heap[w1.heap.size]? = some (.cells cs 32 fz) := (b4'.block _ hXr).trans ht
  have hX4l : w1.heap.size < w4.heap.size := (Array.getElem?_eq_some_iff.1 hX4).1
  have lo4 : w4.ownsRow w1.heap.size 50 1 L k (qs.map fun q => .slice q.a q.n q.cap) := by
    refine ⟨h.lo.1, ?_⟩
    rcases h.lo.2 with hn | ⟨q, cap, cur, e, hB, hg, rest⟩
    · exact .inl hn
    · exact .inr ⟨q, cap, cur, e, hB, by rw [b4'.block q (Array.getElem?_eq_some_iff.1 hg).1]; exact hg, rest⟩
  have neX : L.ownBlock ≠ some w1.heap.size := ty_apart lo4 hX4 (by decide)
  have hX5 : w5.heap[w1.heap.size]? = some (.cells cs 32 fz) := (g5.block _ hX4l (fun e => neX e.symm)).trans hX4
  have neX' : L'.ownBlock ≠ some w1.heap.size := ty_apart hL hX5 (by decide)
  have row5 : ∀ q cs', RowN w4 w1.heap.size q cs' → RowN (w5.setCell ⟨w1.heap.size, 1, none⟩ L') w1.heap.size q cs' := fun q cs' hq => by
    have h5 : RowN w5 w1.heap.size q cs' := row_kept hq g5 (fun j e => by
      obtain ⟨cur, fz', hj⟩ := rowN_block hq j e
      exact ty_apart lo4 hj (by decide))
    refine row_kept h5 (grT_set w5 w1.heap.size 1 L') (fun j e => ?_)
    obtain ⟨cur, fz', hj⟩ := rowN_block h5 j e
    intro e2
    injection e2 with e2
    subst e2
    rw [hj] at hX5
    injection hX5 with hX5
    injection hX5 with _ hX5 _
    revert hX5; decide
  have B5 : Below w1.heap.size w1 w5 := (h.bel.trans (b4'.mono h.bel.size)).grown g5 (Nat.le_of_lt hX4l) (fun j e => (lo4.lt j e).1)
  have cX : ∀ j, w5.cell? ⟨w1.heap.size, j, none⟩ = wr.cell? ⟨w1.heap.size, j, none⟩ := fun j =>
    (World.cell?_of_block (a := ⟨w1.heap.size, j, none⟩) (g5.block _ hX4l (fun e => neX e.symm))).trans (b4'.cell (p := ⟨w1.heap.size, j, none⟩) hXr)
  have fX : w5.frozen? ⟨w1.heap.size, 1, none⟩ = false := ((World.frozen?_of_block (a := ⟨w1.heap.size, 1, none⟩) (g5.block _ hX4l (fun e => neX e.symm))).trans (b4'.frozen (p := ⟨w1.heap.size, 1, none⟩) hXr)).trans h.xf
  refine ⟨B5.setCell (p := ⟨w1.heap.size, 1, none⟩) (by simp) _, ?_, ?_, ?_, ⟨cs.setIfInBounds 1 L', fz, by simp [World.setCell, Array.getElem?_modify, hX5]⟩, ?_, by simp [h.ql], fun i hi => ?_⟩
  · rw [World.cell?_setCell_other _ _ _ _ (by simp), cX]; exact h.x0
  · exact World.cell?_setCell_same' _ _ _ (by rw [cX, h.x1]; rfl)
  · rw [World.frozen?_setCell]; exact fX
  · have : (qs ++ [(⟨some ⟨g, 0, none⟩, n, c, (rs.getD k default).cs⟩ : Rw)]).map (fun q => Value.slice q.a q.n q.cap) = (qs.map fun q => Value.slice q.a q.n q.cap) ++ [.slice (some ⟨g, 0, none⟩) n c] := by simp
    rw [this]
    refine ⟨hL.1, ?_⟩
    rcases hL.2 with hn | ⟨q, cap, cur, e, hB, hg, rest⟩
    · exact .inl hn
    · refine .inr ⟨q, cap, cur, e, hB, ?_, rest⟩
      have : w1.heap.size ≠ q := fun e2 => neX' (by rw [e, e2]; rfl)
      rw [(grT_set w5 w1.heap.size 1 L').block q (Array.getElem?_eq_some_iff.1 hg).1 (by simp; omega)]; exact hg
  · rcases (show i < k ∨ i = k by omega) with q | q
    · rw [show (qs ++ [(⟨some ⟨g, 0, none⟩, n, c, (rs.getD k default).cs⟩ : Rw)]).getD i default = qs.getD i default by simp only [List.getD]; rw [List.getElem?_append_left (by rw [h.ql]; exact q)]]
      exact row5 _ _ (row_later (h.rows i q) b4')
    · subst q
      rw [show (qs ++ [(⟨some ⟨g, 0, none⟩, n, c, (rs.getD i default).cs⟩ : Rw)]).getD i default = ⟨some ⟨g, 0, none⟩, n, c, (rs.getD i default).cs⟩ by simp only [List.getD]; rw [List.getElem?_append_right (by rw [h.ql]; omega), h.ql]; simp]
      exact row5 _ _ (row_later hr b4)
end Go.Proofs.YtldplmchgmoopaaDoor

namespace Go.Proofs.YtldplmchgmoopaaDoor
open Go.RowKit
set_option linter.unusedVariables false
set_option linter.unusedSimpArgs false

/-- Rows in new memory (or none). -/
def RO (w : World) (B : Nat) (v : Value) (n : Nat) (rs : List Rw) : Prop :=
  (v = .slice none 0 0 ∧ n = 0) ∨ ∃ (g c : Nat) (qs : List Rw), v = .slice (some ⟨g, 0, none⟩) n c ∧ n ≤ c ∧ (B ≤ g ∧ g < w.heap.size) ∧ qs.length = n ∧ (∀ i, i < n → w.cell? ⟨g, i, none⟩ = some (.slice (qs.getD i default).a (qs.getD i default).n (qs.getD i default).cap)) ∧ ∀ i, i < n → RowN w B (qs.getD i default) (rs.getD i default).cs
theorem RO.later {w w' : World} {B : Nat} {v : Value} {n : Nat} {rs : List Rw} (h : RO w B v n rs) (b : Below w.heap.size w w') : RO w' B v n rs := by
  rcases h with h | ⟨g, c, qs, h1, h2, h3, h4, h5, h6⟩
  · exact .inl h
  · exact .inr ⟨g, c, qs, h1, h2, ⟨h3.1, Nat.lt_of_lt_of_le h3.2 b.size⟩, h4, fun i hi => (b.cell (p := ⟨g, i, none⟩) h3.2).trans (h5 i hi), fun i hi => row_later (h6 i hi) b⟩
theorem RO.kept {w w' : World} {B p : Nat} {v : Value} {n : Nat} {rs : List Rw} (h : RO w B v n rs) (b : w.grownBy w' (some p)) (hp : p < B) : RO w' B v n rs := by
  rcases h with h | ⟨g, c, qs, h1, h2, h3, h4, h5, h6⟩
  · exact .inl h
  · refine .inr ⟨g, c, qs, h1, h2, ⟨h3.1, Nat.lt_of_lt_of_le h3.2 b.size⟩, h4, fun i hi => (World.cell?_of_block (a := ⟨g, i, none⟩) (b.block g h3.2 (by simp; omega))).trans (h5 i hi), fun i hi => row_kept (h6 i hi) b (fun j e => ?_)⟩
    obtain ⟨_, _, _, h4', g0, h5'⟩ := h6 i hi
    have := (h4'.lt j (by rw [e]; rfl)).1
    simp; omega
theorem OW.ro {w1 wr : World} {v1 L : Value} {k : Nat} {qs rs : List Rw} (h : OW w1 wr v1 L k qs rs) : RO wr w1.heap.size L k rs := by
  rcases h.lo.2 with ⟨h1, h2⟩ | ⟨g, c, cur, rfl, hB, hg, h1, h2, h3, h4⟩
  · exact .inl ⟨h1, h2⟩
  · refine .inr ⟨g, c, qs, rfl, h1, ⟨hB, (Array.getElem?_eq_some_iff.1 hg).1⟩, h.ql, fun i hi => ?_, h.rows⟩
    rw [World.ownsRow.cellAt h.lo i (by omega), List.getElem?_map]
    have hi' : i < qs.length := by rw [h.ql]; exact hi
    simp [List.getD, hi']

/-- The boxes of own, when the new table's lies. -/
structure OS (w w1 w2 : World) (ar : Option Addr) (lr cr : Nat) (v1 : Value) : Prop where
  p1 : w2.cell? ⟨w.heap.size, 1, none⟩ = some (.slice ar lr cr)
  x0 : w2.cell? ⟨w1.heap.size, 0, none⟩ = some v1
  x1 : w2.cell? ⟨w1.heap.size, 1, none⟩ = some (.slice none 0 0)
  xf : w2.frozen? ⟨w1.heap.size, 1, none⟩ = false
  xt : w2.heap[w1.heap.size]? = some (.cells #[v1, .slice none 0 0] 32)
  r0 : w2.cell? ⟨w.heap.size + 1, 0, none⟩ = some (.slice none 0 0)
  r1 : w2.cell? ⟨w.heap.size + 1, 1, none⟩ = some (.slice none 0 0)
  f0 : w2.frozen? ⟨w.heap.size + 1, 0, none⟩ = false
  f1 : w2.frozen? ⟨w.heap.size + 1, 1, none⟩ = false
  q1 : w1.cell? ⟨w.heap.size, 1, none⟩ = some (.slice ar lr cr)
  q2 : w1.cell? ⟨w.heap.size + 1, 0, none⟩ = some (.slice none 0 0) ∧ w1.cell? ⟨w.heap.size + 1, 1, none⟩ = some (.slice none 0 0) ∧ w1.frozen? ⟨w.heap.size + 1, 0, none⟩ = false ∧ w1.frozen? ⟨w.heap.size + 1, 1, none⟩ = false
  sz : w.heap.size + 1 < w1.heap.size
  s2 : w2.heap.size = w1.heap.size + 1
  bel : Below w1.heap.size w1 w2
theorem own_start (an ar : Option Addr) (ln cn lr cr : Nat) (w w1 : World) (h2 : Below ((w.alloc (.cells #[.slice an ln cn, .slice ar lr cr] 32)).alloc (.cells #[.slice none 0 0, .slice none 0 0] 32)).heap.size ((w.alloc (.cells #[.slice an ln cn, .slice ar lr cr] 32)).alloc (.cells #[.slice none 0 0, .slice none 0 0] 32)) w1) (b : Option Addr) (m c : Nat) :
    ∃ w2, w1.alloc (.cells #[.slice b m c, .slice none 0 0] 32) = w2 ∧ OS w w1 w2 ar lr cr (.slice b m c) := by
  have zz : w.heap.size + 1 + 1 ≤ w1.heap.size := by have := h2.size; simpa using this
  have bb : Below w1.heap.size w1 (w1.alloc (.cells #[.slice b m c, .slice none 0 0] 32)) := (Below.refl _ _).alloc (Nat.le_refl _) _
  have cc : ∀ k j, k < w.heap.size + 1 + 1 → (w1.alloc (.cells #[.slice b m c, .slice none 0 0] 32)).cell? ⟨k, j, none⟩ = ((w.alloc (.cells #[.slice an ln cn, .slice ar lr cr] 32)).alloc (.cells #[.slice none 0 0, .slice none 0 0] 32)).cell? ⟨k, j, none⟩ := fun k j hk => (bb.cell (p := ⟨k, j, none⟩) (show k < _ by omega)).trans (h2.cell (p := ⟨k, j, none⟩) (by simp; omega))
  have ff : ∀ k j, k < w.heap.size + 1 + 1 → (w1.alloc (.cells #[.slice b m c, .slice none 0 0] 32)).frozen? ⟨k, j, none⟩ = ((w.alloc (.cells #[.slice an ln cn, .slice ar lr cr] 32)).alloc (.cells #[.slice none 0 0, .slice none 0 0] 32)).frozen? ⟨k, j, none⟩ := fun k j hk => (bb.frozen (p := ⟨k, j, none⟩) (show k < _ by omega)).trans (h2.frozen (p := ⟨k, j, none⟩) (by simp; omega))
  refine ⟨_, rfl, ?_, by go_simp, by go_simp, by go_simp, ?_, ?_, ?_, ?_, ?_, ?_, ⟨?_, ?_, ?_, ?_⟩, by omega, by simp, bb⟩
  · rw [cc _ _ (by omega)]; go_simp
  · show (w1.heap.push _)[w1.heap.size]? = _; simp
  · rw [cc _ _ (by omega)]; go_simp
  · rw [cc _ _ (by omega)]; go_simp
  · rw [ff _ _ (by omega)]; go_simp
  · rw [ff _ _ (by omega)]; go_simp
  · rw [h2.cell (p := ⟨w.heap.size, 1, none⟩) (by simp; omega)]; go_simp
  · rw [h2.cell (p := ⟨w.heap.size + 1, 0, none⟩) (by simp)]; go_simp
  · rw [h2.cell (p := ⟨w.heap.size + 1, 1, none⟩) (by simp)]; go_simp
  · rw [h2.frozen (p := ⟨w.heap.size + 1, 0, none⟩) (by simp)]; go_simp
  · rw [h2.frozen (p := ⟨w.heap.size + 1, 1, none⟩) (by simp)]; go_simp

theorem NO.mono {w : World} {B B' : Nat} {a : Option Addr} {v : Value} {n : Nat} {ss : List ByteArray} (h : NO w B a v n ss) (hB : B' ≤ B) : NO w B' a v n ss := by
  rcases h with h | ⟨g, c, h1, h2, h2', h3, h4⟩
  · exact .inl h
  · exact .inr ⟨g, c, h1, h2, h2', ⟨Nat.le_trans hB h3.1, h3.2⟩, h4⟩
theorem RO.mono {w : World} {B B' : Nat} {v : Value} {n : Nat} {rs : List Rw} (h : RO w B v n rs) (hB : B' ≤ B) : RO w B' v n rs := by
  rcases h with h | ⟨g, c, qs, h1, h2, h3, h4, h5, h6⟩
  · exact .inl h
  · refine .inr ⟨g, c, qs, h1, h2, ⟨Nat.le_trans hB h3.1, h3.2⟩, h4, h5, fun i hi => ?_⟩
    obtain ⟨a1, a2, a3, a4, a5⟩ := h6 i hi
    refine ⟨a1, a2, a3, ⟨a4.1, ?_⟩, a5⟩
    rcases a4.2 with hn | ⟨q, cap, cur, e, hb, rest⟩
    · exact .inl hn
    · exact .inr ⟨q, cap, cur, e, Nat.le_trans hB hb, rest⟩
theorem own_back {w w' : World} {B : Nat} {E : TypeId} {size : Nat} {v : Value} {n : Nat} {xs : List Value} (h : w.ownsRow B E size v n xs) (b : Below w.heap.size w w') : w'.ownsRow B E size v n xs := by
  refine ⟨h.1, ?_⟩
  rcases h.2 with hn | ⟨q, cap, cur, e, hB, hg, rest⟩
  · exact .inl hn
  · exact .inr ⟨q, cap, cur, e, hB, by rw [b.block q (Array.getElem?_eq_some_iff.1 hg).1]; exact hg, rest⟩
/-- The end of own: the new table is laid into the answer's box. -/
theorem own_end {w w1 wr : World} {ln lr : Nat} {an ar b : Option Addr} {m c cr : Nat} {v2 L : Value} {ss : List ByteArray} {rs : List Rw} (hs : w.heap.size + 1 < w1.heap.size) (N : NO w1 (w.heap.size + 1 + 1) an (.slice b m c) ln ss) (bel : Below w1.heap.size w1 wr) (B1 : Below w.heap.size w w1) (R : RO wr w1.heap.size L lr rs) :
    NO ((wr.setCell ⟨w.heap.size + 1, 0, none⟩ (.slice b m c)).setCell ⟨w.heap.size + 1, 1, none⟩ L) w.heap.size an (.slice b m c) ln ss ∧ RO ((wr.setCell ⟨w.heap.size + 1, 0, none⟩ (.slice b m c)).setCell ⟨w.heap.size + 1, 1, none⟩ L) w.heap.size L lr rs ∧ Below w.heap.size w ((wr.setCell ⟨w.heap.size + 1, 0, none⟩ (.slice b m c)).setCell ⟨w.heap.size + 1, 1, none⟩ L) :=
  ⟨(((N.later bel).kept (grT_set _ _ 0 _) (by omega)).kept (grT_set _ _ 1 _) (by omega)).mono (by omega), ((R.kept (grT_set _ _ 0 _) (by omega)).kept (grT_set _ _ 1 _) (by omega)).mono (by omega),
    ((B1.trans (bel.mono B1.size)).setCell (p := ⟨w.heap.size + 1, 0, none⟩) (by simp) _).setCell (p := ⟨w.heap.size + 1, 1, none⟩) (by simp) _⟩
theorem ow_start (w1 : World) (v1 : Value) (rs : List Rw) (n : Nat) (hn : n ≤ 5864062014640) :
    OW w1 ((w1.alloc (.cells #[v1, .slice (some ⟨w1.heap.size + 1, 0, none⟩) 0 n] 32)).alloc (.cells (madeCells #[.slice none 0 0] n) 50)) v1 (.slice (some ⟨w1.heap.size + 1, 0, none⟩) 0 n) 0 [] rs := by
  have W0 := World.ownsRow_made (e := 50) (size := 1) (base := w1.heap.size) (w1.alloc (.cells #[v1, .slice (some ⟨w1.heap.size + 1, 0, none⟩) 0 n] 32)) (madeCells #[.slice none 0 0] n) n (by simp) (by unfold maxLen; omega) (by rw [size_madeCells]; omega)
  rw [World.size_alloc] at W0
  refine ⟨((Below.refl _ _).alloc (Nat.le_refl _) _).alloc (by simp) _, by go_simp, by go_simp, by go_simp, ⟨#[v1, .slice (some ⟨w1.heap.size + 1, 0, none⟩) 0 n], (0, 0), ?_⟩, W0, rfl, fun i hi => absurd hi (by omega)⟩
  exact (Below.heap_alloc _ _ _ (by simp)).trans (World.alloc_heap_new w1 _)
theorem own_mono {w : World} {B B' : Nat} {E : TypeId} {size : Nat} {v : Value} {n : Nat} {xs : List Value} (h : w.ownsRow B E size v n xs) (hB : B' ≤ B) : w.ownsRow B' E size v n xs := by
  refine ⟨h.1, ?_⟩
  rcases h.2 with hn | ⟨q, cap, cur, e, hb, rest⟩
  · exact .inl hn
  · exact .inr ⟨q, cap, cur, e, Nat.le_trans hB hb, rest⟩
theorem quad_news (W : World) (u v x z : Value) (E : TypeId) : ∀ y, some (⟨W.heap.size, 0, none⟩ : Addr) = some y → ∀ j q, [u, v, x, z][j]? = some q → (W.alloc (.cells #[u, v, x, z] E)).cell? (y.add j) = some q := by
  intro y e j q hj
  injection e with e; subst e
  match j, hj with
  | 0, hj => simp at hj; subst hj; simp [Addr.add]
  | 1, hj => simp at hj; subst hj; simp [Addr.add]
  | 2, hj => simp at hj; subst hj; simp [Addr.add]
  | 3, hj => simp at hj; subst hj; simp [Addr.add]
theorem quad_one : ∀ u ∈ [Value.bool true, .int .i64 (-77177), .bool true, .int .i64 (-77177)], u.oneCell' = true := fun u hu => by
  simp at hu
  rcases hu with rfl | rfl | rfl | rfl <;> rfl
theorem ccs_behind (cs : List Cl) : [] ++ ccs cs ++ [Value.bool true, .int .i64 (-77177), .bool true, .int .i64 (-77177)] = ccs (cs ++ [bc, bc]) := by rw [ccs_app]; rfl
theorem rowL_form {w : World} {e : TypeId} {B : Nat} {v : Value} {n : Nat} {xs : List Value} (h : w.ownsRow B e 1 v n xs) : ∃ a cap, v = .slice a n cap := by
  rcases h.2 with ⟨q, q0⟩ | ⟨g, cc, cur, q, _⟩
  · exact ⟨none, 0, by rw [q, q0]⟩
  · exact ⟨_, cc, q⟩

/-- The list of rows lies in a block of lists. -/
def LB (w : World) (v : Value) : Prop := ∀ z, v.ownBlock = some z → ∃ cur, w.heap[z]? = some (.cells cur 50)
theorem own_lb {w w1 wr : World} {n : Nat} {L : Value} {xs : List Value} {u v : Value} (hs : w.heap.size + 1 < w1.heap.size) (lo : wr.ownsRow w1.heap.size 50 1 L n xs) : LB ((wr.setCell ⟨w.heap.size + 1, 0, none⟩ u).setCell ⟨w.heap.size + 1, 1, none⟩ v) L := by
  intro z hz
  rcases lo.2 with ⟨e, _⟩ | ⟨g, cap, cur, e, hB, hg, _⟩
  · rw [e] at hz; cases hz
  · rw [e] at hz
    injection hz with hz
    subst hz
    have ne : ¬ w.heap.size + 1 = g := by omega
    exact ⟨cur, by simp [World.setCell, Array.getElem?_modify, ne, hg]⟩
end Go.Proofs.YtldplmchgmoopaaDoor
