/-
  LINES IN MEMORY: lists of words, of the document.
-/
import Derived.Test.YtlcidigcecmnpaaGreatDoorMH
import Derived.Test.YtlcidigcecmnpaaGreatDoorMC
import Derived.Test.YtlcidigcecmnpaaGreatDoorMB
import Derived.Test.YtlcidigcecmnpaaGreatDoorMD
namespace Go.Proofs.YtlcidigcecmnpaaGreatDoor
open Go.RowKit
set_option linter.unusedVariables false
set_option linter.unusedSimpArgs false
theorem infoSS : (Tryz.prog.info? 22).map (fun i => (i.zero, i.size, i.bytes)) = some (some (.slice none 0 0), 1, 24) := by kernel_rfl
/-- A line's words in a row of texts. -/
def LnV (W : World) (x : Value) (ws : List ByteArray) : Prop :=
  ∃ g c cs fz, x = .slice (some ⟨g, 0, none⟩) ws.length c ∧ ws.length ≤ c ∧ W.heap[g]? = some (.cells cs 9 fz) ∧ ∀ j y, ws[j]? = some y → W.cell? ⟨g, j, none⟩ = some (.string y)
theorem LnV.blk {W W' : World} {x : Value} {ws : List ByteArray} (h : LnV W x ws) (k : ∀ (g : Nat) (cs : Array Value) (fz : Nat × Nat), W.heap[g]? = some (Obj.cells cs 9 fz) → W'.heap[g]? = W.heap[g]?) : LnV W' x ws := by
  obtain ⟨g, c, cs, fz, h1, h2, h3, h4⟩ := h
  have e := k g cs fz h3
  exact ⟨g, c, cs, fz, h1, h2, e.trans h3, fun j y hj => (cell_block e).trans (h4 j y hj)⟩
theorem LnV.later {W W' : World} {x : Value} {ws : List ByteArray} (h : LnV W x ws) (b : Below W.heap.size W W') : LnV W' x ws := h.blk (fun g cs fz hg => b.block g (Array.getElem?_eq_some_iff.1 hg).1)
theorem LnV.one {W : World} {x : Value} {ws : List ByteArray} (h : LnV W x ws) : x.oneCell' = true := by obtain ⟨g, c, cs, fz, rfl, _⟩ := h; rfl
/-- Lines that stand in a list of one's own. -/
structure LW (W : World) (B : Nat) (v : Value) (vs : List Value) (L : List (List ByteArray)) : Prop where
  len : vs.length = L.length
  own : W.ownsRow B 22 1 v L.length vs
  ln : ∀ i, i < L.length → LnV W (vs.getD i default) (L.getD i [])
theorem LW.later {W W' : World} {B : Nat} {v : Value} {vs : List Value} {L : List (List ByteArray)} (h : LW W B v vs L) (b : Below W.heap.size W W') : LW W' B v vs L :=
  ⟨h.len, row_farP h.own (gr_below b none) (fun k q e => by cases e), fun i hi => (h.ln i hi).later b⟩
theorem lnv_gr {W W' : World} {B n : Nat} {v x : Value} {vs : List Value} {ws : List ByteArray} (h : LnV W x ws) (o : W.ownsRow B 22 1 v n vs) (g : W.grownBy W' v.ownBlock) : LnV W' x ws :=
  h.blk (fun k cs fz hk => g.block k (Array.getElem?_eq_some_iff.1 hk).1 (fun e => by
    obtain ⟨c, f, hc⟩ := row_kind o k e.symm
    rw [hk] at hc
    injection hc with hc
    injection hc with _ hc _
    revert hc; decide))
theorem LW.add {W W' : World} {B : Nat} {v v' x : Value} {vs : List Value} {L : List (List ByteArray)} {ws : List ByteArray} (h : LW W B v vs L) (g : W.grownBy W' v.ownBlock) (o : W'.ownsRow B 22 1 v' (L.length + 1) (vs ++ [x])) (hx : LnV W' x ws) : LW W' B v' (vs ++ [x]) (L ++ [ws]) := by
  refine ⟨by simp [h.len], by simpa using o, fun i hi => ?_⟩
  rw [List.length_append, List.length_cons, List.length_nil] at hi
  by_cases hlt : i < L.length
  · have e1 : (vs ++ [x]).getD i default = vs.getD i default := by simp [List.getD, List.getElem?_append_left (show i < vs.length by rw [h.len]; exact hlt)]
    have e2 : (L ++ [ws]).getD i [] = L.getD i [] := by simp [List.getD, List.getElem?_append_left hlt]
    rw [e1, e2]
    exact lnv_gr (h.ln i hlt) h.own g
  · obtain rfl : i = L.length := by omega
    have e1 : (vs ++ [x]).getD L.length default = x := by simp [List.getD, ← h.len]
    have e2 : (L ++ [ws]).getD L.length [] = ws := by simp [List.getD]
    rw [e1, e2]
    exact hx
/-- What stands while lines are made. -/
structure LS (w W : World) (p : Pg) (v : Value) (vs : List Value) (L : List (List ByteArray)) : Prop where
  bel : Below w.heap.size w W
  bx : BkP W w.heap.size p.arr 26
  lw : LW W (w.heap.size + 1) v vs L
theorem LS.later {w W W' : World} {p : Pg} {v : Value} {vs : List Value} {L : List (List ByteArray)} (h : LS w W p v vs L) (b : Below W.heap.size W W') : LS w W' p v vs L :=
  ⟨h.bel.trans (b.mono h.bel.size), h.bx.grown (gr_below b none) (fun e => by cases e), h.lw.later b⟩
theorem LS.hB {w W : World} {p : Pg} {v : Value} {vs : List Value} {L : List (List ByteArray)} (h : LS w W p v vs L) : w.heap.size + 1 ≤ W.heap.size := h.bx.lt
theorem LS.add {w W W' : World} {p : Pg} {v v' x : Value} {vs : List Value} {L : List (List ByteArray)} {ws : List ByteArray} (h : LS w W p v vs L) (g : W.grownBy W' v.ownBlock) (o : W'.ownsRow (w.heap.size + 1) 22 1 v' (L.length + 1) (vs ++ [x])) (hx : LnV W' x ws) : LS w W' p v' (vs ++ [x]) (L ++ [ws]) :=
  ⟨h.bel.grown g h.bel.size (fun k e => by have := (h.lw.own.lt k e).1; omega), h.bx.grown g (fun e => by have := (h.lw.own.lt _ e.symm).1; omega), h.lw.add g o hx⟩
theorem ls_start (w : World) (p : Pg) : LS w (w.alloc (.cells p.arr 26)) p (.slice none 0 0) [] [] :=
  ⟨allocBP w _, heapN w _, rfl, World.ownsRow_nil _ _ _ _, fun i hi => absurd hi (by simp)⟩
theorem lnv_own {W : World} {B n : Nat} {v : Value} {ws : List ByteArray} (h : W.ownsRow B 9 1 v n (strsP ws)) (hn : n = ws.length) (h0 : v ≠ .slice none 0 0) : LnV W v ws := by
  subst hn
  have hh := h
  rcases h.2 with ⟨q, _⟩ | ⟨g, cap, cur, rfl, h1, h2, h3, h4, _⟩
  · exact absurd q h0
  · refine ⟨g, cap, cur, _, rfl, h3, h2, fun j y hj => ?_⟩
    have := hh.cells (g := g) rfl j (.string y) (by simp [strsP, hj])
    rw [Go.Addr.add_lit, Nat.zero_add] at this
    exact this
theorem lnv_lit2 (W : World) (x y : ByteArray) : LnV (W.alloc (.cells #[.string x, .string y] 9)) (.slice (some ⟨W.heap.size, 0, none⟩) 2 2) [x, y] := by
  refine ⟨W.heap.size, 2, _, _, rfl, by simp, heapN W _, fun j z hj => ?_⟩
  match j, hj with
  | 0, hj => simp at hj; subst hj; simp
  | 1, hj => simp at hj; subst hj; simp
/-- An append of one line. -/
theorem wp_line {w W : World} {ops : Array Oper} {rest : List Oper} {o : Oper} {a : Act} {Q : Exit → Act → World → Prop} {p : Pg} {v x : Value} {vs : List Value} {L : List (List ByteArray)} {ws : List ByteArray} (h : LS w W p v vs L) (hx : LnV W x ws) (hL : L.length ≤ 2000000000) (hgd : o.guard = none) (s y : Operand)
    (ho : o.op = .call { callee := .builtin .append, args := #[s, y], argTypes := #[41, 41] }) (hs : a.eval s = v) (hy : a.eval y = .slice (some ⟨W.heap.size, 0, none⟩) 1 1)
    (k : ∀ v' w', LS w w' p v' (vs ++ [x]) (L ++ [ws]) → wpList Tryz.prog ops Q rest (a.put o.dst v') w') :
    wpList Tryz.prog ops Q (o :: rest) a (W.alloc (.cells #[x] 22)) := by
  obtain ⟨i0, hi, hz0, hz1, hz2⟩ := info_parts infoSS
  have h1 := h.later (allocBP W (.cells #[x] 22))
  have hx1 := hx.later (allocBP W (.cells #[x] 22))
  refine wpList_append_own_at _ hgd s y 41 ho (w.heap.size + 1) 22 i0 _ 1 24 Tryz.underlying41 hi hz0 hz1 hz2 rfl (by decide) v L.length vs hs h1.lw.own ⟨W.heap.size, 0, none⟩ 1 1 [x] hy rfl (cell_one_new W _ _) (by intro u hu; simp at hu; subst hu; exact hx.one) (by unfold maxLen; omega) (by omega) h1.hB ?_
  intro v' w' k1 k2 _ _
  exact k v' w' (h1.add k2 k1 (lnv_gr hx1 h1.lw.own k2))
end Go.Proofs.YtlcidigcecmnpaaGreatDoor

namespace Go.Proofs.YtlcidigcecmnpaaGreatDoor
open Go.RowKit
set_option linter.unusedVariables false
set_option linter.unusedSimpArgs false
def ls1 (k : Nat) (ws : List ByteArray) : List (List ByteArray) := if ws = [] then [] else [lnA k :: ws]
def ls4 (a b c d : Int) : List (List ByteArray) := [[lnA 3, txA a], [lnA 4, txA b], [lnA 5, txA c], [lnA 6, txA d]]
def inLs (p : Pg) (i : In) : List ByteArray := ⟨#[]⟩ :: wdsA p.names p.curs p.pool i
def dyLs (p : Pg) (s : Sg) : List (List ByteArray) := [lnA 7, txA s.day] :: s.code.map (inLs p)
def hdLs (p : Pg) : List (List ByteArray) := [] ++ ls1 0 p.names ++ ls1 1 p.curs ++ ls1 2 (p.pool.map txA) ++ ls4 p.hor p.cells p.slots p.stack
def linesP (p : Pg) : List (List ByteArray) := hdLs p ++ p.days.flatMap (dyLs p)
theorem lit1Q (W : World) (x : ByteArray) : (W.alloc (.cells #[.string x] 9)).ownsRow W.heap.size 9 1 (.slice (some ⟨W.heap.size, 0, none⟩) 1 1) 1 [.string x] := lit1P W x
theorem pcells13 {W : World} {b : Nat} {p : Pg} (h : BkP W b p.arr 26) : W.cell? ⟨b, 0, none⟩ = some (.slice p.na p.names.length p.nc) ∧ W.cell? ⟨b, 1, none⟩ = some (.slice p.ua p.curs.length p.uc) ∧ W.cell? ⟨b, 2, none⟩ = some (.slice p.pa p.pool.length p.pc) ∧ W.cell? ⟨b, 3, none⟩ = some (.int .i64 p.hor) ∧ W.cell? ⟨b, 4, none⟩ = some (.int .i64 p.cells) ∧ W.cell? ⟨b, 5, none⟩ = some (.int .i64 p.slots) ∧ W.cell? ⟨b, 6, none⟩ = some (.int .i64 p.stack) ∧ W.cell? ⟨b, 7, none⟩ = some (.slice p.da p.days.length p.dc) := ⟨h.cell 0, h.cell 1, h.cell 2, h.cell 3, h.cell 4, h.cell 5, h.cell 6, h.cell 7⟩
/-- Four lines in a row. -/
theorem LS.add4 {w W W' : World} {p : Pg} {v v' x1 x2 x3 x4 : Value} {vs : List Value} {L : List (List ByteArray)} {a1 a2 a3 a4 : List ByteArray} (h : LS w W p v vs L) (g : W.grownBy W' v.ownBlock) (o : W'.ownsRow (w.heap.size + 1) 22 1 v' (L.length + 4) (vs ++ [x1, x2, x3, x4])) (h1 : LnV W x1 a1) (h2 : LnV W x2 a2) (h3 : LnV W x3 a3) (h4 : LnV W x4 a4) : LS w W' p v' (vs ++ [x1, x2, x3, x4]) (L ++ [a1, a2, a3, a4]) := by
  have k1 := lnv_gr h1 h.lw.own g
  have k2 := lnv_gr h2 h.lw.own g
  have k3 := lnv_gr h3 h.lw.own g
  have k4 := lnv_gr h4 h.lw.own g
  refine ⟨h.bel.grown g h.bel.size (fun k e => by have := (h.lw.own.lt k e).1; omega), h.bx.grown g (fun e => by have := (h.lw.own.lt _ e.symm).1; omega), by simp [h.lw.len], by simpa using o, fun i hi => ?_⟩
  rw [List.length_append] at hi
  by_cases hlt : i < L.length
  · have e1 : (vs ++ [x1, x2, x3, x4]).getD i default = vs.getD i default := by simp [List.getD, List.getElem?_append_left (show i < vs.length by rw [h.lw.len]; exact hlt)]
    have e2 : (L ++ [a1, a2, a3, a4]).getD i [] = L.getD i [] := by simp [List.getD, List.getElem?_append_left hlt]
    rw [e1, e2]
    exact lnv_gr (h.lw.ln i hlt) h.lw.own g
  · obtain ⟨j, rfl⟩ : ∃ j, i = L.length + j := ⟨i - L.length, by omega⟩
    have e1 : (vs ++ [x1, x2, x3, x4]).getD (L.length + j) default = [x1, x2, x3, x4].getD j default := by
      simp only [List.getD]
      rw [List.getElem?_append_right (by rw [h.lw.len]; omega), h.lw.len, Nat.add_sub_cancel_left]
    have e2 : (L ++ [a1, a2, a3, a4]).getD (L.length + j) [] = [a1, a2, a3, a4].getD j [] := by
      simp only [List.getD]
      rw [List.getElem?_append_right (by omega), Nat.add_sub_cancel_left]
    rw [e1, e2]
    have hj : j < 4 := by simp at hi; omega
    match j, hj with
    | 0, _ => exact k1
    | 1, _ => exact k2
    | 2, _ => exact k3
    | 3, _ => exact k4
theorem lnv_two {W : World} {g : Nat} {x y : ByteArray} {fz : Nat × Nat} (h : W.heap[g]? = some (.cells #[.string x, .string y] 9 fz)) : LnV W (.slice (some ⟨g, 0, none⟩) 2 2) [x, y] := by
  refine ⟨g, 2, _, fz, rfl, by simp, h, fun j z hj => ?_⟩
  match j, hj with
  | 0, hj => simp at hj; subst hj; simp [World.cell?, h]
  | 1, hj => simp at hj; subst hj; simp [World.cell?, h]
theorem ls_step {w W Wc W' : World} {p : Pg} {v : Value} {vs : List Value} {L : List (List ByteArray)} (h : LS w W p v vs L) (q : Below W.heap.size W Wc) (b : Below Wc.heap.size Wc W') : LS w W' p v vs L := h.later (q.trans (b.mono q.size))
theorem cell_keep {w : World} {a : Addr} {o : Obj} {u : Value} (h : w.cell? a = some u) : (w.alloc o).cell? a = some u := (World.cell?_alloc_some w a o (by rw [h]; rfl)).trans h
theorem heapK (w : World) (o : Obj) (k : Nat) (hk : k = w.heap.size) : (w.alloc o).heap[k]? = some o := by subst hk; exact heapN w o
/-- An append of four lines, in a region that draws. -/
theorem step_four {w W : World} {ops : Array Oper} {o : Oper} {a : Act} {K : Act → World → Prop} {Q : Exit → Act → World → Prop} {E : Prop} {p : Pg} {v x1 x2 x3 x4 : Value} {vs : List Value} {L : List (List ByteArray)} {a1 a2 a3 a4 : List ByteArray} (h : LS w W p v vs L) (hL : L.length ≤ 10000000) (hgd : o.guard = none) (s y : Operand)
    (ho : o.op = .call { callee := .builtin .append, args := #[s, y], argTypes := #[41, 41] }) (hs : a.eval s = v) (hy : a.eval y = .slice (some ⟨W.heap.size, 0, none⟩) 4 4)
    (h1 : LnV W x1 a1) (h2 : LnV W x2 a2) (h3 : LnV W x3 a3) (h4 : LnV W x4 a4)
    (k : ∀ v' w', LS w w' p v' (vs ++ [x1, x2, x3, x4]) (L ++ [a1, a2, a3, a4]) → K (a.put o.dst v') w') :
    if Region.wanted o (yielded ops a.tmps) = true then Oper.wp Tryz.prog o a (W.alloc (.cells #[x1, x2, x3, x4] 22)) K Q else E := by
  obtain ⟨i0, hi, hz0, hz1, hz2⟩ := info_parts infoSS
  have hh := h.later (allocBP W (.cells #[x1, x2, x3, x4] 22))
  have b := allocBP W (.cells #[x1, x2, x3, x4] 22)
  refine step_appG4 _ hgd s y 41 ho (w.heap.size + 1) 22 i0 _ 1 24 Tryz.underlying41 hi hz0 hz1 hz2 rfl (by decide) v L.length vs hs hh.lw.own ⟨W.heap.size, 0, none⟩ 4 4 [x1, x2, x3, x4] hy rfl (cell_four_new W _ _ _ _ _) (by intro u hu; simp at hu; rcases hu with rfl | rfl | rfl | rfl; exact h1.one; exact h2.one; exact h3.one; exact h4.one) (by unfold maxLen; omega) (by omega) hh.hB ?_
  intro v' w' k1 k2 _ _
  exact k v' w' (hh.add4 k2 k1 (h1.later b) (h2.later b) (h3.later b) (h4.later b))
theorem flat_nextL {α β : Type} [Inhabited α] (f : α → List β) (l : List α) (k : Nat) (hk : k < l.length) : (l.take (k + 1)).flatMap f = (l.take k).flatMap f ++ f (l.getD k default) := by
  rw [List.take_succ_eq_append_getElem hk, List.flatMap_append]
  simp [List.getD, hk]
theorem in_memL {α : Type} [Inhabited α] {l : List α} {k : Nat} (h : k < l.length) : l.getD k default ∈ l := by simp [List.getD, h]
theorem wds_l3 (ns cs : List ByteArray) (pl : List Int) (i : In) : (wdsA ns cs pl i).length ≤ 3 := by unfold wdsA; simp; omega
/-- The words of an instruction that the program has. -/
theorem ins_ok {W : World} {p : Pg} {i : In} {args : Array Value} (h : Calls Tryz.prog 30 args W fun e w' => InsE W w' p i e ∧ Below W.heap.size W w') (h1 : i.okP) (h2 : fstB p.names p.curs p.pool i = true) :
    Calls Tryz.prog 30 args W fun e w' => ∃ g c, e = .returned (.tuple #[.slice (some ⟨g, 0, none⟩) (wdsA p.names p.curs p.pool i).length c, .int .i64 0]) ∧ LnV w' (.slice (some ⟨g, 0, none⟩) (wdsA p.names p.curs p.pool i).length c) (wdsA p.names p.curs p.pool i) ∧ Below W.heap.size W w' := by
  refine h.mono ?_
  rintro e w' ⟨⟨q, _⟩ | ⟨_, _, v, B, rfl, hB, hO⟩, hb⟩
  · exact absurd (by unfold prE; rw [if_pos h1, if_pos h2]) q
  · have nn : v ≠ .slice none 0 0 := fun q => by
      subst q
      rcases hO.2 with ⟨_, q⟩ | ⟨g, cap, cur, q, _⟩
      · rw [wds_len _ _ _ _ h1] at q; omega
      · cases q
    obtain ⟨g, c, rfl, _, _, _⟩ := row_someP hO nn
    exact ⟨g, c, rfl, lnv_own hO rfl nn, hb⟩
theorem lnv_news {W : World} {g n c : Nat} {ws : List ByteArray} (h : LnV W (.slice (some ⟨g, 0, none⟩) n c) ws) : ∀ j u, (strsP ws)[j]? = some u → W.cell? ((⟨g, 0, none⟩ : Addr).add j) = some u := by
  obtain ⟨g', c', cs, fz, e, _, _, h4⟩ := h
  injection e with e _ _
  injection e with e
  injection e with e
  subst e
  intro j u hj
  rw [Go.Addr.add_lit, Nat.zero_add]
  have hj' : j < ws.length := by have := (List.getElem?_eq_some_iff.1 hj).1; simpa [strsP] using this
  have e2 : u = .string (ws.getD j default) := by simp [strsP, hj'] at hj; simp [List.getD, hj', hj]
  rw [e2]
  exact h4 j _ (by simp [List.getD, hj'])
theorem flat_leL {α β : Type} (f : α → List β) (M : Nat) : ∀ (l : List α), (∀ x ∈ l, (f x).length ≤ M) → (l.flatMap f).length ≤ l.length * M
  | [], _ => by simp
  | x :: r, h => by
    have := flat_leL f M r (fun y hy => h y (List.mem_cons_of_mem _ hy))
    have hx := h x List.mem_cons_self
    rw [List.flatMap_cons, List.length_append, List.length_cons, Nat.add_mul]
    omega
end Go.Proofs.YtlcidigcecmnpaaGreatDoor

namespace Go.Proofs.YtlcidigcecmnpaaGreatDoor
open Go.RowKit
set_option linter.unusedVariables false
set_option linter.unusedSimpArgs false
section
variable {P : Program} {md : Region.Mode} {ops : Array Oper} {Q : Exit → Act → World → Prop}
theorem set_getD {l : Array Bool} {i j : Nat} {d : Bool} (h : j ≠ i) : (l.setIfInBounds i true).getD j d = l.getD j d := by
  simp [Array.getD_eq_getD_getElem?, Array.getElem?_setIfInBounds, show ¬ i = j from fun e => h e.symm]
theorem set_getD_same {l : Array Bool} {i : Nat} {d : Bool} (h : i < l.size) : (l.setIfInBounds i true).getD i d = true := by
  simp [Array.getD_eq_getD_getElem?, Array.getElem?_setIfInBounds, h]
theorem all_listed {listed : Array Bool} (hs : listed.size = ops.size) (dep : ∀ (i : Nat) (o : Oper), ops[i]? = some o → ∀ e ∈ o.after, e.on < i) (hr : Region.ready md ops listed = []) : ∀ n i, i < n → i < ops.size → listed.getD i false = true
  | 0, i, h, _ => absurd h (by omega)
  | n + 1, i, h, hi => by
    refine Decidable.byContradiction fun q => ?_
    have hm : i ∈ Region.ready md ops listed := by
      refine mem_ready.2 ⟨?_, ops[i], by simp [hi], fun e he _ => ?_⟩
      · have : i < listed.size := by omega
        simp [Array.getD_eq_getD_getElem?, this] at q ⊢
        exact q
      · exact all_listed hs dep hr n e.on (by have := dep i ops[i] (by simp [hi]) e he; omega) (by have := dep i ops[i] (by simp [hi]) e he; omega)
    rw [hr] at hm
    cases hm
/-- Whatever order is drawn: an invariant that every operation keeps. -/
theorem wpAny_inv (Inv : Array Bool → Act → World → Prop) (hsz : ∀ l a W, Inv l a W → l.size = ops.size) (dep : ∀ (i : Nat) (o : Oper), ops[i]? = some o → ∀ e ∈ o.after, e.on < i)
    (step : ∀ (l : Array Bool) (a : Act) (W : World) (i : Nat) (o : Oper), Inv l a W → ops[i]? = some o → l.getD i true = false → (∀ e ∈ o.after, Region.binds md e = true → l.getD e.on false = true) → wpOp P ops Q i (fun a' W' => Inv (l.setIfInBounds i true) a' W') a W)
    (fin : ∀ l a W, Inv l a W → (∀ i, i < ops.size → l.getD i false = true) → Q .normal a W) :
    ∀ (fuel : Nat) (l : Array Bool) (a : Act) (W : World) (U : List Nat), Inv l a W → U.length ≤ fuel → (∀ i, l.getD i true = false → i ∈ U) → wpAny P md ops Q fuel l a W
  | 0, l, a, W, U, hI, hU, hm => by
    have e : U = [] := List.length_eq_zero_iff.1 (by omega)
    have hr : Region.ready md ops l = [] := by
      cases hq : Region.ready md ops l with
      | nil => rfl
      | cons x r =>
        have := (mem_ready.1 (by rw [hq]; exact List.mem_cons_self : x ∈ Region.ready md ops l)).1
        have := hm x this
        rw [e] at this
        cases this
    exact ⟨hr, fin l a W hI (fun i hi => all_listed (hsz l a W hI) dep hr (i + 1) i (by omega) hi)⟩
  | fuel + 1, l, a, W, U, hI, hU, hm => by
    refine ⟨fun hr => fin l a W hI (fun i hi => all_listed (hsz l a W hI) dep hr (i + 1) i (by omega) hi), fun i hi => ?_⟩
    obtain ⟨h1, o, h2, h3⟩ := mem_ready.1 hi
    refine wpOp_mono (fun a' W' h' => wpAny_inv Inv hsz dep step fin fuel _ a' W' (U.erase i) h' ?_ ?_) (step l a W i o hI h2 h1 h3)
    · have := List.length_erase_of_mem (hm i h1)
      omega
    · intro j hj
      by_cases e : j = i
      · subst e
        have hl : j < l.size := by
          rcases Nat.lt_or_ge j l.size with h | h
          · exact h
          · rw [Array.getD_eq_getD_getElem?, Array.getElem?_eq_none h] at h1; cases h1
        rw [set_getD_same hl] at hj
        cases hj
      · rw [set_getD e] at hj
        exact (List.mem_erase_of_ne e).2 (hm j hj)
end
theorem wpAny_inv0 {P : Program} {md : Region.Mode} {ops : Array Oper} {Q : Exit → Act → World → Prop} {a : Act} {W : World} (I : Act → Array Bool → Act → World → Prop) (init : I a (Array.replicate ops.size false) a W) (hsz : ∀ l a' W', I a l a' W' → l.size = ops.size) (dep : ∀ (i : Nat) (o : Oper), ops[i]? = some o → ∀ e ∈ o.after, e.on < i)
    (step : ∀ (l : Array Bool) (a' : Act) (W' : World) (i : Nat) (o : Oper), I a l a' W' → ops[i]? = some o → l.getD i true = false → (∀ e ∈ o.after, Region.binds md e = true → l.getD e.on false = true) → wpOp P ops Q i (fun a'' W'' => I a (l.setIfInBounds i true) a'' W'') a' W')
    (fin : ∀ l a' W', I a l a' W' → (∀ i, i < ops.size → l.getD i false = true) → Q .normal a' W') : wpAny P md ops Q ops.size (Array.replicate ops.size false) a W :=
  wpAny_inv (I a) hsz dep step fin ops.size _ a W (List.range ops.size) init (by simp) (fun i h => by
    rw [List.mem_range]
    rcases Nat.lt_or_ge i ops.size with q | q
    · exact q
    · rw [Array.getD_eq_getD_getElem?, Array.getElem?_eq_none (by simpa using q)] at h; cases h)
def depB (ops : Array Oper) : Bool := (List.range ops.size).all (fun i => ((ops[i]?).map (fun o => o.after.toList.all (fun e => decide (e.on < i)))).getD true)
theorem dep_of {ops : Array Oper} (h : depB ops = true) : ∀ (i : Nat) (o : Oper), ops[i]? = some o → ∀ e ∈ o.after, e.on < i := by
  intro i o ho e he
  have hi : i < ops.size := (Array.getElem?_eq_some_iff.1 ho).1
  have := List.all_eq_true.1 h i (List.mem_range.2 hi)
  rw [ho] at this
  simp only [Option.map_some, Option.getD_some] at this
  exact of_decide_eq_true (List.all_eq_true.1 this e (by simpa using he))
/-- All but some temporaries stay. -/
structure SB (a0 a : Act) (D : List Nat) : Prop where
  df : a.defers = a0.defers
  sz : a.tmps.size = a0.tmps.size
  tm : ∀ k, k ∉ D → a.tmps[k]? = a0.tmps[k]?
theorem SB.refl (a : Act) (D : List Nat) : SB a a D := ⟨rfl, rfl, fun _ _ => rfl⟩
theorem SB.put {a0 a : Act} {D : List Nat} (h : SB a0 a D) (d : Nat) (hd : d ∈ D) (v : Value) : SB a0 (a.put (some d) v) D :=
  ⟨h.df, by simpa [Act.put] using h.sz, fun k hk => by
    have : d ≠ k := fun e => hk (e ▸ hd)
    rw [← h.tm k hk]
    simp [Act.put, Array.getElem?_setIfInBounds, this]⟩
theorem eval_same {a : Act} {d : Nat} {v : Value} (h : d < a.tmps.size) : (a.put (some d) v).eval (.tmp d) = v := by
  simp [Act.put, Act.eval, h]
theorem eval_other {a : Act} {d k : Nat} {v : Value} (h : k ≠ d) : (a.put (some d) v).eval (.tmp k) = a.eval (.tmp k) := Act.eval_put (fun e he => by injection he with he; subst he; intro q; injection q with q; exact h q)
/-- Where each operation's answer lies. -/
def dst4 (i : Nat) : Nat := if i = 19 then 3 else 57 + i
/-- What each operation answers. -/
def Pr4 (X : Nat) (v : Value) (n0 n1 n2 n3 : Int) (j : Nat) (x : Value) (W : World) : Prop :=
  match j with
  | 0 => x = v
  | 1 => x = .pointer (some ⟨X, 3, none⟩)
  | 2 => x = .int .i64 n0
  | 3 => x = .string (txA n0)
  | 4 => LnV W x [lnA 3, txA n0]
  | 5 => x = .pointer (some ⟨X, 4, none⟩)
  | 6 => x = .int .i64 n1
  | 7 => x = .string (txA n1)
  | 8 => LnV W x [lnA 4, txA n1]
  | 9 => x = .pointer (some ⟨X, 5, none⟩)
  | 10 => x = .int .i64 n2
  | 11 => x = .string (txA n2)
  | 12 => LnV W x [lnA 5, txA n2]
  | 13 => x = .pointer (some ⟨X, 6, none⟩)
  | 14 => x = .int .i64 n3
  | 15 => x = .string (txA n3)
  | 16 => LnV W x [lnA 6, txA n3]
  | 17 => ∃ g x1 x2 x3 x4, x = .slice (some ⟨g, 0, none⟩) 4 4 ∧ g < W.heap.size ∧ (∀ j u, [x1, x2, x3, x4][j]? = some u → W.cell? ⟨g, j, none⟩ = some u) ∧ LnV W x1 [lnA 3, txA n0] ∧ LnV W x2 [lnA 4, txA n1] ∧ LnV W x3 [lnA 5, txA n2] ∧ LnV W x4 [lnA 6, txA n3]
  | _ => True
theorem Pr4.later {X : Nat} {v : Value} {n0 n1 n2 n3 : Int} {j : Nat} {x : Value} {W W' : World} (h : Pr4 X v n0 n1 n2 n3 j x W) (b : Below W.heap.size W W') : Pr4 X v n0 n1 n2 n3 j x W' := by
  unfold Pr4 at *
  split at h <;> first | exact h | exact h.later b | (obtain ⟨g, x1, x2, x3, x4, e, hg, hc, h1, h2, h3, h4⟩ := h; exact ⟨g, x1, x2, x3, x4, e, Nat.lt_of_lt_of_le hg b.size, fun j u hj => (b.cell (p := ⟨g, j, none⟩) hg).trans (hc j u hj), h1.later b, h2.later b, h3.later b, h4.later b⟩)
/-- What each operation waits for. -/
def deps4 (i : Nat) : List Nat :=
  match i with
  | 2 => [1] | 3 => [2] | 4 => [3] | 6 => [5] | 7 => [6, 3] | 8 => [7] | 10 => [9] | 11 => [10, 7] | 12 => [11] | 14 => [13] | 15 => [14, 11] | 16 => [15] | 17 => [4, 8, 12, 16] | 18 => [0, 17] | 19 => [18] | _ => []
structure I4 (w : World) (p : Pg) (v : Value) (vs : List Value) (L : List (List ByteArray)) (n0 n1 n2 n3 : Int) (a0 : Act) (D : List Nat) (l : Array Bool) (a : Act) (W : World) : Prop where
  sz : l.size = 20
  fr : SB a0 a D
  s3 : l.getD 19 false = false → a.eval (.tmp 3) = v
  cl : ∀ j, j < 20 → l.getD j false = true → ∀ d ∈ deps4 j, l.getD d false = true
  pre : l.getD 18 false = false → LS w W p v vs L ∧ ∀ j, j < 18 → l.getD j false = true → Pr4 w.heap.size v n0 n1 n2 n3 j (a.eval (.tmp (dst4 j))) W
  post : l.getD 18 false = true → ∃ v' vs', LS w W p v' vs' (L ++ ls4 n0 n1 n2 n3) ∧ a.eval (.tmp 75) = v' ∧ (l.getD 19 false = true → a.eval (.tmp 3) = v')
theorem I4.all {w : World} {p : Pg} {v : Value} {vs : List Value} {L : List (List ByteArray)} {n0 n1 n2 n3 : Int} {a0 : Act} {D : List Nat} {l : Array Bool} {a : Act} {W : World} (h : I4 w p v vs L n0 n1 n2 n3 a0 D l a W) (h18 : l.getD 18 false = true) : ∀ j, j < 18 → l.getD j false = true := by
  have c := fun j hj q => h.cl j hj q
  have k17 := c 18 (by omega) h18 17 (by simp [deps4])
  have k0 := c 18 (by omega) h18 0 (by simp [deps4])
  have k4 := c 17 (by omega) k17 4 (by simp [deps4])
  have k8 := c 17 (by omega) k17 8 (by simp [deps4])
  have k12 := c 17 (by omega) k17 12 (by simp [deps4])
  have k16 := c 17 (by omega) k17 16 (by simp [deps4])
  have k3 := c 4 (by omega) k4 3 (by simp [deps4])
  have k2 := c 3 (by omega) k3 2 (by simp [deps4])
  have k1 := c 2 (by omega) k2 1 (by simp [deps4])
  have k7 := c 8 (by omega) k8 7 (by simp [deps4])
  have k6 := c 7 (by omega) k7 6 (by simp [deps4])
  have k5 := c 6 (by omega) k6 5 (by simp [deps4])
  have k11 := c 12 (by omega) k12 11 (by simp [deps4])
  have k10 := c 11 (by omega) k11 10 (by simp [deps4])
  have k9 := c 10 (by omega) k10 9 (by simp [deps4])
  have k15 := c 16 (by omega) k16 15 (by simp [deps4])
  have k14 := c 15 (by omega) k15 14 (by simp [deps4])
  have k13 := c 14 (by omega) k14 13 (by simp [deps4])
  intro j hj
  match j, hj with
  | 0, _ => exact k0
  | 1, _ => exact k1
  | 2, _ => exact k2
  | 3, _ => exact k3
  | 4, _ => exact k4
  | 5, _ => exact k5
  | 6, _ => exact k6
  | 7, _ => exact k7
  | 8, _ => exact k8
  | 9, _ => exact k9
  | 10, _ => exact k10
  | 11, _ => exact k11
  | 12, _ => exact k12
  | 13, _ => exact k13
  | 14, _ => exact k14
  | 15, _ => exact k15
  | 16, _ => exact k16
  | 17, _ => exact k17
  | n + 18, hj => exact absurd hj (by omega)
theorem un_false {l : Array Bool} {i : Nat} (h : l.getD i true = false) (hi : i < l.size) : l.getD i false = false := by
  simp [Array.getD_eq_getD_getElem?, hi] at h ⊢
  exact h
theorem I4.un {w : World} {p : Pg} {v : Value} {vs : List Value} {L : List (List ByteArray)} {n0 n1 n2 n3 : Int} {a0 : Act} {D : List Nat} {l : Array Bool} {a : Act} {W : World} (h : I4 w p v vs L n0 n1 n2 n3 a0 D l a W) {i : Nat} (hi : i < 18) (hu : l.getD i true = false) : l.getD 18 false = false := by
  refine Decidable.byContradiction fun q => ?_
  have := h.all (by simpa using q) i hi
  rw [un_false hu (by rw [h.sz]; omega)] at this
  cases this
/-- An operation ahead of the append has been carried out. -/
theorem I4.put {w : World} {p : Pg} {v : Value} {vs : List Value} {L : List (List ByteArray)} {n0 n1 n2 n3 : Int} {a0 : Act} {D : List Nat} {l : Array Bool} {a : Act} {W : World} (h : I4 w p v vs L n0 n1 n2 n3 a0 D l a W) (i : Nat) (hi : i < 18) (hu : l.getD i true = false) (hd : dst4 i ∈ D) (hz : dst4 i < a.tmps.size) (dp : ∀ d ∈ deps4 i, l.getD d false = true) {W' : World} (b : Below W.heap.size W W') (x : Value) (hx : Pr4 w.heap.size v n0 n1 n2 n3 i x W') :
    I4 w p v vs L n0 n1 n2 n3 a0 D (l.setIfInBounds i true) (a.put (some (dst4 i)) x) W' := by
  have h18 : l.getD 18 false = false := by
    refine Decidable.byContradiction fun q => ?_
    have := h.all (by simpa using q) i hi
    rw [un_false hu (by rw [h.sz]; omega)] at this
    cases this
  obtain ⟨hL, hP⟩ := h.pre h18
  refine ⟨by simpa using h.sz, h.fr.put _ hd _, fun q => ?_, fun j hj q d hdd => ?_, fun _ => ⟨hL.later b, fun j hj q => ?_⟩, fun q => ?_⟩
  · rw [set_getD (by omega)] at q
    rw [eval_other (by unfold dst4; rw [if_neg (by omega)]; omega)]
    exact h.s3 q
  · by_cases e : d = i
    · subst e; exact set_getD_same (by rw [h.sz]; omega)
    · rw [set_getD e]
      by_cases e2 : j = i
      · subst e2; exact dp d hdd
      · rw [set_getD e2] at q; exact h.cl j hj q d hdd
  · by_cases e : j = i
    · subst e; rw [eval_same hz]; exact hx
    · rw [set_getD e] at q
      have ne : dst4 j ≠ dst4 i := by unfold dst4; rw [if_neg (by omega), if_neg (by omega)]; omega
      rw [eval_other ne]
      exact (hP j hj q).later b
  · rw [set_getD (by omega)] at q
    rw [h18] at q
    cases q
theorem SB.eval {a0 a : Act} {D : List Nat} (h : SB a0 a D) (k : Nat) (hk : k ∉ D) : a.eval (.tmp k) = a0.eval (.tmp k) := by
  show a.tmps.getD k undef = a0.tmps.getD k undef
  rw [Array.getD_eq_getD_getElem?, Array.getD_eq_getD_getElem?, h.tm k hk]
section
variable {ops : Array Oper} {o : Oper} {a : Act} {K : Act → World → Prop} {Q : Exit → Act → World → Prop} {E : Prop} {w : World}
theorem st_field (hg : o.guard = none) (x : Operand) (n X : Nat) (ho : o.op = .fieldAddr 26 x n) (hx : a.eval x = .pointer (some ⟨X, 0, none⟩)) (hn : n < 8) (h : K (a.put o.dst (.pointer (some ⟨X, n, none⟩))) w) : if Region.wanted o (yielded ops a.tmps) = true then Oper.wp Tryz.prog o a w K Q else E := by
  rw [if_pos (by simp [Region.wanted, hg])]
  unfold Oper.wp execOp
  match n, hn with
  | 3, _ => simp only [ho, hx]; go_simp; exact h
  | 4, _ => simp only [ho, hx]; go_simp; exact h
  | 5, _ => simp only [ho, hx]; go_simp; exact h
  | 6, _ => simp only [ho, hx]; go_simp; exact h
  | 0, _ => simp only [ho, hx]; go_simp; exact h
  | 1, _ => simp only [ho, hx]; go_simp; exact h
  | 2, _ => simp only [ho, hx]; go_simp; exact h
  | 7, _ => simp only [ho, hx]; go_simp; exact h
theorem st_load (hg : o.guard = none) (x : Operand) (ad : Addr) (z : Int) (ho : o.op = .load 3 x) (hx : a.eval x = .pointer (some ad)) (hc : w.cell? ad = some (.int .i64 z)) (h : K (a.put o.dst (.int .i64 z)) w) : if Region.wanted o (yielded ops a.tmps) = true then Oper.wp Tryz.prog o a w K Q else E := by
  rw [if_pos (by simp [Region.wanted, hg])]
  unfold Oper.wp execOp
  simp only [ho, hx]
  go_simp
  exact h
theorem ev_tmp {a : Act} {k : Nat} {v : Value} (h : a.eval (.tmp k) = v) : a.tmps[k]?.getD undef = v := by
  rw [← h]; show _ = a.tmps.getD k undef; rw [Array.getD_eq_getD_getElem?]
theorem st_move (hg : o.guard = none) (k : Nat) (v : Value) (ho : o.op = .move (.tmp k) ∨ o.op = .assign (.tmp k)) (hy : a.eval (.tmp k) = v) (h : K (a.put o.dst v) w) : if Region.wanted o (yielded ops a.tmps) = true then Oper.wp Tryz.prog o a w K Q else E := by
  rw [if_pos (by simp [Region.wanted, hg])]
  have hy2 := ev_tmp hy
  unfold Oper.wp execOp
  rcases ho with ho | ho <;> (simp only [ho]; go_simp; first | exact h | (rw [Oper.upon_value]; exact h))
theorem st_two (hg : o.guard = none) (x : ByteArray) (k : Nat) (s : ByteArray) (ho : o.op = .buildSlice 22 2 #[(0, .const (.string x)), (1, .tmp k)]) (hy : a.eval (.tmp k) = .string s) (h : K (a.put o.dst (.slice (some ⟨w.heap.size, 0, none⟩) 2 2)) (w.alloc (.cells #[.string x, .string s] 9))) : if Region.wanted o (yielded ops a.tmps) = true then Oper.wp Tryz.prog o a w K Q else E := by
  rw [if_pos (by simp [Region.wanted, hg])]
  have hy2 := ev_tmp hy
  unfold Oper.wp execOp
  simp only [ho]
  go_simp
  exact h
theorem st_four (hg : o.guard = none) (k1 k2 k3 k4 : Nat) (a1 a2 a3 a4 : Option Addr) (m1 m2 m3 m4 c1 c2 c3 c4 : Nat) (ho : o.op = .buildSlice 41 4 #[(0, .tmp k1), (1, .tmp k2), (2, .tmp k3), (3, .tmp k4)]) (h1 : a.eval (.tmp k1) = .slice a1 m1 c1) (h2 : a.eval (.tmp k2) = .slice a2 m2 c2) (h3 : a.eval (.tmp k3) = .slice a3 m3 c3) (h4 : a.eval (.tmp k4) = .slice a4 m4 c4) (h : K (a.put o.dst (.slice (some ⟨w.heap.size, 0, none⟩) 4 4)) (w.alloc (.cells #[.slice a1 m1 c1, .slice a2 m2 c2, .slice a3 m3 c3, .slice a4 m4 c4] 22))) : if Region.wanted o (yielded ops a.tmps) = true then Oper.wp Tryz.prog o a w K Q else E := by
  rw [if_pos (by simp [Region.wanted, hg])]
  have y1 := ev_tmp h1
  have y2 := ev_tmp h2
  have y3 := ev_tmp h3
  have y4 := ev_tmp h4
  unfold Oper.wp execOp
  simp only [ho]
  go_simp
  exact h
theorem st_call (hg : o.guard = none) (k : Nat) (z : Int) (s : ByteArray) (ho : o.op = .call { callee := .value (.func 29), args := #[.tmp k], argTypes := #[3] }) (hy : a.eval (.tmp k) = .int .i64 z) (hc : Calls Tryz.prog 29 #[.int .i64 z] w fun e w' => e = .returned (.string s) ∧ Below w.heap.size w w') (h : ∀ w', Below w.heap.size w w' → K (a.put o.dst (.string s)) w') : if Region.wanted o (yielded ops a.tmps) = true then Oper.wp Tryz.prog o a w K Q else E := by
  rw [if_pos (by simp [Region.wanted, hg])]
  have hy2 := ev_tmp hy
  unfold Oper.wp execOp
  simp only [ho]
  go_simp
  refine hc.mono ?_
  rintro e w' ⟨rfl, b⟩
  exact h w' b
end
/-- The append has been carried out. -/
theorem I4.put18 {w : World} {p : Pg} {v : Value} {vs : List Value} {L : List (List ByteArray)} {n0 n1 n2 n3 : Int} {a0 : Act} {D : List Nat} {l : Array Bool} {a : Act} {W : World} (h : I4 w p v vs L n0 n1 n2 n3 a0 D l a W) (hu : l.getD 18 true = false) (hd : 75 ∈ D) (hz : 75 < a.tmps.size) (dp : ∀ d ∈ deps4 18, l.getD d false = true) {W' : World} (v' : Value) (vs' : List Value) (hL : LS w W' p v' vs' (L ++ ls4 n0 n1 n2 n3)) :
    I4 w p v vs L n0 n1 n2 n3 a0 D (l.setIfInBounds 18 true) (a.put (some 75) v') W' := by
  refine ⟨by simpa using h.sz, h.fr.put _ hd _, fun q => ?_, fun j hj q d hdd => ?_, fun q => ?_, fun q => ⟨v', vs', hL, eval_same hz, fun q => ?_⟩⟩
  · rw [set_getD (by omega)] at q
    rw [eval_other (by omega)]
    exact h.s3 q
  · by_cases e : d = 18
    · subst e; exact set_getD_same (by rw [h.sz]; omega)
    · rw [set_getD e]
      by_cases e2 : j = 18
      · subst e2; exact dp d hdd
      · rw [set_getD e2] at q; exact h.cl j hj q d hdd
  · rw [set_getD_same (by rw [h.sz]; omega)] at q; cases q
  · rw [set_getD (by omega)] at q
    have := h.cl 19 (by omega) q 18 (by simp [deps4])
    rw [un_false hu (by rw [h.sz]; omega)] at this
    cases this
theorem I4.put19 {w : World} {p : Pg} {v : Value} {vs : List Value} {L : List (List ByteArray)} {n0 n1 n2 n3 : Int} {a0 : Act} {D : List Nat} {l : Array Bool} {a : Act} {W : World} (h : I4 w p v vs L n0 n1 n2 n3 a0 D l a W) (hu : l.getD 19 true = false) (hd : 3 ∈ D) (hz : 3 < a.tmps.size) (h18 : l.getD 18 false = true) {v' : Value} (hv : a.eval (.tmp 75) = v') :
    I4 w p v vs L n0 n1 n2 n3 a0 D (l.setIfInBounds 19 true) (a.put (some 3) v') W := by
  obtain ⟨v2, vs2, hL, e1, _⟩ := h.post h18
  refine ⟨by simpa using h.sz, h.fr.put _ hd _, fun q => ?_, fun j hj q d hdd => ?_, fun q => ?_, fun q => ⟨v2, vs2, hL, ?_, fun q => ?_⟩⟩
  · rw [set_getD_same (by rw [h.sz]; omega)] at q; cases q
  · by_cases e : d = 19
    · subst e; exact set_getD_same (by rw [h.sz]; omega)
    · rw [set_getD e]
      by_cases e2 : j = 19
      · subst e2
        have : d = 18 := by simpa [deps4] using hdd
        subst this
        exact h18
      · rw [set_getD e2] at q; exact h.cl j hj q d hdd
  · rw [set_getD (by omega), h18] at q; cases q
  · rw [eval_other (by omega)]; exact e1
  · rw [eval_same hz, ← hv]; exact e1
/-- A frame, from its parts. -/
theorem puts_at (a : Act) : ∀ (D : List Nat) (b : Act), (∀ i, (D.foldl (fun c k => c.put (some k) (a.eval (.tmp k))) b).tmps[i]? = if i ∈ D ∧ i < b.tmps.size then some (a.eval (.tmp i)) else b.tmps[i]?) ∧ (D.foldl (fun c k => c.put (some k) (a.eval (.tmp k))) b).defers = b.defers ∧ (D.foldl (fun c k => c.put (some k) (a.eval (.tmp k))) b).tmps.size = b.tmps.size
  | [], b => ⟨fun i => by simp, rfl, rfl⟩
  | d :: D, b => by
    obtain ⟨h1, h2, h3⟩ := puts_at a D (b.put (some d) (a.eval (.tmp d)))
    have sz : (b.put (some d) (a.eval (.tmp d))).tmps.size = b.tmps.size := by simp [Act.put]
    refine ⟨fun i => ?_, h2, h3.trans sz⟩
    rw [List.foldl_cons, h1 i, sz]
    by_cases q : i ∈ D ∧ i < b.tmps.size
    · rw [if_pos q, if_pos ⟨List.mem_cons_of_mem _ q.1, q.2⟩]
    · rw [if_neg q]
      by_cases e : i = d
      · subst e
        by_cases z : i < b.tmps.size
        · rw [if_pos ⟨List.mem_cons_self, z⟩]; simp [Act.put, z]
        · rw [if_neg (fun y => z y.2)]; simp [Act.put, z]
      · have ne : ¬ d = i := fun y => e y.symm
        have : (b.put (some d) (a.eval (.tmp d))).tmps[i]? = b.tmps[i]? := by simp [Act.put, Array.getElem?_setIfInBounds, ne]
        rw [this, if_neg (fun y => q ⟨by rcases List.mem_cons.1 y.1 with z | z; exact absurd z e; exact z, y.2⟩)]
theorem sb_puts {a0 a : Act} {D : List Nat} (h : SB a0 a D) : a = D.foldl (fun c k => c.put (some k) (a.eval (.tmp k))) a0 := by
  obtain ⟨h1, h2, h3⟩ := puts_at a D a0
  have et : a.tmps = (D.foldl (fun c k => c.put (some k) (a.eval (.tmp k))) a0).tmps := by
    apply Array.ext_getElem?
    intro i
    rw [h1 i]
    by_cases q : i ∈ D ∧ i < a0.tmps.size
    · rw [if_pos q]
      have : i < a.tmps.size := by rw [h.sz]; exact q.2
      show _ = some (a.tmps.getD i undef)
      simp [Array.getD_eq_getD_getElem?, this]
    · rw [if_neg q]
      by_cases e : i ∈ D
      · have z : ¬ i < a0.tmps.size := fun y => q ⟨e, y⟩
        rw [Array.getElem?_eq_none (by rw [h.sz]; omega), Array.getElem?_eq_none (by omega)]
      · exact h.tm i e
  have ed : a.defers = (D.foldl (fun c k => c.put (some k) (a.eval (.tmp k))) a0).defers := h.df.trans h2.symm
  generalize D.foldl (fun c k => c.put (some k) (a.eval (.tmp k))) a0 = b at *
  obtain ⟨t, d⟩ := a
  obtain ⟨t', d'⟩ := b
  simp only at et ed
  subst et ed
  rfl
theorem un19 {w : World} {p : Pg} {v : Value} {vs : List Value} {L : List (List ByteArray)} {n0 n1 n2 n3 : Int} {a0 : Act} {D : List Nat} {l : Array Bool} {a : Act} {W : World} (h : I4 w p v vs L n0 n1 n2 n3 a0 D l a W) {i : Nat} (hi : i < 18) (hu : l.getD i true = false) : l.getD 19 false = false := by
  refine Decidable.byContradiction fun q => ?_
  have := h.cl 19 (by omega) (by simpa using q) 18 (by simp [deps4])
  rw [h.un hi hu] at this
  cases this
theorem pcell13 {W : World} {b : Nat} {p : Pg} (h : BkP W b p.arr 26) : W.cell? ⟨b, 3, none⟩ = some (.int .i64 p.hor) ∧ W.cell? ⟨b, 4, none⟩ = some (.int .i64 p.cells) ∧ W.cell? ⟨b, 5, none⟩ = some (.int .i64 p.slots) ∧ W.cell? ⟨b, 6, none⟩ = some (.int .i64 p.stack) := ⟨h.cell 3, h.cell 4, h.cell 5, h.cell 6⟩
theorem rep_getD (n j : Nat) : (Array.replicate n false).getD j false = false := by
  rw [Array.getD_eq_getD_getElem?, Array.getElem?_replicate]
  split <;> rfl
end Go.Proofs.YtlcidigcecmnpaaGreatDoor

namespace Go.Proofs.YtlcidigcecmnpaaGreatDoor
open Go.RowKit
set_option linter.unusedVariables false
set_option linter.unusedSimpArgs false
set_option maxHeartbeats 8000000 in
set_option maxRecDepth 100000 in
theorem lines_any {w : World} {p : Pg} (h : PV w p) (hS : SmP p) (hF : ∀ s ∈ p.days, ∀ i ∈ s.code, fstB p.names p.curs p.pool i = true) (hM : RMd w) :
    Calls Tryz.prog 12 #[p.agg] w fun e w' => ∃ v vs, e = .returned v ∧ LW w' (w.heap.size + 1) v vs (linesP p) ∧ Below w.heap.size w w' := by
  obtain ⟨iS, hiS, hziS0, hziS1, hziS2⟩ := info_parts infoPS
  have KI := Lib.hid (fun W (b : Below w.heap.size w W) (i : In) => ins_any (h.later b) i (hM.later b))
  have S0 := ls_start w p
  have HP := Lib.hid h
  have HS := Lib.hid hS
  have HM := Lib.hid hM
  have HF := Lib.hid hF
  clear h hS hM hF
  obtain ⟨na, nc, names, ua, uc, curs, pa, pc, pool, hor, cells, slots, stack, da, dc, days⟩ := p
  obtain ⟨c0, c1, c2, c3, c4, c5, c6, c7⟩ := pcells13 S0.bx
  have SS := Lib.hid S0
  clear S0
  unfold Pg.arr at *
  unfold Pg.agg at *
  simp only at *
  generalize hwc : w.alloc _ = wc at *
  go_enter Tryz.func12, Tryz.ntmps12
  go_upto_if 13 with fail
  go_cut [3] (fun l wx => ∃ v vs, v = l ∧ LS w wx ⟨na, nc, names, ua, uc, curs, pa, pc, pool, hor, cells, slots, stack, da, dc, days⟩ v vs ([] ++ ls1 0 names))
  case first =>
    by_cases h0 : names = []
    · have e0 : names.length = 0 := by rw [h0]; rfl
      have el : [] ++ ls1 0 names = ([] : List (List ByteArray)) := by rw [show ls1 0 names = [] from if_pos h0]; simp
      have EL := Lib.hid el
      clear el h0
      go_wp2
      go_meet
      case rel => exact ⟨_, _, rfl, by rw [EL.out]; exact SS.out⟩
    · have n0 : 0 < names.length := by cases hq : names with | nil => exact absurd hq h0 | cons _ _ => simp
      have n1 : (0 : Int) < (names.length : Int) := by omega
      have el : [] ++ ls1 0 names = ([] : List (List ByteArray)) ++ [lnA 0 :: names] := by rw [show ls1 0 names = [lnA 0 :: names] from if_neg h0]
      have HL := Lib.hid (p := (([] : List (List ByteArray))).length ≤ 10) (by first | (simp; done) | (unfold ls1; (repeat' split) <;> simp))
      have EL := Lib.hid el
      have HN := Lib.hid HP.out.names
      simp only at HN
      have NW := Lib.hid (fun W (b : Below w.heap.size w W) => sr_newsH (HN.out.later b))
      have ST := Lib.hid (p := ∀ u ∈ strsP names, u.oneCell' = true) (by intro u hu; obtain ⟨z, _, rfl⟩ := List.mem_map.1 hu; rfl)
      have SL := Lib.hid (p := (strsP names).length = names.length * 1) (by simp [strsP])
      have NL := Lib.hid (p := 1 + names.length ≤ maxLen ∧ (1 + names.length) * 16 ≤ 140737488355328) (by have := HN.out.2.2.1; unfold maxLen; omega)
      have nmE := Lib.hid (p := lnA 0 = ⟨#[110, 97, 109, 101, 115]⟩) rfl
      obtain ⟨z0, z1, z2, z3, z4, z5, z6, z7⟩ := pcells13 (SS.out.later (allocBP wc (.cells #[.string ⟨#[110, 97, 109, 101, 115]⟩] 9))).bx
      simp only at z0 z1 z2 z3 z4 z5 z6 z7
      clear el h0
      go_wp2_with (first
        | (at_builtin; have qq := NW; refine wp_appH rfl _ _ 22 rfl wc.heap.size 9 iS _ 1 16 Tryz.underlying22 hiS hziS0 hziS1 hziS2 rfl (by decide) (.slice (some ⟨wc.heap.size, 0, none⟩) 1 1) 1 [.string ⟨#[110, 97, 109, 101, 115]⟩] rfl (lit1Q wc ⟨#[110, 97, 109, 101, 115]⟩) (by simp) na names.length nc (strsP names) HN.out.1 rfl SL.out (NW.out _ (SS.out.later (allocBP _ _)).bel) ST.out NL.out.1 NL.out.2 (by simp) ?_; intro v2 w2 k1 k2 k3; obtain ⟨g2, c2, rfl, _, _, _⟩ := row_someP k1 k3; have V2 := Lib.hid (lnv_own (ws := ⟨#[110, 97, 109, 101, 115]⟩ :: names) k1 (by simp; omega) k3); have B2 := Lib.hid (show Below wc.heap.size wc w2 from (allocBP wc _).grown k2 (by simp) (fun k e => Nat.le_of_eq (Option.some.inj e))); have S2 := Lib.hid (SS.out.later B2.out); clear k1 k2 k3 NW)
        | (at_builtin; have qq := V2; refine wp_line S2.out V2.out (by have := HL.out; omega) rfl _ _ rfl rfl rfl ?_; intro v3 w3 k1; have S3 := Lib.hid k1; clear k1 V2))
      go_meet
      case rel => exact ⟨_, _, rfl, by rw [EL.out]; exact S3.out⟩
  case rest =>
    clear SS c0 c1 c2 c3 c4 c5 c6 c7 hwc
    obtain ⟨v, vs, rfl, hS⟩ := hcut
    have SS := Lib.hid hS
    obtain ⟨c0, c1, c2, c3, c4, c5, c6, c7⟩ := pcells13 hS.bx
    simp only at c0 c1 c2 c3 c4 c5 c6 c7
    clear hS
    go_upto_if 24 with fail
    go_cut [3] (fun l wx => ∃ v vs, v = l ∧ LS w wx ⟨na, nc, names, ua, uc, curs, pa, pc, pool, hor, cells, slots, stack, da, dc, days⟩ v vs ([] ++ ls1 0 names ++ ls1 1 curs))
    case first =>
      by_cases h0 : curs = []
      · have e0 : curs.length = 0 := by rw [h0]; rfl
        have el : [] ++ ls1 0 names ++ ls1 1 curs = [] ++ ls1 0 names := by rw [show ls1 1 curs = [] from if_pos h0]; simp
        have EL := Lib.hid el
        clear el h0
        go_wp2
        go_meet
        case rel => exact ⟨_, _, rfl, by rw [EL.out]; exact SS.out⟩
      · have n0 : 0 < curs.length := by cases hq : curs with | nil => exact absurd hq h0 | cons _ _ => simp
        have n1 : (0 : Int) < (curs.length : Int) := by omega
        have el : [] ++ ls1 0 names ++ ls1 1 curs = [] ++ ls1 0 names ++ [lnA 1 :: curs] := by rw [show ls1 1 curs = [lnA 1 :: curs] from if_neg h0]
        have HL := Lib.hid (p := ([] ++ ls1 0 names).length ≤ 10) (by first | (simp; done) | (unfold ls1; (repeat' split) <;> simp))
        have EL := Lib.hid el
        have HN := Lib.hid HP.out.curs
        simp only at HN
        have NW := Lib.hid (fun W (b : Below w.heap.size w W) => sr_newsH (HN.out.later b))
        have ST := Lib.hid (p := ∀ u ∈ strsP curs, u.oneCell' = true) (by intro u hu; obtain ⟨z, _, rfl⟩ := List.mem_map.1 hu; rfl)
        have SL := Lib.hid (p := (strsP curs).length = curs.length * 1) (by simp [strsP])
        have NL := Lib.hid (p := 1 + curs.length ≤ maxLen ∧ (1 + curs.length) * 16 ≤ 140737488355328) (by have := HN.out.2.2.1; unfold maxLen; omega)
        have nmE := Lib.hid (p := lnA 1 = ⟨#[99, 117, 114, 115]⟩) rfl
        obtain ⟨z0, z1, z2, z3, z4, z5, z6, z7⟩ := pcells13 (SS.out.later (allocBP wc (.cells #[.string ⟨#[99, 117, 114, 115]⟩] 9))).bx
        simp only at z0 z1 z2 z3 z4 z5 z6 z7
        clear el h0
        go_wp2_with (first
          | (at_builtin; have qq := NW; refine wp_appH rfl _ _ 22 rfl wc.heap.size 9 iS _ 1 16 Tryz.underlying22 hiS hziS0 hziS1 hziS2 rfl (by decide) (.slice (some ⟨wc.heap.size, 0, none⟩) 1 1) 1 [.string ⟨#[99, 117, 114, 115]⟩] rfl (lit1Q wc ⟨#[99, 117, 114, 115]⟩) (by simp) ua curs.length uc (strsP curs) HN.out.1 rfl SL.out (NW.out _ (SS.out.later (allocBP _ _)).bel) ST.out NL.out.1 NL.out.2 (by simp) ?_; intro v2 w2 k1 k2 k3; obtain ⟨g2, c2, rfl, _, _, _⟩ := row_someP k1 k3; have V2 := Lib.hid (lnv_own (ws := ⟨#[99, 117, 114, 115]⟩ :: curs) k1 (by simp; omega) k3); have B2 := Lib.hid (show Below wc.heap.size wc w2 from (allocBP wc _).grown k2 (by simp) (fun k e => Nat.le_of_eq (Option.some.inj e))); have S2 := Lib.hid (SS.out.later B2.out); clear k1 k2 k3 NW)
          | (at_builtin; have qq := V2; refine wp_line S2.out V2.out (by have := HL.out; omega) rfl _ _ rfl rfl rfl ?_; intro v3 w3 k1; have S3 := Lib.hid k1; clear k1 V2))
        go_meet
        case rel => exact ⟨_, _, rfl, by rw [EL.out]; exact S3.out⟩
    case rest =>
      clear SS c0 c1 c2 c3 c4 c5 c6 c7
      obtain ⟨v, vs, rfl, hS⟩ := hcut
      have SS := Lib.hid hS
      obtain ⟨c0, c1, c2, c3, c4, c5, c6, c7⟩ := pcells13 hS.bx
      simp only at c0 c1 c2 c3 c4 c5 c6 c7
      clear hS
      go_upto_if 35 with fail
      go_cut [3] (fun l wx => ∃ v vs, v = l ∧ LS w wx ⟨na, nc, names, ua, uc, curs, pa, pc, pool, hor, cells, slots, stack, da, dc, days⟩ v vs ([] ++ ls1 0 names ++ ls1 1 curs ++ ls1 2 (pool.map txA)))
      case first =>
        by_cases h0 : pool = []
        · have e0 : pool.length = 0 := by rw [h0]; rfl
          have el : [] ++ ls1 0 names ++ ls1 1 curs ++ ls1 2 (pool.map txA) = [] ++ ls1 0 names ++ ls1 1 curs := by rw [show ls1 2 (pool.map txA) = [] from if_pos (by rw [h0]; rfl)]; simp
          have EL := Lib.hid el
          clear el h0
          go_wp2
          go_meet
          case rel => exact ⟨_, _, rfl, by rw [EL.out]; exact SS.out⟩
        · have n0 : 0 < pool.length := by cases hq : pool with | nil => exact absurd hq h0 | cons _ _ => simp
          have n1 : (0 : Int) < (pool.length : Int) := by omega
          have el : [] ++ ls1 0 names ++ ls1 1 curs ++ ls1 2 (pool.map txA) = [] ++ ls1 0 names ++ ls1 1 curs ++ [lnA 2 :: pool.map txA] := by rw [show ls1 2 (pool.map txA) = [lnA 2 :: pool.map txA] from if_neg (by simpa using h0)]
          have HL := Lib.hid (p := ([] ++ ls1 0 names ++ ls1 1 curs).length ≤ 10) (by unfold ls1; (repeat' split) <;> simp)
          have EL := Lib.hid el
          have HN := Lib.hid HP.out.pool
          have np := HS.out.pl
          simp only at HN np
          have KD := Lib.hid (fun W (z : Int) (hz : z ∈ pool) => digits13_any z (HN.out.2.2.2.1 z hz) W)
          have L0 := Lib.hid (lit1Q wc ⟨#[112, 111, 111, 108]⟩)
          have B0 := Lib.hid (allocBP wc (.cells #[.string ⟨#[112, 111, 111, 108]⟩] 9))
          clear el h0
          simp only [decide_eq_true n0]
          go_wp2
          go_loopw [4, 5] (fun t u wr => ∃ (k : Nat) (y : Value), k ≤ pool.length ∧ y = t ∧ u = .int .i64 (k : Int) ∧ wr.ownsRow wc.heap.size 9 1 y (1 + k) (strsP (⟨#[112, 111, 111, 108]⟩ :: (pool.take k).map txA)) ∧ Below wc.heap.size wc wr) (fun t u _ => pool.length - (intOf u).toNat)
          case atStart => exact ⟨0, _, by omega, rfl, rfl, L0.out, B0.out⟩
          case round =>
            clear L0 B0
            rename World => wr
            obtain ⟨k, y, hk, rfl, rfl, hO, hB⟩ := hrel
            have O := Lib.hid hO
            have BB := Lib.hid hB
            have S1 := Lib.hid (SS.out.later hB)
            obtain ⟨z0, z1, z2, z3, z4, z5, z6, z7⟩ := pcells13 S1.out.bx
            simp only at z0 z1 z2 z3 z4 z5 z6 z7
            clear hO hB
            by_cases hlt : k < pool.length
            · have kc : (k : Int) < (pool.length : Int) := by omega
              obtain ⟨x, o, rfl, hx⟩ : ∃ x o, pa = some ⟨x, o, none⟩ ∧ ∀ W, Below w.heap.size w W → W.cell? ⟨x, o + k, none⟩ = some (.int .i64 (pool.getD k 0)) := by
                rcases HN.out.2.2.2.2 with q | ⟨b, o, e, h1, h2⟩
                · omega
                · refine ⟨b, o, e, fun W bb => ?_⟩
                  have := h2 k hlt 0 (by omega)
                  simp only [Nat.mul_one, Nat.add_zero, List.getD_cons_zero] at this
                  exact (bb.cell (p := ⟨b, o + k, none⟩) h1).trans this
              have y0 := hx _ S1.out.bel
              have KD1 := Lib.hid (fun W => KD.out W (pool.getD k 0) (by simp [List.getD, hlt]))
              have ST := Lib.hid (p := strsP (⟨#[112, 111, 111, 108]⟩ :: (pool.take (k + 1)).map txA) = strsP (⟨#[112, 111, 111, 108]⟩ :: (pool.take k).map txA) ++ [.string (txA (pool.getD k 0))]) (by
                rw [List.take_succ_eq_append_getElem hlt, List.map_append]
                simp [List.getD, hlt, strsP])
              generalize pool.getD k 0 = z at *
              generalize txA z = tz at *
              generalize hp : strsP (⟨#[112, 111, 111, 108]⟩ :: (pool.take k).map txA) = pre at *
              have NB := Lib.hid (p := 1 + k + 1 ≤ maxLen ∧ (1 + k + 1) * 16 ≤ 140737488355328) (by unfold maxLen; omega)
              clear hp hx
              go_wp2_with (first
                | (go_at_call 29; refine (KD1.out _).mono ?_; rintro e w1 ⟨rfl, b1⟩; have B1 := Lib.hid (BB.out.trans (b1.mono BB.out.size)); have O2 := Lib.hid (row_farP O.out (gr_below b1 none) (fun k q e => by cases e)); clear b1)
                | (at_builtin; refine wpList_append_own_at _ rfl _ _ 22 rfl wc.heap.size 9 iS _ 1 16 Tryz.underlying22 hiS hziS0 hziS1 hziS2 rfl (by decide) y (1 + k) pre rfl (O2.out.alloc _) ⟨w1.heap.size, 0, none⟩ 1 1 [.string tz] rfl rfl (cell_one_new w1 _ _) (by intro u hu; simp at hu; subst hu; rfl) NB.out.1 NB.out.2 (Nat.le_trans B1.out.size (by simp)) ?_; intro v2 w2 k1 k2 k3 k4; have O3 := Lib.hid k1; have B2 := Lib.hid ((B1.out.alloc B1.out.size _).grown k2 (Nat.le_trans B1.out.size (by simp)) (fun k e => (O2.out.lt k e).1)); clear k1 k2 k3 k4))
              go_roundw
              case rel => exact ⟨k + 1, _, by omega, rfl, by go_num, by rw [ST.out]; exact O3.out, B2.out⟩
              case measure => simp [intOf]; omega
            · obtain rfl : k = pool.length := by omega
              have O1 := O.out
              rw [List.take_length] at O1
              obtain ⟨g2, c2', rfl, _, _, _⟩ := row_someP O1 (fun q => by
                subst q
                rcases O1.2 with ⟨_, q⟩ | ⟨g, cap, cur, q, _⟩
                · omega
                · cases q)
              have V2 := Lib.hid (lnv_own (ws := ⟨#[112, 111, 111, 108]⟩ :: pool.map txA) O1 (by simp; omega) (by simp))
              clear O1 O
              go_wp2_with (at_builtin; refine wp_line S1.out V2.out (by have := HL.out; omega) rfl _ _ rfl rfl rfl ?_; intro v3 w3 k1; have S3 := Lib.hid k1; clear k1)
              go_meet
              case rel => exact ⟨_, _, rfl, by rw [EL.out]; exact S3.out⟩
      case rest =>
        clear SS c0 c1 c2 c3 c4 c5 c6 c7
        obtain ⟨v, vs, rfl, hS⟩ := hcut
        have SS := Lib.hid hS
        obtain ⟨c0, c1, c2, c3, c4, c5, c6, c7⟩ := pcells13 hS.bx
        simp only at c0 c1 c2 c3 c4 c5 c6 c7
        clear hS
        have KD := Lib.hid (p := ∀ W (z : Int), (z = hor ∨ z = cells ∨ z = slots ∨ z = stack) → Calls Tryz.prog 29 #[.int .i64 z] W fun e w' => e = .returned (.string (txA z)) ∧ Below W.heap.size W w') (fun W z hz => digits13_any z (by
          have h1 := HP.out.hor
          have h2 := HP.out.cells
          have h3 := HP.out.slots
          have h4 := HP.out.stack
          simp only at h1 h2 h3 h4
          rcases hz with rfl | rfl | rfl | rfl <;> assumption) W)
        obtain ⟨iL, hiL, hziL0, hziL1, hziL2⟩ := info_parts infoSS
        go_upto_region 13 with fail
        go_cut [3] (fun l wx => ∃ v vs, v = l ∧ LS w wx ⟨na, nc, names, ua, uc, curs, pa, pc, pool, hor, cells, slots, stack, da, dc, days⟩ v vs ([] ++ ls1 0 names ++ ls1 1 curs ++ ls1 2 (pool.map txA) ++ ls4 hor cells slots stack))
        case first =>
          have HL := Lib.hid (p := ([] ++ ls1 0 names ++ ls1 1 curs ++ ls1 2 (pool.map txA)).length ≤ 10) (by unfold ls1; (repeat' split) <;> simp)
          refine wp_region_any (by kernel_rfl) ?_
          refine wpAny_inv0 (fun a0 => I4 w ⟨na, nc, names, ua, uc, curs, pa, pc, pool, hor, cells, slots, stack, da, dc, days⟩ v vs ([] ++ ls1 0 names ++ ls1 1 curs ++ ls1 2 (pool.map txA)) hor cells slots stack a0 [57, 58, 59, 60, 61, 62, 63, 64, 65, 66, 67, 68, 69, 70, 71, 72, 73, 74, 75, 3]) ?_ (fun l a' W' h => h.sz) (dep_of (by kernel_rfl)) ?_ ?_
          · refine ⟨rfl, SB.refl _ _, fun _ => rfl, fun j hj q => ?_, fun _ => ⟨SS.out.later (drew1B wc), fun j hj q => ?_⟩, fun q => ?_⟩
            · rw [rep_getD] at q; cases q
            · rw [rep_getD] at q; cases q
            · rw [rep_getD] at q; cases q
          · intro l a1 W1 i o hI ho hu hdp
            have hi : i < 20 := (Array.getElem?_eq_some_iff.1 ho).1
            have tz : 76 ≤ a1.tmps.size := by rw [hI.fr.sz]; exact Nat.le_of_ble_eq_true rfl
            rcases (show i = 0 ∨ i = 1 ∨ i = 2 ∨ i = 3 ∨ i = 4 ∨ i = 5 ∨ i = 6 ∨ i = 7 ∨ i = 8 ∨ i = 9 ∨ i = 10 ∨ i = 11 ∨ i = 12 ∨ i = 13 ∨ i = 14 ∨ i = 15 ∨ i = 16 ∨ i = 17 ∨ i = 18 ∨ i = 19 by omega) with rfl | rfl | rfl | rfl | rfl | rfl | rfl | rfl | rfl | rfl | rfl | rfl | rfl | rfl | rfl | rfl | rfl | rfl | rfl | rfl
            all_goals obtain rfl := Option.some.inj ho
            · have h18 := hI.un (i := 0) (by omega) hu
              obtain ⟨hL, hP⟩ := hI.pre h18
              have dp : ∀ d ∈ deps4 0, l.getD d false = true := by intro d hd; simp [deps4] at hd
              refine wpOp_step ho ?_
              intro K' hK
              exact st_move rfl 3 v (.inl rfl) (hI.s3 (un19 hI (by omega) hu)) (hK _ _ (hI.put 0 (by omega) hu (by decide) (by show 57 < _; omega) dp (Below.refl _ _) _ rfl))
            · have h18 := hI.un (i := 1) (by omega) hu
              obtain ⟨hL, hP⟩ := hI.pre h18
              have dp : ∀ d ∈ deps4 1, l.getD d false = true := by intro d hd; simp [deps4] at hd
              refine wpOp_step ho ?_
              intro K' hK
              exact st_field rfl (.tmp 1) 3 w.heap.size rfl ((hI.fr.eval 1 (by decide)).trans rfl) (by omega) (hK _ _ (hI.put 1 (by omega) hu (by decide) (by show 58 < _; omega) dp (Below.refl _ _) _ rfl))
            · have h18 := hI.un (i := 2) (by omega) hu
              obtain ⟨hL, hP⟩ := hI.pre h18
              have d1 := hdp ⟨1, .data⟩ (by simp) rfl
              have dp : ∀ d ∈ deps4 2, l.getD d false = true := by intro d hd; simp [deps4] at hd; subst hd; exact d1
              refine wpOp_step ho ?_
              intro K' hK
              exact st_load rfl (.tmp 58) ⟨w.heap.size, 3, none⟩ hor rfl (hP 1 (by omega) d1) (pcell13 hL.bx).1 (hK _ _ (hI.put 2 (by omega) hu (by decide) (by show 59 < _; omega) dp (Below.refl _ _) _ rfl))
            · have h18 := hI.un (i := 3) (by omega) hu
              obtain ⟨hL, hP⟩ := hI.pre h18
              have d2 := hdp ⟨2, .data⟩ (by simp) rfl
              have dp : ∀ d ∈ deps4 3, l.getD d false = true := by intro d hd; simp [deps4] at hd; subst hd; exact d2
              refine wpOp_step ho ?_
              intro K' hK
              refine st_call rfl 59 hor (txA hor) rfl (hP 2 (by omega) d2) (KD.out _ _ (by simp)) ?_
              intro W2 b2
              exact hK _ _ (hI.put 3 (by omega) hu (by decide) (by show 60 < _; omega) dp b2 _ rfl)
            · have h18 := hI.un (i := 4) (by omega) hu
              obtain ⟨hL, hP⟩ := hI.pre h18
              have d3 := hdp ⟨3, .data⟩ (by simp) rfl
              have dp : ∀ d ∈ deps4 4, l.getD d false = true := by intro d hd; simp [deps4] at hd; subst hd; exact d3
              refine wpOp_step ho ?_
              intro K' hK
              exact st_two rfl ⟨#[104, 111, 114, 105, 122, 111, 110]⟩ 60 (txA hor) rfl (hP 3 (by omega) d3) (hK _ _ (hI.put 4 (by omega) hu (by decide) (by show 61 < _; omega) dp (allocBP _ _) _ (lnv_lit2 W1 _ _)))
            · have h18 := hI.un (i := 5) (by omega) hu
              obtain ⟨hL, hP⟩ := hI.pre h18
              have dp : ∀ d ∈ deps4 5, l.getD d false = true := by intro d hd; simp [deps4] at hd
              refine wpOp_step ho ?_
              intro K' hK
              exact st_field rfl (.tmp 1) 4 w.heap.size rfl ((hI.fr.eval 1 (by decide)).trans rfl) (by omega) (hK _ _ (hI.put 5 (by omega) hu (by decide) (by show 62 < _; omega) dp (Below.refl _ _) _ rfl))
            · have h18 := hI.un (i := 6) (by omega) hu
              obtain ⟨hL, hP⟩ := hI.pre h18
              have d5 := hdp ⟨5, .data⟩ (by simp) rfl
              have dp : ∀ d ∈ deps4 6, l.getD d false = true := by intro d hd; simp [deps4] at hd; subst hd; exact d5
              refine wpOp_step ho ?_
              intro K' hK
              exact st_load rfl (.tmp 62) ⟨w.heap.size, 4, none⟩ cells rfl (hP 5 (by omega) d5) (pcell13 hL.bx).2.1 (hK _ _ (hI.put 6 (by omega) hu (by decide) (by show 63 < _; omega) dp (Below.refl _ _) _ rfl))
            · have h18 := hI.un (i := 7) (by omega) hu
              obtain ⟨hL, hP⟩ := hI.pre h18
              have d6 := hdp ⟨6, .data⟩ (by simp) rfl
              have d3 := hdp ⟨3, .chain⟩ (by simp) rfl
              have dp : ∀ d ∈ deps4 7, l.getD d false = true := by intro d hd; simp [deps4] at hd; rcases hd with rfl | rfl <;> assumption
              refine wpOp_step ho ?_
              intro K' hK
              refine st_call rfl 63 cells (txA cells) rfl (hP 6 (by omega) d6) (KD.out _ _ (by simp)) ?_
              intro W2 b2
              exact hK _ _ (hI.put 7 (by omega) hu (by decide) (by show 64 < _; omega) dp b2 _ rfl)
            · have h18 := hI.un (i := 8) (by omega) hu
              obtain ⟨hL, hP⟩ := hI.pre h18
              have d7 := hdp ⟨7, .data⟩ (by simp) rfl
              have dp : ∀ d ∈ deps4 8, l.getD d false = true := by intro d hd; simp [deps4] at hd; subst hd; exact d7
              refine wpOp_step ho ?_
              intro K' hK
              exact st_two rfl ⟨#[99, 101, 108, 108, 115]⟩ 64 (txA cells) rfl (hP 7 (by omega) d7) (hK _ _ (hI.put 8 (by omega) hu (by decide) (by show 65 < _; omega) dp (allocBP _ _) _ (lnv_lit2 W1 _ _)))
            · have h18 := hI.un (i := 9) (by omega) hu
              obtain ⟨hL, hP⟩ := hI.pre h18
              have dp : ∀ d ∈ deps4 9, l.getD d false = true := by intro d hd; simp [deps4] at hd
              refine wpOp_step ho ?_
              intro K' hK
              exact st_field rfl (.tmp 1) 5 w.heap.size rfl ((hI.fr.eval 1 (by decide)).trans rfl) (by omega) (hK _ _ (hI.put 9 (by omega) hu (by decide) (by show 66 < _; omega) dp (Below.refl _ _) _ rfl))
            · have h18 := hI.un (i := 10) (by omega) hu
              obtain ⟨hL, hP⟩ := hI.pre h18
              have d9 := hdp ⟨9, .data⟩ (by simp) rfl
              have dp : ∀ d ∈ deps4 10, l.getD d false = true := by intro d hd; simp [deps4] at hd; subst hd; exact d9
              refine wpOp_step ho ?_
              intro K' hK
              exact st_load rfl (.tmp 66) ⟨w.heap.size, 5, none⟩ slots rfl (hP 9 (by omega) d9) (pcell13 hL.bx).2.2.1 (hK _ _ (hI.put 10 (by omega) hu (by decide) (by show 67 < _; omega) dp (Below.refl _ _) _ rfl))
            · have h18 := hI.un (i := 11) (by omega) hu
              obtain ⟨hL, hP⟩ := hI.pre h18
              have d10 := hdp ⟨10, .data⟩ (by simp) rfl
              have d7 := hdp ⟨7, .chain⟩ (by simp) rfl
              have dp : ∀ d ∈ deps4 11, l.getD d false = true := by intro d hd; simp [deps4] at hd; rcases hd with rfl | rfl <;> assumption
              refine wpOp_step ho ?_
              intro K' hK
              refine st_call rfl 67 slots (txA slots) rfl (hP 10 (by omega) d10) (KD.out _ _ (by simp)) ?_
              intro W2 b2
              exact hK _ _ (hI.put 11 (by omega) hu (by decide) (by show 68 < _; omega) dp b2 _ rfl)
            · have h18 := hI.un (i := 12) (by omega) hu
              obtain ⟨hL, hP⟩ := hI.pre h18
              have d11 := hdp ⟨11, .data⟩ (by simp) rfl
              have dp : ∀ d ∈ deps4 12, l.getD d false = true := by intro d hd; simp [deps4] at hd; subst hd; exact d11
              refine wpOp_step ho ?_
              intro K' hK
              exact st_two rfl ⟨#[115, 108, 111, 116, 115]⟩ 68 (txA slots) rfl (hP 11 (by omega) d11) (hK _ _ (hI.put 12 (by omega) hu (by decide) (by show 69 < _; omega) dp (allocBP _ _) _ (lnv_lit2 W1 _ _)))
            · have h18 := hI.un (i := 13) (by omega) hu
              obtain ⟨hL, hP⟩ := hI.pre h18
              have dp : ∀ d ∈ deps4 13, l.getD d false = true := by intro d hd; simp [deps4] at hd
              refine wpOp_step ho ?_
              intro K' hK
              exact st_field rfl (.tmp 1) 6 w.heap.size rfl ((hI.fr.eval 1 (by decide)).trans rfl) (by omega) (hK _ _ (hI.put 13 (by omega) hu (by decide) (by show 70 < _; omega) dp (Below.refl _ _) _ rfl))
            · have h18 := hI.un (i := 14) (by omega) hu
              obtain ⟨hL, hP⟩ := hI.pre h18
              have d13 := hdp ⟨13, .data⟩ (by simp) rfl
              have dp : ∀ d ∈ deps4 14, l.getD d false = true := by intro d hd; simp [deps4] at hd; subst hd; exact d13
              refine wpOp_step ho ?_
              intro K' hK
              exact st_load rfl (.tmp 70) ⟨w.heap.size, 6, none⟩ stack rfl (hP 13 (by omega) d13) (pcell13 hL.bx).2.2.2 (hK _ _ (hI.put 14 (by omega) hu (by decide) (by show 71 < _; omega) dp (Below.refl _ _) _ rfl))
            · have h18 := hI.un (i := 15) (by omega) hu
              obtain ⟨hL, hP⟩ := hI.pre h18
              have d14 := hdp ⟨14, .data⟩ (by simp) rfl
              have d11 := hdp ⟨11, .chain⟩ (by simp) rfl
              have dp : ∀ d ∈ deps4 15, l.getD d false = true := by intro d hd; simp [deps4] at hd; rcases hd with rfl | rfl <;> assumption
              refine wpOp_step ho ?_
              intro K' hK
              refine st_call rfl 71 stack (txA stack) rfl (hP 14 (by omega) d14) (KD.out _ _ (by simp)) ?_
              intro W2 b2
              exact hK _ _ (hI.put 15 (by omega) hu (by decide) (by show 72 < _; omega) dp b2 _ rfl)
            · have h18 := hI.un (i := 16) (by omega) hu
              obtain ⟨hL, hP⟩ := hI.pre h18
              have d15 := hdp ⟨15, .data⟩ (by simp) rfl
              have dp : ∀ d ∈ deps4 16, l.getD d false = true := by intro d hd; simp [deps4] at hd; subst hd; exact d15
              refine wpOp_step ho ?_
              intro K' hK
              exact st_two rfl ⟨#[115, 116, 97, 99, 107]⟩ 72 (txA stack) rfl (hP 15 (by omega) d15) (hK _ _ (hI.put 16 (by omega) hu (by decide) (by show 73 < _; omega) dp (allocBP _ _) _ (lnv_lit2 W1 _ _)))
            · have h18 := hI.un (i := 17) (by omega) hu
              obtain ⟨hL, hP⟩ := hI.pre h18
              have d4 := hdp ⟨4, .data⟩ (by simp) rfl
              have d8 := hdp ⟨8, .data⟩ (by simp) rfl
              have d12 := hdp ⟨12, .data⟩ (by simp) rfl
              have d16 := hdp ⟨16, .data⟩ (by simp) rfl
              have dp : ∀ d ∈ deps4 17, l.getD d false = true := by intro d hd; simp [deps4] at hd; rcases hd with rfl | rfl | rfl | rfl <;> assumption
              refine wpOp_step ho ?_
              intro K' hK
              have p4 := hP 4 (by omega) d4
              have p8 := hP 8 (by omega) d8
              have p12 := hP 12 (by omega) d12
              have p16 := hP 16 (by omega) d16
              obtain ⟨g1, c1', _, _, e1, _⟩ := p4
              obtain ⟨g2, c2', _, _, e2, _⟩ := p8
              obtain ⟨g3, c3', _, _, e3, _⟩ := p12
              obtain ⟨g4, c4', _, _, e4, _⟩ := p16
              have p4 := hP 4 (by omega) d4
              have p8 := hP 8 (by omega) d8
              have p12 := hP 12 (by omega) d12
              have p16 := hP 16 (by omega) d16
              rw [e1] at p4
              rw [e2] at p8
              rw [e3] at p12
              rw [e4] at p16
              refine st_four rfl 61 65 69 73 _ _ _ _ _ _ _ _ _ _ _ _ rfl e1 e2 e3 e4 ?_
              exact hK _ _ (hI.put 17 (by omega) hu (by decide) (by show 74 < _; omega) dp (allocBP _ _) _ ⟨W1.heap.size, _, _, _, _, rfl, by simp, fun j u hj => by have := cell_four_new W1 _ _ _ _ 22 j u hj; rw [Go.Addr.add_lit, Nat.zero_add] at this; exact this, LnV.later p4 (allocBP _ _), LnV.later p8 (allocBP _ _), LnV.later p12 (allocBP _ _), LnV.later p16 (allocBP _ _)⟩)
            · have h18 := un_false hu (by rw [hI.sz]; omega)
              obtain ⟨hL, hP⟩ := hI.pre h18
              have d0 := hdp ⟨0, .data⟩ (by simp) rfl
              have d17 := hdp ⟨17, .data⟩ (by simp) rfl
              have dp : ∀ d ∈ deps4 18, l.getD d false = true := by intro d hd; simp [deps4] at hd; rcases hd with rfl | rfl <;> assumption
              obtain ⟨g, x1, x2, x3, x4, e, hg, hc, q1, q2, q3, q4⟩ := hP 17 (by omega) d17
              refine wpOp_step ho ?_
              intro K' hK
              refine step_appG4 _ rfl _ _ 41 rfl (w.heap.size + 1) 22 iL _ 1 24 Tryz.underlying41 hiL hziL0 hziL1 hziL2 rfl (by decide) v _ vs (hP 0 (by omega) d0) hL.lw.own ⟨g, 0, none⟩ 4 4 [x1, x2, x3, x4] e rfl (fun j u hj => by rw [Go.Addr.add_lit, Nat.zero_add]; exact hc j u hj) (by intro u hu; simp at hu; rcases hu with rfl | rfl | rfl | rfl; exact q1.one; exact q2.one; exact q3.one; exact q4.one) (by have := HL.out; unfold maxLen; omega) (by have := HL.out; omega) hL.hB ?_
              intro v9 w9 k1 k2 _ _
              exact hK _ _ (hI.put18 hu (by decide) (by omega) dp v9 _ (hL.add4 k2 k1 q1 q2 q3 q4))
            · have d18 := hdp ⟨18, .data⟩ (by simp) rfl
              refine wpOp_step ho ?_
              intro K' hK
              exact st_move rfl 75 _ (.inr rfl) rfl (hK _ _ (hI.put19 hu (by decide) (by omega) d18 rfl))
          · intro l a1 W1 hI hall
            obtain ⟨v9, vs9, hL9, _, e3⟩ := hI.post (hall 18 (Nat.le_of_ble_eq_true rfl))
            have e3 := e3 (hall 19 (Nat.le_of_ble_eq_true rfl))
            have S9 := Lib.hid hL9
            have ea := sb_puts hI.fr
            simp only [List.foldl_cons, List.foldl_nil] at ea
            rw [e3] at ea
            rw [ea]
            generalize a1.eval (.tmp 57) = z57
            generalize a1.eval (.tmp 58) = z58
            generalize a1.eval (.tmp 59) = z59
            generalize a1.eval (.tmp 60) = z60
            generalize a1.eval (.tmp 61) = z61
            generalize a1.eval (.tmp 62) = z62
            generalize a1.eval (.tmp 63) = z63
            generalize a1.eval (.tmp 64) = z64
            generalize a1.eval (.tmp 65) = z65
            generalize a1.eval (.tmp 66) = z66
            generalize a1.eval (.tmp 67) = z67
            generalize a1.eval (.tmp 68) = z68
            generalize a1.eval (.tmp 69) = z69
            generalize a1.eval (.tmp 70) = z70
            generalize a1.eval (.tmp 71) = z71
            generalize a1.eval (.tmp 72) = z72
            generalize a1.eval (.tmp 73) = z73
            generalize a1.eval (.tmp 74) = z74
            generalize a1.eval (.tmp 75) = z75
            clear ea e3 hI hall
            go_simp
            go_wp2
            go_meet
            case rel => exact ⟨_, _, rfl, S9.out⟩
        case rest =>
          clear SS c0 c1 c2 c3 c4 c5 c6 c7 KD
          obtain ⟨v, vs, rfl, hS⟩ := hcut
          have e4 : [] ++ ls1 0 names ++ ls1 1 curs ++ ls1 2 (pool.map txA) ++ ls4 hor cells slots stack = hdLs ⟨na, nc, names, ua, uc, curs, pa, pc, pool, hor, cells, slots, stack, da, dc, days⟩ := rfl
          rw [e4] at hS
          have SH := Lib.hid hS
          have DL := HS.out.dl
          have TH := Lib.hid (p := (hdLs ⟨na, nc, names, ua, uc, curs, pa, pc, pool, hor, cells, slots, stack, da, dc, days⟩).length ≤ 20) (by unfold hdLs ls1 ls4; simp only; (repeat' split) <;> simp)
          have KD := Lib.hid (fun W (z : Int) (hz : i64 z) => digits13_any z hz W)
          have HD := Lib.hid HP.out.days
          simp only at HD DL
          have TT := Lib.hid (p := ∀ k, k ≤ days.length → ((days.take k).flatMap (dyLs ⟨na, nc, names, ua, uc, curs, pa, pc, pool, hor, cells, slots, stack, da, dc, days⟩)).length ≤ k * 262145) (fun k hk => by
            have := flat_leL (dyLs ⟨na, nc, names, ua, uc, curs, pa, pc, pool, hor, cells, slots, stack, da, dc, days⟩) 262145 (days.take k) (fun s hs => by
              have := HS.out.cl s (List.mem_of_mem_take hs)
              unfold dyLs
              simp only [List.length_cons, List.length_map]
              omega)
            rw [List.length_take, Nat.min_eq_left hk] at this
            exact this)
          have HO := Lib.hid (p := ∀ k m, k < days.length → m < (days.getD k default).code.length → In.okP ((days.getD k default).code.getD m default) ∧ fstB names curs pool ((days.getD k default).code.getD m default) = true) (fun k m hk hm => ⟨HS.out.ok _ (sg_mem hk) _ (in_memL hm), HF.out _ (sg_mem hk) _ (in_memL hm)⟩)
          clear hS e4
          go_wp2
          go_loopw [3, 6] (fun t u wr => ∃ (k : Nat) (v : Value) (vs : List Value), k ≤ days.length ∧ v = t ∧ u = .int .i64 (k : Int) ∧ LS w wr ⟨na, nc, names, ua, uc, curs, pa, pc, pool, hor, cells, slots, stack, da, dc, days⟩ v vs (hdLs ⟨na, nc, names, ua, uc, curs, pa, pc, pool, hor, cells, slots, stack, da, dc, days⟩ ++ (days.take k).flatMap (dyLs ⟨na, nc, names, ua, uc, curs, pa, pc, pool, hor, cells, slots, stack, da, dc, days⟩))) (fun t u _ => days.length - (intOf u).toNat)
          case atStart => exact ⟨0, _, _, by omega, rfl, rfl, by simpa using SH.out⟩
          case round =>
            clear SH
            rename World => wr
            obtain ⟨k, v, vs, hk, rfl, rfl, hr⟩ := hrel
            have SK := Lib.hid hr
            obtain ⟨c0, c1, c2, c3, c4, c5, c6, c7⟩ := pcells13 hr.bx
            simp only at c0 c1 c2 c3 c4 c5 c6 c7
            clear hr
            by_cases hlt : k < days.length
            · have kc : (k : Int) < (days.length : Int) := by omega
              obtain ⟨xb, xo, rfl, hx, hc⟩ : ∃ xb xo, da = some ⟨xb, xo, none⟩ ∧ xb < w.heap.size ∧ ∀ i, i < days.length → ∀ j, j < 2 → w.cell? ⟨xb, xo + i * 2 + j, none⟩ = some (((days.getD i default).cs).getD j default) := by
                rcases HD.out.2.2.2.2 with q | ⟨b, o, e, h1, h2⟩
                · omega
                · exact ⟨b, o, e, h1, h2⟩
              have X0 := Lib.hid (fun W (b : Below w.heap.size w W) => (b.cell (p := ⟨xb, xo + k * 2 + 0, none⟩) hx).trans (hc k hlt 0 (by omega)))
              have X1 := Lib.hid (fun W (b : Below w.heap.size w W) => (b.cell (p := ⟨xb, xo + k * 2 + 1, none⟩) hx).trans (hc k hlt 1 (by omega)))
              have SM := Lib.hid (sg_mem hlt)
              have SG := Lib.hid (HD.out.2.2.2.1 _ SM.out)
              have NX := Lib.hid (flat_nextL (dyLs ⟨na, nc, names, ua, uc, curs, pa, pc, pool, hor, cells, slots, stack, some ⟨xb, xo, none⟩, dc, days⟩) days k hlt)
              have LK := TT.out k (by omega)
              have LK1 : k * 262145 ≤ 1073745920 := by omega
              have cb := HS.out.cl _ SM.out
              obtain ⟨s, hs⟩ : ∃ s, days.getD k default = s := ⟨_, rfl⟩
              rw [hs] at X0 X1 SG NX cb
              have HSL := Lib.hid hs
              clear hs SM hc
              obtain ⟨sd, sa, sc, sl⟩ := s
              simp only [Sg.cs, Nat.add_zero, List.getD_cons_zero, List.getD_cons_succ] at X0 X1 SG NX cb
              have DY : dyLs ⟨na, nc, names, ua, uc, curs, pa, pc, pool, hor, cells, slots, stack, some ⟨xb, xo, none⟩, dc, days⟩ ⟨sd, sa, sc, sl⟩ = [lnA 7, txA sd] :: sl.map (inLs ⟨na, nc, names, ua, uc, curs, pa, pc, pool, hor, cells, slots, stack, some ⟨xb, xo, none⟩, dc, days⟩) := rfl
              rw [DY] at NX
              clear DY
              have x0 := X0.out _ SK.out.bel
              have KD1 := Lib.hid (fun W => KD.out W sd SG.out.1)
              generalize hLk : hdLs ⟨na, nc, names, ua, uc, curs, pa, pc, pool, hor, cells, slots, stack, some ⟨xb, xo, none⟩, dc, days⟩ ++ (days.take k).flatMap (dyLs ⟨na, nc, names, ua, uc, curs, pa, pc, pool, hor, cells, slots, stack, some ⟨xb, xo, none⟩, dc, days⟩) = LK0 at *
              have HLk := Lib.hid hLk
              have LB := Lib.hid (p := LK0.length ≤ 1100000000) (by rw [← hLk]; have := TH.out; simp only [List.length_append]; omega)
              clear hLk
              generalize txA sd = tsd at *
              go_wp2_with (first
                | (go_at_call 29; refine (KD1.out _).mono ?_; rintro e w1 ⟨rfl, b⟩; have S1 := Lib.hid ((SK.out.later b).later (allocBP w1 (.cells #[.string ⟨#[100, 97, 121]⟩, .string tsd] 9))); have V1 := Lib.hid (lnv_lit2 w1 ⟨#[100, 97, 121]⟩ tsd); obtain ⟨W1, hW1⟩ : ∃ W, w1.alloc (.cells #[.string ⟨#[100, 97, 121]⟩, .string tsd] 9) = W := ⟨_, rfl⟩; rw [hW1] at S1 V1; clear b)
                | (at_builtin; refine wp_line S1.out V1.out (by have := LB.out; omega) rfl _ _ rfl rfl rfl ?_; intro v3 w3 k1; have S3 := Lib.hid k1; clear k1))
              clear hW1 S1 V1 x0 c0 c1 c2 c3 c4 c5 c6 c7 KD1
              go_loopw [3, 7] (fun t u wq => ∃ (m : Nat) (v : Value) (vs : List Value), m ≤ sl.length ∧ v = t ∧ u = .int .i64 (m : Int) ∧ LS w wq ⟨na, nc, names, ua, uc, curs, pa, pc, pool, hor, cells, slots, stack, some ⟨xb, xo, none⟩, dc, days⟩ v vs (LK0 ++ [[⟨#[100, 97, 121]⟩, tsd]] ++ (sl.take m).map (inLs ⟨na, nc, names, ua, uc, curs, pa, pc, pool, hor, cells, slots, stack, some ⟨xb, xo, none⟩, dc, days⟩))) (fun t u _ => sl.length - (intOf u).toNat)
              case atStart => exact ⟨0, _, _, by omega, rfl, rfl, by simpa using S3.out⟩
              case round =>
                clear S3
                rename World => wq
                obtain ⟨m, v, vs, hm, rfl, rfl, hr⟩ := hrel
                have SQ := Lib.hid hr
                obtain ⟨c0, c1, c2, c3, c4, c5, c6, c7⟩ := pcells13 hr.bx
                simp only at c0 c1 c2 c3 c4 c5 c6 c7
                have x1 := X1.out _ hr.bel
                clear hr
                by_cases hmt : m < sl.length
                · have mc : (m : Int) < (sl.length : Int) := by omega
                  obtain ⟨yb, yo, rfl, hy, hc⟩ : ∃ yb yo, sa = some ⟨yb, yo, none⟩ ∧ yb < w.heap.size ∧ ∀ i, i < sl.length → ∀ j, j < 3 → w.cell? ⟨yb, yo + i * 3 + j, none⟩ = some ((icell (sl.getD i default)).getD j default) := by
                    have SR2 := SG.out.2
                    simp only at SR2
                    rcases SR2.2.2.2.2 with q | ⟨b, o, e, h1, h2⟩
                    · omega
                    · exact ⟨b, o, e, h1, h2⟩
                  have G0 := Lib.hid (fun W (q : Below w.heap.size w W) => (q.cell (p := ⟨yb, yo + m * 3 + 0, none⟩) hy).trans (hc m hmt 0 (by omega)))
                  have G1 := Lib.hid (fun W (q : Below w.heap.size w W) => (q.cell (p := ⟨yb, yo + m * 3 + 1, none⟩) hy).trans (hc m hmt 1 (by omega)))
                  have G2 := Lib.hid (fun W (q : Below w.heap.size w W) => (q.cell (p := ⟨yb, yo + m * 3 + 2, none⟩) hy).trans (hc m hmt 2 (by omega)))
                  have OI := Lib.hid (HO.out k m hlt (by rw [HSL.out]; exact hmt))
                  rw [HSL.out] at OI
                  simp only at OI
                  have KI1 := Lib.hid (fun W b => ins_ok (KI.out W b (sl.getD m default)) OI.out.1 OI.out.2)
                  have NY := Lib.hid (p := (sl.take (m + 1)).map (inLs ⟨na, nc, names, ua, uc, curs, pa, pc, pool, hor, cells, slots, stack, some ⟨xb, xo, none⟩, dc, days⟩) = (sl.take m).map (inLs ⟨na, nc, names, ua, uc, curs, pa, pc, pool, hor, cells, slots, stack, some ⟨xb, xo, none⟩, dc, days⟩) ++ [inLs ⟨na, nc, names, ua, uc, curs, pa, pc, pool, hor, cells, slots, stack, some ⟨xb, xo, none⟩, dc, days⟩ (sl.getD m default)]) (by
                    rw [List.take_succ_eq_append_getElem hmt, List.map_append]
                    simp [List.getD, hmt])
                  clear hc
                  obtain ⟨ii, hii⟩ : ∃ i, sl.getD m default = i := ⟨_, rfl⟩
                  rw [hii] at G0 G1 G2 KI1 NY OI
                  clear hii
                  obtain ⟨io, ia, ib⟩ := ii
                  simp only [icell, Nat.add_zero, List.getD_cons_zero, List.getD_cons_succ] at G0 G1 G2 KI1
                  have g0 := G0.out _ SQ.out.bel
                  have g1 := G1.out _ SQ.out.bel
                  have g2 := G2.out _ SQ.out.bel
                  have IL : inLs ⟨na, nc, names, ua, uc, curs, pa, pc, pool, hor, cells, slots, stack, some ⟨xb, xo, none⟩, dc, days⟩ ⟨io, ia, ib⟩ = ⟨#[]⟩ :: wdsA names curs pool ⟨io, ia, ib⟩ := rfl
                  rw [IL] at NY
                  have w3 := wds_l3 names curs pool ⟨io, ia, ib⟩
                  clear IL OI
                  generalize wdsA names curs pool ⟨io, ia, ib⟩ = wds at *
                  generalize hn : wds.length = n at *
                  have HN := Lib.hid hn
                  clear hn
                  go_wp2
                  go_region_held3 (fun w' => w'.cell? ⟨w.heap.size, 0, none⟩ = some (.slice na names.length nc) ∧ w'.cell? ⟨w.heap.size, 1, none⟩ = some (.slice ua curs.length uc) ∧ w'.cell? ⟨w.heap.size, 2, none⟩ = some (.slice pa pool.length pc) ∧ w'.cell? ⟨w.heap.size, 3, none⟩ = some (.int .i64 hor) ∧ w'.cell? ⟨w.heap.size, 4, none⟩ = some (.int .i64 cells) ∧ w'.cell? ⟨w.heap.size, 5, none⟩ = some (.int .i64 slots) ∧ w'.cell? ⟨w.heap.size, 6, none⟩ = some (.int .i64 stack) ∧ w'.cell? ⟨w.heap.size, 7, none⟩ = some (.slice (some ⟨xb, xo, none⟩) days.length dc) ∧ w'.cell? ⟨xb, xo + k * 2 + 1, none⟩ = some (.slice (some ⟨yb, yo, none⟩) sl.length sc) ∧ w'.cell? ⟨yb, yo + m * 3, none⟩ = some (.int .i64 io) ∧ w'.cell? ⟨yb, yo + m * 3 + 1, none⟩ = some (.int .i64 ia) ∧ w'.cell? ⟨yb, yo + m * 3 + 2, none⟩ = some (.int .i64 ib))
                    (refine ⟨?_, ?_, ?_, ?_, ?_, ?_, ?_, ?_, ?_, ?_, ?_, ?_⟩ <;> first | assumption | (go_simp; done))
                    (first
                    | (go_at_call 30; refine (KI1.out _ (by exact SQ.out.bel.trans ((Below.refl _ _).drew.mono SQ.out.bel.size))).mono ?_; rintro e w2 ⟨g, c, rfl, hV, b⟩; have B2 := Lib.hid (show Below wq.heap.size wq w2 from (Below.refl _ _).drew.trans b); have V2 := Lib.hid hV; have S2 := Lib.hid (SQ.out.later B2.out); clear c0 c1 c2 c3 c4 c5 c6 c7 g0 g1 g2 x1; obtain ⟨c0, c1, c2, c3, c4, c5, c6, c7⟩ := pcells13 S2.out.bx; simp only at c0 c1 c2 c3 c4 c5 c6 c7; have x1 := X1.out _ S2.out.bel; have g0 := G0.out _ S2.out.bel; have g1 := G1.out _ S2.out.bel; have g2 := G2.out _ S2.out.bel; clear hV b))
                  clear c0 c1 c2 c3 c4 c5 c6 c7 g0 g1 g2 x1
                  have NWW := Lib.hid (p := ∀ o, ∀ j u, (strsP wds)[j]? = some u → (w2.alloc o).cell? ((⟨g, 0, none⟩ : Addr).add j) = some u) (fun o => lnv_news (V2.out.later (allocBP w2 o)))
                  have ST := Lib.hid (p := ∀ u ∈ strsP wds, u.oneCell' = true) (by intro u hu; obtain ⟨z, _, rfl⟩ := List.mem_map.1 hu; rfl)
                  have SLn := Lib.hid (p := (strsP wds).length = n * 1) (by rw [← HN.out]; simp [strsP])
                  have LB2 := Lib.hid (p := (LK0 ++ [[⟨#[100, 97, 121]⟩, tsd]] ++ (sl.take m).map (inLs ⟨na, nc, names, ua, uc, curs, pa, pc, pool, hor, cells, slots, stack, some ⟨xb, xo, none⟩, dc, days⟩)).length ≤ 2000000000) (by have := LB.out; simp only [List.length_append, List.length_map, List.length_take, List.length_cons, List.length_nil]; omega)
                  have A0 : True := trivial
                  go_wp2_with (first
                    | (at_builtin; have qq := A0; refine wpList_append_own_at _ rfl _ _ 22 rfl w2.heap.size 9 iS _ 1 16 Tryz.underlying22 hiS hziS0 hziS1 hziS2 rfl (by decide) (.slice (some ⟨w2.heap.size, 0, none⟩) 1 1) 1 [.string ⟨#[]⟩] rfl (lit1Q w2 ⟨#[]⟩) ⟨g, 0, none⟩ n c (strsP wds) rfl SLn.out (NWW.out _) ST.out (by unfold maxLen; omega) (by omega) (by simp) ?_; intro v3 w4 k1 k2 k3 k4; have nn : v3 ≠ .slice none 0 0 := (fun q => by have := (k3.1 q).1; cases this); obtain ⟨g3, c3, rfl, _, _, _⟩ := row_someP k1 nn; have V3 := Lib.hid (lnv_own (ws := ⟨#[]⟩ :: wds) k1 (by have := HN.out; simp; omega) nn); have B3 := Lib.hid (show Below w2.heap.size w2 w4 from (allocBP w2 _).grown k2 (by simp) (fun k e => Nat.le_of_eq (Option.some.inj e))); have S3 := Lib.hid (S2.out.later B3.out); clear k1 k2 k3 k4 nn A0)
                    | (at_builtin; have qq := V3; refine wp_line S3.out V3.out LB2.out rfl _ _ rfl rfl rfl ?_; intro v5 w5 k1; have S5 := Lib.hid k1; clear k1 V3))
                  go_roundw
                  case rel =>
                    have S6 := S5.out
                    rw [List.append_assoc, ← NY.out] at S6
                    exact ⟨m + 1, _, _, by omega, rfl, by go_num, S6⟩
                  case measure => simp [intOf]; omega
                · obtain rfl : m = sl.length := by omega
                  have SE := SQ.out
                  rw [List.take_length] at SE
                  have SE := Lib.hid SE
                  go_wp2
                  go_roundw
                  case rel =>
                    have S6 := SE.out
                    have e : hdLs ⟨na, nc, names, ua, uc, curs, pa, pc, pool, hor, cells, slots, stack, some ⟨xb, xo, none⟩, dc, days⟩ ++ (days.take (k + 1)).flatMap (dyLs ⟨na, nc, names, ua, uc, curs, pa, pc, pool, hor, cells, slots, stack, some ⟨xb, xo, none⟩, dc, days⟩) = LK0 ++ [[⟨#[100, 97, 121]⟩, tsd]] ++ sl.map (inLs ⟨na, nc, names, ua, uc, curs, pa, pc, pool, hor, cells, slots, stack, some ⟨xb, xo, none⟩, dc, days⟩) := by
                      rw [NX.out, ← List.append_assoc, HLk.out, List.append_assoc]
                      rfl
                    rw [← e] at S6
                    exact ⟨k + 1, _, _, by omega, rfl, by go_num, S6⟩
                  case measure => simp [intOf]; omega
            · obtain rfl : k = days.length := by omega
              have SE := SK.out
              rw [List.take_length] at SE
              have SE := Lib.hid SE
              go_wp2
              go_ret
              exact ⟨_, _, rfl, SE.out.lw, SE.out.bel⟩
end Go.Proofs.YtlcidigcecmnpaaGreatDoor
