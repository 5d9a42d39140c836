/-
  COPIES OF PROGRAMS WITH MARKS: what stands while one is made.
-/
import Derived.Test.YtlcidigcecmnpaaGreatDoorWImg7
import Derived.Test.YtlcidigcecmnpaaGreatDoorWImg5
import Derived.Test.YtlcidigcecmnpaaGreatDoorWImg8
namespace Go.Proofs.YtlcidigcecmnpaaGreatDoor
open Go.RowKit
set_option linter.unusedVariables false
set_option linter.unusedSimpArgs false

def mkV : Value := .string ⟨#[109, 97, 114, 107]⟩
def m77 : Value := .int .i64 (-77)
def i77 : In := ⟨-77, 0, 0⟩
def s77 : Sg := ⟨-77, none, 0, []⟩
/-- What stands while a copy is made: the box of the program that turns into the copy, that of the answer, the rows of the copy. -/
structure CS (w W : World) (q : Array Value) (L : List RF) : Prop where
  bel : Below w.heap.size w W
  b0 : BkP W w.heap.size q 26
  b1 : BkP W (w.heap.size + 1) pz 26
  rows : ∀ r ∈ L, r.at W ∧ w.heap.size + 2 ≤ r.lo ∧ r.hi ≤ W.heap.size
  sz : w.heap.size + 2 ≤ W.heap.size
  qs : q.size = 8
theorem CS.grown {w W W' : World} {q : Array Value} {L : List RF} (h : CS w W q L) {x : Option Nat} (g : W.grownBy W' x) (hx : ∀ k, x = some k → W.heap.size ≤ k) : CS w W' q L :=
  ⟨h.bel.grown g h.bel.size (fun k e => Nat.le_trans h.bel.size (hx k e)), h.b0.grown g (fun e => by have := hx _ e.symm; have := h.b0.lt; omega), h.b1.grown g (fun e => by have := hx _ e.symm; have := h.b1.lt; omega),
    fun r hr => ⟨(h.rows r hr).1.grown g (fun k e => .inr (Nat.le_trans (h.rows r hr).2.2 (hx k e))), (h.rows r hr).2.1, Nat.le_trans (h.rows r hr).2.2 g.size⟩, Nat.le_trans h.sz g.size, h.qs⟩
theorem CS.later {w W W' : World} {q : Array Value} {L : List RF} (h : CS w W q L) (b : Below W.heap.size W W') : CS w W' q L := h.grown (gr_below b none) (fun k e => by cases e)
theorem CS.alloc {w W : World} {q : Array Value} {L : List RF} (h : CS w W q L) (o : Obj) : CS w (W.alloc o) q L := h.later (allocBP W o)
theorem CS.setQ {w W : World} {q : Array Value} {L : List RF} (h : CS w W q L) (j : Nat) (hj : j < q.size) (v : Value) : CS w (W.setCell ⟨w.heap.size, j, none⟩ v) (q.set j v) L :=
  ⟨h.bel.grown (setCell_gr W _ j v) h.bel.size (fun k e => by injection e with e; omega), h.b0.set j v hj, h.b1.other _ _ _ (by omega),
    fun r hr => ⟨(h.rows r hr).1.grown (setCell_gr W _ j v) (fun k e => by injection e with e; have := (h.rows r hr).2.1; left; omega), (h.rows r hr).2.1, by simpa using (h.rows r hr).2.2⟩, by simpa using h.sz, by simpa using h.qs⟩
theorem CS.add {w W : World} {q : Array Value} {L : List RF} (h : CS w W q L) (r : RF) (hr : r.at W) (h1 : w.heap.size + 2 ≤ r.lo) (h2 : r.hi ≤ W.heap.size) : CS w W q (r :: L) :=
  ⟨h.bel, h.b0, h.b1, fun x hx => by
    rcases List.mem_cons.1 hx with rfl | q
    · exact ⟨hr, h1, h2⟩
    · exact h.rows x q, h.sz, h.qs⟩
/-- A row of the copy's own turns, that lies among none of the others. -/
theorem CS.far {w W W' : World} {q : Array Value} {L : List RF} (h : CS w W q L) {x : Option Nat} (g : W.grownBy W' x) (h0 : ∀ k, x = some k → w.heap.size + 2 ≤ k) (h1 : ∀ r ∈ L, ∀ k, x = some k → r.hi ≤ k ∨ k < r.lo) : CS w W' q L :=
  ⟨h.bel.grown g h.bel.size (fun k e => by have := h0 k e; omega), h.b0.grown g (fun e => by have := h0 _ e.symm; omega), h.b1.grown g (fun e => by have := h0 _ e.symm; omega),
    fun r hr => ⟨(h.rows r hr).1.grown g (fun k e => by rcases h1 r hr k e with t | t; exact .inr t; exact .inl t), (h.rows r hr).2.1, Nat.le_trans (h.rows r hr).2.2 g.size⟩, Nat.le_trans h.sz g.size, h.qs⟩
theorem cs_start (w : World) (p : Pg) : CS w ((w.alloc (.cells p.arr 26)).alloc (.cells pz 26)) p.arr [] := by
  have e1 : (w.alloc (.cells p.arr 26)).heap.size = w.heap.size + 1 := by simp
  have k0 : (w.alloc (.cells p.arr 26)).heap[w.heap.size]? = some (.cells p.arr 26) := heapN _ _
  have k1 : ((w.alloc (.cells p.arr 26)).alloc (.cells pz 26)).heap[w.heap.size + 1]? = some (.cells pz 26) := by have := heapN (w.alloc (.cells p.arr 26)) (.cells pz 26); rwa [e1] at this
  refine ⟨alloc2 w _ _, ?_, k1, by simp, by simp, rfl⟩
  exact (Below.heap_alloc _ _ _ (by simp)).trans k0
/-- A list's copy: its row has two marks behind its end. -/
def CpL (a : Option Addr) (c n : Nat) (T : TypeId) (k : Nat) (xs : List Value) (L : List RF) : Prop :=
  ∃ g lo hi, a = some ⟨g, 0, none⟩ ∧ (⟨lo, hi, T, k, .slice (some ⟨g, 0, none⟩) (n + 2) c, n + 2, xs⟩ : RF) ∈ L
theorem cp_more {a : Option Addr} {c n : Nat} {T : TypeId} {k : Nat} {xs : List Value} {L : List RF} {r : RF} (h : CpL a c n T k xs L) : CpL a c n T k xs (r :: L) := by
  obtain ⟨g, lo, hi, h2, h3⟩ := h
  exact ⟨g, lo, hi, h2, List.mem_cons_of_mem _ h3⟩
def CpW (W : World) (a : Option Addr) (c n : Nat) (T : TypeId) (k : Nat) (xs : List Value) : Prop :=
  ∃ g B, a = some ⟨g, 0, none⟩ ∧ W.ownsRow B T k (.slice (some ⟨g, 0, none⟩) (n + 2) c) (n + 2) xs
theorem CpW.later {W W' : World} {a : Option Addr} {c n : Nat} {T : TypeId} {k : Nat} {xs : List Value} (h : CpW W a c n T k xs) (b : Below W.heap.size W W') : CpW W' a c n T k xs := by
  obtain ⟨g, B, h2, h3⟩ := h
  exact ⟨g, B, h2, row_farP h3 (gr_below b none) (fun k q e => by cases e)⟩
theorem CpL.out {W : World} {a : Option Addr} {c n : Nat} {T : TypeId} {k : Nat} {xs : List Value} {L : List RF} (h : CpL a c n T k xs L) (hL : ∀ r ∈ L, r.at W) : CpW W a c n T k xs := by
  obtain ⟨g, lo, hi, h2, h3⟩ := h
  exact ⟨g, lo, h2, (hL _ h3).own⟩
/-- An append of a list that came in, nil or not. -/
theorem wp_appH {w : World} {ops : Array Oper} {rest : List Oper} {o : Oper} {a : Act} {Q : Exit → Act → World → Prop} (hgd : o.guard = none) (s x : Operand) (t : TypeId)
    (ho : o.op = .call { callee := .builtin .append, args := #[s, x], argTypes := #[t, t] }) (base : Nat) (e : TypeId) (i : TypeInfo) (z : Value) (size bytes : Nat) (ht : Tryz.prog.underlying t = some (.slice e)) (hi : Tryz.prog.info? e = some i) (hz : i.zero = some z)
    (hsize : i.size = size) (hby : i.bytes = bytes) (hzs : z.cells.size = size) (hsz : 0 < size) (v : Value) (n : Nat) (xs : List Value) (hs : a.eval s = v) (hown : w.ownsRow base e size v n xs) (hv : v ≠ .slice none 0 0)
    (ad : Option Addr) (m c : Nat) (news : List Value) (hd : Hd ad m c) (hx : a.eval x = .slice ad m c) (hl : news.length = m * size) (hnews : ∀ y, ad = some y → ∀ j u, news[j]? = some u → w.cell? (y.add j) = some u) (h1 : ∀ u ∈ news, u.oneCell' = true)
    (h63 : n + m ≤ maxLen) (hbytes : (n + m) * bytes ≤ 140737488355328) (hbase : base ≤ w.heap.size)
    (h : ∀ v' w', w'.ownsRow base e size v' (n + m) (xs ++ news) → w.grownBy w' v.ownBlock → v' ≠ .slice none 0 0 → wpList Tryz.prog ops Q rest (a.put o.dst v') w') :
    wpList Tryz.prog ops Q (o :: rest) a w := by
  rcases ad with _ | y
  · obtain ⟨rfl, rfl⟩ := hd.1 rfl
    have e0 : news = [] := by simpa using hl
    subst e0
    refine wpList_append_own_none hgd s x t ho base e i size ht hi v n xs hs hown hx ?_
    exact h v w (by simpa using hown) (gr_below (Below.refl _ _) _) hv
  · refine wpList_append_own_at w hgd s x t ho base e i z size bytes ht hi hz hsize hby hzs hsz v n xs hs hown y m c news hx hl (hnews y rfl) h1 h63 hbytes hbase ?_
    intro v' w' k1 k2 k3 k4
    exact h v' w' k1 k2 (fun q => hv (k3.1 q).1)
theorem sr_newsH {W : World} {a : Option Addr} {n c : Nat} {ss : List ByteArray} (h : SR W a n c ss) : ∀ y, a = some y → ∀ j u, (strsP ss)[j]? = some u → W.cell? (y.add j) = some u := by
  rintro y rfl; exact sr_news h
theorem nr_newsH {W : World} {a : Option Addr} {n c : Nat} {ss : List Int} (h : NR W a n c ss) : ∀ y, a = some y → ∀ j u, (intsP ss)[j]? = some u → W.cell? (y.add j) = some u := by
  rintro y rfl; exact nr_news h
theorem ir_newsH {W : World} {a : Option Addr} {n c : Nat} {ss : List In} (h : IR W a n c ss) : ∀ y, a = some y → ∀ j u, (icsP ss)[j]? = some u → W.cell? (y.add j) = some u := by
  rintro y rfl; exact ir_news h
/-- An empty row. -/
theorem lit_rowP (W : World) (T : TypeId) (k : Nat) : (W.alloc (.cells #[] T)).ownsRow W.heap.size T k (.slice (some ⟨W.heap.size, 0, none⟩) 0 0) 0 [] :=
  ⟨by rw [Nat.zero_mul]; rfl, .inr ⟨W.heap.size, 0, #[], rfl, Nat.le_refl _, heapN _ _, Nat.zero_le _, Nat.zero_le _, by simp, by rw [Nat.zero_mul]; rfl⟩⟩
theorem cell_six_new (w : World) (a b c x y z : Value) (t : TypeId) : ∀ j u, [a, b, c, x, y, z][j]? = some u → (w.alloc (.cells #[a, b, c, x, y, z] t)).cell? ((⟨w.heap.size, 0, none⟩ : Addr).add j) = some u := by
  intro j u hj
  match j, hj with
  | 0, hj => simp at hj; subst hj; simp [Addr.add]
  | 1, hj => simp at hj; subst hj; simp [Addr.add]
  | 2, hj => simp at hj; subst hj; simp [Addr.add]
  | 3, hj => simp at hj; subst hj; simp [Addr.add]
  | 4, hj => simp at hj; subst hj; simp [Addr.add]
  | 5, hj => simp at hj; subst hj; simp [Addr.add]
theorem cell_four_new (w : World) (a b c x : Value) (t : TypeId) : ∀ j u, [a, b, c, x][j]? = some u → (w.alloc (.cells #[a, b, c, x] t)).cell? ((⟨w.heap.size, 0, none⟩ : Addr).add j) = some u := by
  intro j u hj
  match j, hj with
  | 0, hj => simp at hj; subst hj; simp [Addr.add]
  | 1, hj => simp at hj; subst hj; simp [Addr.add]
  | 2, hj => simp at hj; subst hj; simp [Addr.add]
  | 3, hj => simp at hj; subst hj; simp [Addr.add]
/-- What stands while the days are copied: the days' row turns. -/
structure CD (w wr : World) (p : Pg) (q : Array Value) (B : Nat) (v : Value) (D : List Sg) (L : List RF) : Prop where
  cs : CS w wr q L
  own : wr.ownsRow B 35 2 v D.length (sgsP D)
  far : ∀ r ∈ L, ∀ b, v.ownBlock = some b → r.hi ≤ b ∨ b < r.lo
  bb : w.heap.size + 2 ≤ B ∧ B ≤ wr.heap.size
  le : D.length ≤ p.days.length
  keys : D.map Sg.key = (p.days.take D.length).map Sg.key
  mks : ∀ i, i < D.length → CpL (D.getD i default).ca (D.getD i default).cc (D.getD i default).code.length 37 3 (icsP (D.getD i default).code ++ icell i77 ++ icell i77) L
theorem CD.later {w W W' : World} {p : Pg} {q : Array Value} {B : Nat} {v : Value} {D : List Sg} {L : List RF} (h : CD w W p q B v D L) (b : Below W.heap.size W W') : CD w W' p q B v D L :=
  ⟨h.cs.later b, row_farP h.own (gr_below b none) (fun k q e => by cases e), h.far, ⟨h.bb.1, Nat.le_trans h.bb.2 b.size⟩, h.le, h.keys, h.mks⟩
theorem CD.add {w W : World} {p : Pg} {q : Array Value} {B : Nat} {v : Value} {D : List Sg} {L : List RF} (h : CD w W p q B v D L) (r : RF) (hr : r.at W) (h1 : w.heap.size + 2 ≤ r.lo) (h2 : r.hi ≤ W.heap.size) (h3 : ∀ b, v.ownBlock = some b → b < r.lo) : CD w W p q B v D (r :: L) :=
  ⟨h.cs.add r hr h1 h2, h.own, fun x hx b e => by
    rcases List.mem_cons.1 hx with rfl | q
    · exact .inr (h3 b e)
    · exact h.far x q b e, h.bb, h.le, h.keys, fun i hi => cp_more (h.mks i hi)⟩
theorem CD.next {w W W' : World} {p : Pg} {q : Array Value} {B : Nat} {v v' : Value} {D : List Sg} {L : List RF} (h : CD w W p q B v D L) (s : Sg) (g : W.grownBy W' v.ownBlock) (o : W'.ownsRow B 35 2 v' (D.length + 1) (sgsP D ++ s.cs)) (ho : v'.ownBlock = v.ownBlock ∨ ∃ k, v'.ownBlock = some k ∧ W.heap.size ≤ k) (hd : D.length < p.days.length)
    (hk : s.key = (p.days.getD D.length default).key) (hm : CpL s.ca s.cc s.code.length 37 3 (icsP s.code ++ icell i77 ++ icell i77) L) : CD w W' p q B v' (D ++ [s]) L := by
  have el : (D ++ [s]).length = D.length + 1 := by simp
  refine ⟨h.cs.far g (fun k e => by have := (h.own.lt k e).1; have := h.bb.1; omega) (fun r hr k e => h.far r hr k e), ?_, ?_, ⟨h.bb.1, Nat.le_trans h.bb.2 g.size⟩, by omega, ?_, ?_⟩
  · rw [el, sgsP_app, show sgsP [s] = s.cs by simp [sgsP]]; exact o
  · intro r hr b e
    rcases ho with q | ⟨k, q, hk⟩
    · exact h.far r hr b (q ▸ e)
    · rw [q] at e; injection e with e; subst e; exact .inl (Nat.le_trans (h.cs.rows r hr).2.2 hk)
  · rw [el, List.map_append, h.keys, List.take_succ_eq_append_getElem hd, List.map_append]
    simp only [List.map_cons, List.map_nil]
    rw [hk]
    simp [List.getD, hd]
  · intro i hi
    rw [el] at hi
    by_cases hlt : i < D.length
    · have e : (D ++ [s]).getD i default = D.getD i default := by simp [List.getD, List.getElem?_append_left hlt]
      rw [e]; exact h.mks i hlt
    · obtain rfl : i = D.length := by omega
      have e : (D ++ [s]).getD D.length default = s := by simp [List.getD]
      rw [e]; exact hm
/-- What a copy is. -/
structure CpE (W : World) (p q : Pg) : Prop where
  key : q.key = p.key
  mn : CpW W q.na q.nc q.names.length 9 1 (strsP q.names ++ [mkV, mkV])
  mu : CpW W q.ua q.uc q.curs.length 9 1 (strsP q.curs ++ [mkV, mkV])
  mp : CpW W q.pa q.pc q.pool.length 3 1 (intsP q.pool ++ [m77, m77])
  md : CpW W q.da q.dc q.days.length 35 2 (sgsP q.days ++ s77.cs ++ s77.cs)
  mc : ∀ i, i < q.days.length → CpW W (q.days.getD i default).ca (q.days.getD i default).cc (q.days.getD i default).code.length 37 3 (icsP (q.days.getD i default).code ++ icell i77 ++ icell i77)
theorem CpE.later {W W' : World} {p q : Pg} (h : CpE W p q) (b : Below W.heap.size W W') : CpE W' p q := ⟨h.key, h.mn.later b, h.mu.later b, h.mp.later b, h.md.later b, fun i hi => (h.mc i hi).later b⟩
/-- The answer's box is filled. -/
theorem CS.fin {w W : World} {q : Array Value} {L : List RF} (h : CS w W q L) (v0 v1 v2 v3 v4 v5 v6 v7 : Value) :
    ∀ W', W' = (((((((W.setCell ⟨w.heap.size + 1, 0, none⟩ v0).setCell ⟨w.heap.size + 1, 1, none⟩ v1).setCell ⟨w.heap.size + 1, 2, none⟩ v2).setCell ⟨w.heap.size + 1, 3, none⟩ v3).setCell ⟨w.heap.size + 1, 4, none⟩ v4).setCell ⟨w.heap.size + 1, 5, none⟩ v5).setCell ⟨w.heap.size + 1, 6, none⟩ v6).setCell ⟨w.heap.size + 1, 7, none⟩ v7 →
    Below w.heap.size w W' ∧ (∀ r ∈ L, r.at W') ∧ BkP W' (w.heap.size + 1) #[v0, v1, v2, v3, v4, v5, v6, v7] 26 ∧ W.grownBy W' (some (w.heap.size + 1)) := by
  intro W' hW'
  subst hW'
  have G : W.grownBy ((((((((W.setCell ⟨w.heap.size + 1, 0, none⟩ v0).setCell ⟨w.heap.size + 1, 1, none⟩ v1).setCell ⟨w.heap.size + 1, 2, none⟩ v2).setCell ⟨w.heap.size + 1, 3, none⟩ v3).setCell ⟨w.heap.size + 1, 4, none⟩ v4).setCell ⟨w.heap.size + 1, 5, none⟩ v5).setCell ⟨w.heap.size + 1, 6, none⟩ v6).setCell ⟨w.heap.size + 1, 7, none⟩ v7) (some (w.heap.size + 1)) :=
    (((((((setCell_gr _ _ _ _).trans (setCell_gr _ _ _ _)).trans (setCell_gr _ _ _ _)).trans (setCell_gr _ _ _ _)).trans (setCell_gr _ _ _ _)).trans (setCell_gr _ _ _ _)).trans (setCell_gr _ _ _ _)).trans (setCell_gr _ _ _ _)
  refine ⟨h.bel.grown G h.bel.size (fun k e => by injection e with e; omega), fun r hr => (h.rows r hr).1.grown G (fun k e => by injection e with e; have := (h.rows r hr).2.1; left; omega), ?_, G⟩
  have := (((((((h.b1.set 0 v0 (by simp [pz])).set 1 v1 (by simp [pz])).set 2 v2 (by simp [pz])).set 3 v3 (by simp [pz])).set 4 v4 (by simp [pz])).set 5 v5 (by simp [pz])).set 6 v6 (by simp [pz])).set 7 v7 (by simp [pz])
  exact this
end Go.Proofs.YtlcidigcecmnpaaGreatDoor

namespace Go.Proofs.YtlcidigcecmnpaaGreatDoor
open Go.RowKit
set_option linter.unusedVariables false
set_option linter.unusedSimpArgs false
/-- An append of a list, in a region that draws; where the answer lies. -/
theorem step_appG4 {ops : Array Oper} {o : Oper} {a : Act} {K : Act → World → Prop} {Q : Exit → Act → World → Prop} {E : Prop} (w : World) (hgd : o.guard = none) (s x : Operand) (t : TypeId)
    (ho : o.op = .call { callee := .builtin .append, args := #[s, x], argTypes := #[t, t] }) (B : Nat) (e : TypeId) (i0 : TypeInfo) (z : Value) (size bytes : Nat) (ht : Tryz.prog.underlying t = some (.slice e)) (hi : Tryz.prog.info? e = some i0) (hz : i0.zero = some z) (h4 : i0.size = size) (h5 : i0.bytes = bytes) (h6 : z.cells.size = size) (h7 : 0 < size)
    (v : Value) (n : Nat) (xs : List Value) (hs : a.eval s = v) (hown : w.ownsRow B e size v n xs) (ad : Addr) (m c : Nat) (news : List Value) (hx : a.eval x = .slice (some ad) m c) (hl : news.length = m * size) (hnews : ∀ j u, news[j]? = some u → w.cell? (ad.add j) = some u) (h1 : ∀ u ∈ news, u.oneCell' = true)
    (h63 : n + m ≤ maxLen) (hbytes : (n + m) * bytes ≤ 140737488355328) (hb : B ≤ w.heap.size)
    (h : ∀ v' w', w'.ownsRow B e size v' (n + m) (xs ++ news) → w.grownBy w' v.ownBlock → (v' = .slice none 0 0 ↔ v = .slice none 0 0 ∧ m = 0) → (v'.ownBlock = v.ownBlock ∨ v'.ownBlock = some w.heap.size) → K (a.put o.dst v') w') :
    if Region.wanted o (yielded ops a.tmps) = true then Oper.wp Tryz.prog o a w K Q else E := by
  rw [if_pos (by simp [Region.wanted, hgd])]
  obtain ⟨v', w', hr, h2, h3, h8, h9⟩ := run_append_own_at (P := Tryz.prog) w B t o.type e i0 z size bytes ht hi hz h4 h5 h6 h7 v n xs hown ad m c news hl hnews h1 h63 hbytes hb
  unfold Oper.wp execOp
  simp only [ho, resolve, invoke, builtin, Sem.run_bind, Sem.run_pure, Result.andThen_ok, List.map_toArray, List.map_cons, List.map_nil, hs, hx, hr]
  exact h v' w' h2 h3 h8 h9
set_option maxRecDepth 100000 in
set_option maxHeartbeats 40000000 in
theorem copyP_any {w : World} {p : Pg} (h : PV w p) :
    Calls Tryz.prog 4 #[p.agg] w fun e w' => ∃ q : Pg, e = .returned q.agg ∧ CpE w' p q ∧ Below w.heap.size w w' := by
  have SS0 := cs_start w p
  obtain ⟨iS, hiS, hziS0, hziS1, hziS2⟩ := info_parts infoPS
  obtain ⟨iN, hiN, hziN0, hziN1, hziN2⟩ := info_parts infoPN
  obtain ⟨iI, hiI, hziI0, hziI1, hziI2⟩ := info_parts infoPI
  obtain ⟨iG, hiG, hziG0, hziG1, hziG2⟩ := info_parts infoPG
  have HP := Lib.hid h
  clear h
  obtain ⟨na, nc, names, ua, uc, curs, pa, pc, pool, hor, cells, slots, stack, da, dc, days⟩ := p
  unfold Pg.agg
  unfold Pg.arr pz at SS0
  simp only at SS0 ⊢
  generalize hW0 : (w.alloc (.cells #[.slice na names.length nc, .slice ua curs.length uc, .slice pa pool.length pc, .int .i64 hor, .int .i64 cells, .int .i64 slots, .int .i64 stack, .slice da days.length dc] 26)).alloc (.cells #[.slice none 0 0, .slice none 0 0, .slice none 0 0, .int .i64 0, .int .i64 0, .int .i64 0, .int .i64 0, .slice none 0 0] 26) = W0 at SS0
  have S0 := Lib.hid SS0
  have z00 := SS0.b0.cell 0
  have z01 := (SS0.alloc (.cells #[] 9)).b0.cell 0
  simp at z00 z01
  clear SS0
  have HN := Lib.hid HP.out.names
  simp only at HN
  have NWN := Lib.hid (fun W (b : Below w.heap.size w W) => sr_newsH (HN.out.later b))
  have STN := Lib.hid (p := ∀ u ∈ strsP names, u.oneCell' = true) (by intro u hu; obtain ⟨z, _, rfl⟩ := List.mem_map.1 hu; rfl)
  have SLN := Lib.hid (p := (strsP names).length = names.length * 1) (by simp [strsP])
  have NLN := Lib.hid (p := names.length + 2 ≤ maxLen ∧ (names.length + 2) * 16 ≤ 140737488355328) (by have := HN.out.2.2.1; unfold maxLen; omega)
  have HU := Lib.hid HP.out.curs
  simp only at HU
  have NWU := Lib.hid (fun W (b : Below w.heap.size w W) => sr_newsH (HU.out.later b))
  have STU := Lib.hid (p := ∀ u ∈ strsP curs, u.oneCell' = true) (by intro u hu; obtain ⟨z, _, rfl⟩ := List.mem_map.1 hu; rfl)
  have SLU := Lib.hid (p := (strsP curs).length = curs.length * 1) (by simp [strsP])
  have NLU := Lib.hid (p := curs.length + 2 ≤ maxLen ∧ (curs.length + 2) * 16 ≤ 140737488355328) (by have := HU.out.2.2.1; unfold maxLen; omega)
  have HQ := Lib.hid HP.out.pool
  simp only at HQ
  have NWQ := Lib.hid (fun W (b : Below w.heap.size w W) => nr_newsH (HQ.out.later b))
  have STQ := Lib.hid (p := ∀ u ∈ intsP pool, u.oneCell' = true) (by intro u hu; obtain ⟨z, _, rfl⟩ := List.mem_map.1 hu; rfl)
  have SLQ := Lib.hid (p := (intsP pool).length = pool.length * 1) (by simp [intsP])
  have NLQ := Lib.hid (p := pool.length + 2 ≤ maxLen ∧ (pool.length + 2) * 8 ≤ 140737488355328) (by have := HQ.out.2.2.1; unfold maxLen; omega)
  have A0 : True := trivial
  go_enter Tryz.func4, Tryz.ntmps4
  go_wp2_with (first
    | (at_builtin; have qq := A0; refine wp_appH rfl _ _ 22 rfl W0.heap.size 9 iS _ 1 16 Tryz.underlying22 hiS hziS0 hziS1 hziS2 rfl (by decide) (.slice (some ⟨W0.heap.size, 0, none⟩) 0 0) 0 [] rfl (lit_rowP W0 _ 1) (by simp) na names.length nc (strsP names) HN.out.1 rfl SLN.out (NWN.out _ (S0.out.alloc _).bel) STN.out (by have := NLN.out; omega) (by have := NLN.out; omega) (by simp) ?_; intro v2 w2 k1 k2 k3; rw [Nat.zero_add, List.nil_append] at k1; obtain ⟨g2, c2, rfl, _, _, _⟩ := row_someP k1 k3; have O0 := Lib.hid k1; have B2 := Lib.hid (show Below W0.heap.size W0 w2 from (allocBP W0 _).grown k2 (by simp) (fun k e => Nat.le_of_eq (Option.some.inj e))); clear k1 k2 k3 A0 z00 z01)
    | (at_builtin; have qq := O0; refine wpList_append_own_at _ rfl _ _ 22 rfl W0.heap.size 9 iS _ 1 16 Tryz.underlying22 hiS hziS0 hziS1 hziS2 rfl (by decide) _ names.length (strsP names) rfl (O0.out.alloc _) ⟨w2.heap.size, 0, none⟩ 2 2 [mkV, mkV] rfl rfl (cell_two_new w2 _ _ _) (by intro u hu; simp at hu; subst hu; rfl) NLN.out.1 NLN.out.2 (Nat.le_trans B2.out.size (by simp)) ?_; intro v3 x0 k1 k2 k3 k4; obtain ⟨g0, c0, rfl, e3, _, _⟩ := row_someP k1 (fun e => by have := (k3.1 e).1; cases this); have e04 : names.length ≤ c0 := (by omega); have B3 := Lib.hid (show Below W0.heap.size W0 x0 from (B2.out.alloc B2.out.size _).grown k2 (Nat.le_trans B2.out.size (by simp)) (fun k e => (O0.out.lt k e).1)); have S3a := Lib.hid (S0.out.later B3.out); have y3 := S3a.out.b0.cell 0; have y5 := S3a.out.b0.frozen 0; simp at y3; have S1 := Lib.hid ((S3a.out.add ⟨W0.heap.size, x0.heap.size, 9, 1, .slice (some ⟨g0, 0, none⟩) (names.length + 2) c0, names.length + 2, strsP names ++ [mkV, mkV]⟩ ⟨k1, fun b e => (k1.lt b e).2⟩ S0.out.sz (Nat.le_refl _)).setQ 0 (by simp) (.slice (some ⟨g0, 0, none⟩) names.length c0)); clear S3a O0 B2 B3 k1 k2 k3 k4 e3; obtain ⟨W1, hW1⟩ : ∃ W, x0.setCell ⟨w.heap.size, 0, none⟩ (.slice (some ⟨g0, 0, none⟩) names.length c0) = W := ⟨_, rfl⟩; rw [hW1] at S1; simp at S1; have z10 := S1.out.b0.cell 1; have z11 := (S1.out.alloc (.cells #[] 9)).b0.cell 1; simp at z10 z11; have A1 : True := trivial)
    | (at_builtin; have qq := A1; refine wp_appH rfl _ _ 22 rfl W1.heap.size 9 iS _ 1 16 Tryz.underlying22 hiS hziS0 hziS1 hziS2 rfl (by decide) (.slice (some ⟨W1.heap.size, 0, none⟩) 0 0) 0 [] rfl (lit_rowP W1 _ 1) (by simp) ua curs.length uc (strsP curs) HU.out.1 rfl SLU.out (NWU.out _ (S1.out.alloc _).bel) STU.out (by have := NLU.out; omega) (by have := NLU.out; omega) (by simp) ?_; intro v2 w2 k1 k2 k3; rw [Nat.zero_add, List.nil_append] at k1; obtain ⟨g2, c2, rfl, _, _, _⟩ := row_someP k1 k3; have O1 := Lib.hid k1; have B2 := Lib.hid (show Below W1.heap.size W1 w2 from (allocBP W1 _).grown k2 (by simp) (fun k e => Nat.le_of_eq (Option.some.inj e))); clear k1 k2 k3 A1 z10 z11)
    | (at_builtin; have qq := O1; refine wpList_append_own_at _ rfl _ _ 22 rfl W1.heap.size 9 iS _ 1 16 Tryz.underlying22 hiS hziS0 hziS1 hziS2 rfl (by decide) _ curs.length (strsP curs) rfl (O1.out.alloc _) ⟨w2.heap.size, 0, none⟩ 2 2 [mkV, mkV] rfl rfl (cell_two_new w2 _ _ _) (by intro u hu; simp at hu; subst hu; rfl) NLU.out.1 NLU.out.2 (Nat.le_trans B2.out.size (by simp)) ?_; intro v3 x1 k1 k2 k3 k4; obtain ⟨g1, c1, rfl, e3, _, _⟩ := row_someP k1 (fun e => by have := (k3.1 e).1; cases this); have e14 : curs.length ≤ c1 := (by omega); have B3 := Lib.hid (show Below W1.heap.size W1 x1 from (B2.out.alloc B2.out.size _).grown k2 (Nat.le_trans B2.out.size (by simp)) (fun k e => (O1.out.lt k e).1)); have S3a := Lib.hid (S1.out.later B3.out); have y3 := S3a.out.b0.cell 1; have y5 := S3a.out.b0.frozen 1; simp at y3; have S2 := Lib.hid ((S3a.out.add ⟨W1.heap.size, x1.heap.size, 9, 1, .slice (some ⟨g1, 0, none⟩) (curs.length + 2) c1, curs.length + 2, strsP curs ++ [mkV, mkV]⟩ ⟨k1, fun b e => (k1.lt b e).2⟩ S1.out.sz (Nat.le_refl _)).setQ 1 (by simp) (.slice (some ⟨g1, 0, none⟩) curs.length c1)); clear S3a O1 B2 B3 k1 k2 k3 k4 e3; obtain ⟨W2, hW2⟩ : ∃ W, x1.setCell ⟨w.heap.size, 1, none⟩ (.slice (some ⟨g1, 0, none⟩) curs.length c1) = W := ⟨_, rfl⟩; rw [hW2] at S2; simp at S2; have z20 := S2.out.b0.cell 2; have z21 := (S2.out.alloc (.cells #[] 3)).b0.cell 2; simp at z20 z21; have A2 : True := trivial)
    | (at_builtin; have qq := A2; refine wp_appH rfl _ _ 23 rfl W2.heap.size 3 iN _ 1 8 Tryz.underlying23 hiN hziN0 hziN1 hziN2 rfl (by decide) (.slice (some ⟨W2.heap.size, 0, none⟩) 0 0) 0 [] rfl (lit_rowP W2 _ 1) (by simp) pa pool.length pc (intsP pool) HQ.out.1 rfl SLQ.out (NWQ.out _ (S2.out.alloc _).bel) STQ.out (by have := NLQ.out; omega) (by have := NLQ.out; omega) (by simp) ?_; intro v2 w2 k1 k2 k3; rw [Nat.zero_add, List.nil_append] at k1; obtain ⟨g2, c2, rfl, _, _, _⟩ := row_someP k1 k3; have O2 := Lib.hid k1; have B2 := Lib.hid (show Below W2.heap.size W2 w2 from (allocBP W2 _).grown k2 (by simp) (fun k e => Nat.le_of_eq (Option.some.inj e))); clear k1 k2 k3 A2 z20 z21)
    | (at_builtin; have qq := O2; refine wpList_append_own_at _ rfl _ _ 23 rfl W2.heap.size 3 iN _ 1 8 Tryz.underlying23 hiN hziN0 hziN1 hziN2 rfl (by decide) _ pool.length (intsP pool) rfl (O2.out.alloc _) ⟨w2.heap.size, 0, none⟩ 2 2 [m77, m77] rfl rfl (cell_two_new w2 _ _ _) (by intro u hu; simp at hu; subst hu; rfl) NLQ.out.1 NLQ.out.2 (Nat.le_trans B2.out.size (by simp)) ?_; intro v3 x2 k1 k2 k3 k4; obtain ⟨g2, c2, rfl, e3, _, _⟩ := row_someP k1 (fun e => by have := (k3.1 e).1; cases this); have e24 : pool.length ≤ c2 := (by omega); have B3 := Lib.hid (show Below W2.heap.size W2 x2 from (B2.out.alloc B2.out.size _).grown k2 (Nat.le_trans B2.out.size (by simp)) (fun k e => (O2.out.lt k e).1)); have S3a := Lib.hid (S2.out.later B3.out); have y3 := S3a.out.b0.cell 2; have y5 := S3a.out.b0.frozen 2; simp at y3; have S3 := Lib.hid ((S3a.out.add ⟨W2.heap.size, x2.heap.size, 3, 1, .slice (some ⟨g2, 0, none⟩) (pool.length + 2) c2, pool.length + 2, intsP pool ++ [m77, m77]⟩ ⟨k1, fun b e => (k1.lt b e).2⟩ S2.out.sz (Nat.le_refl _)).setQ 2 (by simp) (.slice (some ⟨g2, 0, none⟩) pool.length c2)); clear S3a O2 B2 B3 k1 k2 k3 k4 e3; obtain ⟨W3, hW3⟩ : ∃ W, x2.setCell ⟨w.heap.size, 2, none⟩ (.slice (some ⟨g2, 0, none⟩) pool.length c2) = W := ⟨_, rfl⟩; rw [hW3] at S3; simp at S3; have z30 := S3.out.b0.cell 7; simp at z30)
    )
  clear hW0 hW1 hW2 hW3 z30
  have HD := Lib.hid HP.out.days
  simp only at HD
  have SZ := Lib.hid S3.out.sz
  have C1 := Lib.hid (p := CpL (some ⟨g0, 0, none⟩) c0 names.length 9 1 (strsP names ++ [mkV, mkV]) ([⟨W2.heap.size, x2.heap.size, 3, 1, .slice (some ⟨g2, 0, none⟩) (pool.length + 2) c2, pool.length + 2, intsP pool ++ [m77, m77]⟩, ⟨W1.heap.size, x1.heap.size, 9, 1, .slice (some ⟨g1, 0, none⟩) (curs.length + 2) c1, curs.length + 2, strsP curs ++ [mkV, mkV]⟩, ⟨W0.heap.size, x0.heap.size, 9, 1, .slice (some ⟨g0, 0, none⟩) (names.length + 2) c0, names.length + 2, strsP names ++ [mkV, mkV]⟩] : List RF)) ⟨g0, _, _, rfl, List.mem_cons_of_mem _ (List.mem_cons_of_mem _ List.mem_cons_self)⟩
  have C2 := Lib.hid (p := CpL (some ⟨g1, 0, none⟩) c1 curs.length 9 1 (strsP curs ++ [mkV, mkV]) ([⟨W2.heap.size, x2.heap.size, 3, 1, .slice (some ⟨g2, 0, none⟩) (pool.length + 2) c2, pool.length + 2, intsP pool ++ [m77, m77]⟩, ⟨W1.heap.size, x1.heap.size, 9, 1, .slice (some ⟨g1, 0, none⟩) (curs.length + 2) c1, curs.length + 2, strsP curs ++ [mkV, mkV]⟩, ⟨W0.heap.size, x0.heap.size, 9, 1, .slice (some ⟨g0, 0, none⟩) (names.length + 2) c0, names.length + 2, strsP names ++ [mkV, mkV]⟩] : List RF)) ⟨g1, _, _, rfl, List.mem_cons_of_mem _ List.mem_cons_self⟩
  have C3 := Lib.hid (p := CpL (some ⟨g2, 0, none⟩) c2 pool.length 3 1 (intsP pool ++ [m77, m77]) ([⟨W2.heap.size, x2.heap.size, 3, 1, .slice (some ⟨g2, 0, none⟩) (pool.length + 2) c2, pool.length + 2, intsP pool ++ [m77, m77]⟩, ⟨W1.heap.size, x1.heap.size, 9, 1, .slice (some ⟨g1, 0, none⟩) (curs.length + 2) c1, curs.length + 2, strsP curs ++ [mkV, mkV]⟩, ⟨W0.heap.size, x0.heap.size, 9, 1, .slice (some ⟨g0, 0, none⟩) (names.length + 2) c0, names.length + 2, strsP names ++ [mkV, mkV]⟩] : List RF)) ⟨g2, _, _, rfl, List.mem_cons_self⟩
  have D0 := Lib.hid (p := CD w W3 ⟨na, nc, names, ua, uc, curs, pa, pc, pool, hor, cells, slots, stack, da, dc, days⟩ (#[.slice (some ⟨g0, 0, none⟩) names.length c0, .slice (some ⟨g1, 0, none⟩) curs.length c1, .slice (some ⟨g2, 0, none⟩) pool.length c2, .int .i64 hor, .int .i64 cells, .int .i64 slots, .int .i64 stack, .slice da days.length dc]) W3.heap.size (.slice none 0 0) [] ([⟨W2.heap.size, x2.heap.size, 3, 1, .slice (some ⟨g2, 0, none⟩) (pool.length + 2) c2, pool.length + 2, intsP pool ++ [m77, m77]⟩, ⟨W1.heap.size, x1.heap.size, 9, 1, .slice (some ⟨g1, 0, none⟩) (curs.length + 2) c1, curs.length + 2, strsP curs ++ [mkV, mkV]⟩, ⟨W0.heap.size, x0.heap.size, 9, 1, .slice (some ⟨g0, 0, none⟩) (names.length + 2) c0, names.length + 2, strsP names ++ [mkV, mkV]⟩] : List RF)) ⟨S3.out, World.ownsRow_nil _ _ _ _, (fun r hr b e => by cases e), ⟨S3.out.sz, Nat.le_refl _⟩, by simp, rfl, fun i hi => absurd hi (by simp)⟩
  clear S0 S1 S2 S3 HN HU HQ NWN NWU NWQ STN STU STQ SLN SLU SLQ NLN NLU NLQ e04 e14 e24
  generalize ([⟨W2.heap.size, x2.heap.size, 3, 1, .slice (some ⟨g2, 0, none⟩) (pool.length + 2) c2, pool.length + 2, intsP pool ++ [m77, m77]⟩, ⟨W1.heap.size, x1.heap.size, 9, 1, .slice (some ⟨g1, 0, none⟩) (curs.length + 2) c1, curs.length + 2, strsP curs ++ [mkV, mkV]⟩, ⟨W0.heap.size, x0.heap.size, 9, 1, .slice (some ⟨g0, 0, none⟩) (names.length + 2) c0, names.length + 2, strsP names ++ [mkV, mkV]⟩] : List RF) = L0 at *
  go_loopw [4, 5] (fun t u wr => ∃ D L v, v = t ∧ u = .int .i64 (List.length D : Int) ∧ CD w wr ⟨na, nc, names, ua, uc, curs, pa, pc, pool, hor, cells, slots, stack, da, dc, days⟩ (#[.slice (some ⟨g0, 0, none⟩) names.length c0, .slice (some ⟨g1, 0, none⟩) curs.length c1, .slice (some ⟨g2, 0, none⟩) pool.length c2, .int .i64 hor, .int .i64 cells, .int .i64 slots, .int .i64 stack, .slice da days.length dc]) W3.heap.size v D L ∧ CpL (some ⟨g0, 0, none⟩) c0 names.length 9 1 (strsP names ++ [mkV, mkV]) L ∧ CpL (some ⟨g1, 0, none⟩) c1 curs.length 9 1 (strsP curs ++ [mkV, mkV]) L ∧ CpL (some ⟨g2, 0, none⟩) c2 pool.length 3 1 (intsP pool ++ [m77, m77]) L) (fun t u _ => days.length - (intOf u).toNat)
  case atStart => exact ⟨[], L0, _, rfl, rfl, D0.out, C1.out, C2.out, C3.out⟩
  case round =>
    clear D0 C1 C2 C3
    rename World => wr
    obtain ⟨D, L, v, rfl, rfl, hD, hM1, hM2, hM3⟩ := hrel
    have DD := Lib.hid hD
    have MM1 := Lib.hid hM1
    have MM2 := Lib.hid hM2
    have MM3 := Lib.hid hM3
    have c7 := hD.cs.b0.cell 7
    simp at c7
    by_cases hlt : D.length < days.length
    · have kc : (D.length : Int) < (days.length : Int) := by omega
      have nb2 := HD.out.2.2.1
      have kq : IntKind.i64.wrap ((D.length : Int) + 1) = (D.length : Int) + 1 := by simp [IntKind.wrap, IntKind.bits, IntKind.signed]; omega
      obtain ⟨xb, xo, rfl, hx, hc⟩ : ∃ xb xo, da = some ⟨xb, xo, none⟩ ∧ xb < w.heap.size ∧ ∀ i, i < days.length → ∀ j, j < 2 → w.cell? ⟨xb, xo + i * 2 + j, none⟩ = some (((days.getD i default).cs).getD j default) := by
        rcases HD.out.2.2.2.2 with q | ⟨b, o, e, h1, h2⟩
        · omega
        · exact ⟨b, o, e, h1, h2⟩
      have i0 := hc D.length hlt 0 (by omega)
      have i1 := hc D.length hlt 1 (by omega)
      have IRf := (HD.out.2.2.2.1 _ (sg_mem (i := D.length) hlt)).2
      obtain ⟨s, hs⟩ : ∃ s, days.getD D.length default = s := ⟨_, rfl⟩
      rw [hs] at i0 i1 IRf
      have HS := Lib.hid hs
      obtain ⟨sd, sa, sc, sl⟩ := s
      simp only [Sg.cs, Nat.add_zero, List.getD_cons_zero, List.getD_cons_succ] at i0 i1 IRf
      have I0 := Lib.hid (fun W (b : Below w.heap.size w W) => (b.cell (p := ⟨xb, xo + D.length * 2, none⟩) hx).trans i0)
      have I1 := Lib.hid (fun W (b : Below w.heap.size w W) => (b.cell (p := ⟨xb, xo + D.length * 2 + 1, none⟩) hx).trans i1)
      have e0 := I0.out _ hD.cs.bel
      have e1 := I1.out _ hD.cs.bel
      have E1 := Lib.hid (hD.later (allocBP wr (.cells #[] 37)))
      have f7 := E1.out.cs.b0.cell 7
      have f1 := I1.out _ E1.out.cs.bel
      simp at f7
      have IRF := Lib.hid IRf
      have NB := Lib.hid (p := sl.length + 2 ≤ maxLen ∧ (sl.length + 2) * 24 ≤ 140737488355328) (by have := IRf.2.2.1; unfold maxLen; omega)
      have NG := Lib.hid (p := D.length + 1 ≤ maxLen ∧ (D.length + 1) * 32 ≤ 140737488355328) (by unfold maxLen; omega)
      have ST := Lib.hid (icsP_one sl)
      have SL := Lib.hid (icsP_len sl)
      have NW := Lib.hid (fun W (b : Below w.heap.size w W) => ir_newsH (IRF.out.later b))
      clear hc i0 i1 hs IRf hD hM1 hM2 hM3 hx nb2
      have A0 : True := trivial
      go_wp2_with (first
        | (at_builtin; have qq := A0; refine wp_appH rfl _ _ 33 rfl wr.heap.size 37 iI _ 3 24 Tryz.underlying33 hiI hziI0 hziI1 hziI2 rfl (by decide) (.slice (some ⟨wr.heap.size, 0, none⟩) 0 0) 0 [] rfl (lit_rowP wr _ 3) (by simp) sa sl.length sc (icsP sl) IRF.out.1 rfl SL.out (NW.out _ E1.out.cs.bel) ST.out (by have := NB.out; omega) (by have := NB.out; omega) (by simp) ?_; intro v2 w2 k1 k2 k3; rw [Nat.zero_add, List.nil_append] at k1; obtain ⟨g2, c2, rfl, _, _, _⟩ := row_someP k1 k3; have O2 := Lib.hid k1; have B2 := Lib.hid (show Below wr.heap.size wr w2 from (allocBP wr _).grown k2 (by simp) (fun k e => Nat.le_of_eq (Option.some.inj e))); clear k1 k2 k3 A0 c7 e0 e1 f7 f1)
        | (at_builtin; have qq := O2; refine wpList_append_own_at _ rfl _ _ 33 rfl wr.heap.size 37 iI _ 3 24 Tryz.underlying33 hiI hziI0 hziI1 hziI2 rfl (by decide) _ sl.length (icsP sl) rfl (O2.out.alloc _) ⟨w2.heap.size, 0, none⟩ 2 2 [.int .i64 (-77), .int .i64 0, .int .i64 0, .int .i64 (-77), .int .i64 0, .int .i64 0] rfl rfl (cell_six_new w2 _ _ _ _ _ _ _) (by intro u hu; simp at hu; rcases hu with rfl | rfl | rfl | rfl | rfl | rfl <;> rfl) NB.out.1 NB.out.2 (Nat.le_trans B2.out.size (by simp)) ?_; intro v3 w3 k1 k2 k3 k4; obtain ⟨g3, c3, rfl, e3, _, _⟩ := row_someP k1 (fun e => by have := (k3.1 e).1; cases this); have e4 : sl.length ≤ c3 := (by omega); have B3 := Lib.hid (show Below wr.heap.size wr w3 from (B2.out.alloc B2.out.size _).grown k2 (Nat.le_trans B2.out.size (by simp)) (fun k e => (O2.out.lt k e).1)); have O3 := Lib.hid k1; have D3 := Lib.hid (DD.out.later B3.out); have y7 := D3.out.cs.b0.cell 7; have y0 := I0.out _ D3.out.cs.bel; have y1 := I1.out _ D3.out.cs.bel; simp at y7; clear k1 k2 k3 k4 e3 O2 B2))
      have OWH := Lib.hid (p := ∀ W, Below w3.heap.size w3 W → W.ownsRow W3.heap.size 35 2 v D.length (sgsP D)) (fun W b => row_farP D3.out.own (gr_below b none) (fun k q e => by cases e))
      have GRH := Lib.hid (p := ∀ W w5 r, W.grownBy w5 r → Below w3.heap.size w3 W → w3.grownBy w5 r) (fun W w5 r g b => (gr_below b r).trans g)
      have BSH := Lib.hid (p := ∀ W, Below w3.heap.size w3 W → W3.heap.size ≤ W.heap.size ∧ w3.heap.size ≤ W.heap.size) (fun W b => ⟨Nat.le_trans D3.out.bb.2 b.size, b.size⟩)
      go_region_law (refine step_appG4 _ rfl _ _ 24 rfl W3.heap.size 35 iG _ 2 32 Tryz.underlying24 hiG hziG0 hziG1 hziG2 rfl (by decide) v D.length (sgsP D) rfl (OWH.out _ (allocBP w3 _).drew) ⟨w3.heap.size, 0, none⟩ 1 1 [.int .i64 sd, .slice (some ⟨g3, 0, none⟩) sl.length c3] rfl rfl (cell_two_new w3 _ _ _) (by intro u hu; simp at hu; rcases hu with rfl | rfl <;> rfl) NG.out.1 NG.out.2 (BSH.out _ (allocBP w3 _).drew).1 ?_; intro v5 w5 k1 k2 k3 k4; have G5 := Lib.hid (GRH.out _ _ _ k2 (allocBP w3 _).drew); have P5 := Lib.hid (p := v5.ownBlock = Value.ownBlock v ∨ ∃ k, v5.ownBlock = some k ∧ w3.heap.size ≤ k) (k4.imp id (fun q => ⟨_, q, (BSH.out _ (allocBP w3 _).drew).2⟩)); have O5 := Lib.hid k1; clear k1 k2 k3 k4)
      all_goals
        go_wp2
        go_roundw
        case rel =>
          have O3' : w3.ownsRow wr.heap.size 37 3 (.slice (some ⟨g3, 0, none⟩) (sl.length + 2) c3) (sl.length + 2) (icsP sl ++ icell i77 ++ icell i77) := by rw [List.append_assoc]; exact O3.out
          have X := D3.out.add ⟨wr.heap.size, w3.heap.size, 37, 3, .slice (some ⟨g3, 0, none⟩) (sl.length + 2) c3, sl.length + 2, icsP sl ++ icell i77 ++ icell i77⟩ ⟨O3', fun b e => (O3'.lt b e).2⟩ DD.out.cs.sz (Nat.le_refl _) (fun b e => (DD.out.own.lt b e).2)
          refine ⟨D ++ [⟨sd, some ⟨g3, 0, none⟩, c3, sl⟩], _, _, rfl, ?_, X.next ⟨sd, some ⟨g3, 0, none⟩, c3, sl⟩ G5.out O5.out P5.out hlt ?_ ⟨g3, _, _, rfl, List.mem_cons_self⟩, cp_more MM1.out, cp_more MM2.out, cp_more MM3.out⟩
          · simp
          · show _ = (days.getD D.length default).key; rw [HS.out]; rfl
        case measure => simp [intOf]; omega
    · have el : D.length = days.length := by have := hD.le; simp only at this; omega
      have NG := Lib.hid (p := D.length + 2 ≤ maxLen ∧ (D.length + 2) * 32 ≤ 140737488355328) (by have := HD.out.2.2.1; unfold maxLen; omega)
      have KY := Lib.hid hD.keys
      have MKS := Lib.hid hD.mks
      have elc : days.length ≤ D.length := by omega
      have EL := Lib.hid el
      clear hD hM1 hM2 hM3 el
      go_wp2_with (at_builtin; refine wpList_append_own_at _ rfl _ _ 24 rfl W3.heap.size 35 iG _ 2 32 Tryz.underlying24 hiG hziG0 hziG1 hziG2 rfl (by decide) v D.length (sgsP D) rfl (DD.out.own.alloc _) ⟨wr.heap.size, 0, none⟩ 2 2 [.int .i64 (-77), .slice none 0 0, .int .i64 (-77), .slice none 0 0] rfl rfl (cell_four_new wr _ _ _ _ _) (by intro u hu; simp at hu; rcases hu with rfl | rfl | rfl | rfl <;> rfl) NG.out.1 NG.out.2 (Nat.le_trans DD.out.bb.2 (by simp)) ?_; intro v5 w5 k1 k2 k3 k4; obtain ⟨g5, c5, rfl, e5, _, _⟩ := row_someP k1 (fun e => by have := (k3.1 e).2; omega); have e6 : days.length ≤ c5 := (by omega); have O5 := Lib.hid k1; have S5 := Lib.hid (((DD.out.cs.alloc _).far k2 (fun k e => Nat.le_trans DD.out.bb.1 (DD.out.own.lt k e).1) (fun r hr k e => DD.out.far r hr k e)).add ⟨W3.heap.size, w5.heap.size, 35, 2, .slice (some ⟨g5, 0, none⟩) (D.length + 2) c5, D.length + 2, _⟩ ⟨k1, fun b e => (k1.lt b e).2⟩ DD.out.bb.1 (Nat.le_refl _)); have y7 := S5.out.b0.cell 7; have y8 := S5.out.b0.frozen 7; simp at y7; have S6 := Lib.hid (S5.out.setQ 7 (by simp) (.slice (some ⟨g5, 0, none⟩) days.length c5)); clear k1 k2 k3 k4 e5; obtain ⟨W6, hW6⟩ : ∃ W, w5.setCell ⟨w.heap.size, 7, none⟩ (.slice (some ⟨g5, 0, none⟩) days.length c5) = W := ⟨_, rfl⟩; rw [hW6] at S6; simp at S6; have x0 := S6.out.b0.cell 0; have x1 := S6.out.b0.cell 1; have x2 := S6.out.b0.cell 2; have x3 := S6.out.b0.cell 3; have x4 := S6.out.b0.cell 4; have x5 := S6.out.b0.cell 5; have x6 := S6.out.b0.cell 6; have x7 := S6.out.b0.cell 7; have r0 := S6.out.b1.cell 0; have r1 := S6.out.b1.cell 1; have r2 := S6.out.b1.cell 2; have r3 := S6.out.b1.cell 3; have r4 := S6.out.b1.cell 4; have r5 := S6.out.b1.cell 5; have r6 := S6.out.b1.cell 6; have r7 := S6.out.b1.cell 7; have f0 := S6.out.b1.frozen 0; have f1 := S6.out.b1.frozen 1; have f2 := S6.out.b1.frozen 2; have f3 := S6.out.b1.frozen 3; have f4 := S6.out.b1.frozen 4; have f5 := S6.out.b1.frozen 5; have f6 := S6.out.b1.frozen 6; have f7 := S6.out.b1.frozen 7; simp [pz] at x0 x1 x2 x3 x4 x5 x6 x7 r0 r1 r2 r3 r4 r5 r6 r7)
      have FF := Lib.hid (S6.out.fin (.slice (some ⟨g0, 0, none⟩) names.length c0) (.slice (some ⟨g1, 0, none⟩) curs.length c1) (.slice (some ⟨g2, 0, none⟩) pool.length c2) (.int .i64 hor) (.int .i64 cells) (.int .i64 slots) (.int .i64 stack) (.slice (some ⟨g5, 0, none⟩) days.length c5))
      obtain ⟨f1, f2, f3, f4⟩ := FF.out _ rfl
      have k0 := f3.cell 0
      have k1 := f3.cell 1
      have k2 := f3.cell 2
      have k3 := f3.cell 3
      have k4 := f3.cell 4
      have k5 := f3.cell 5
      have k6 := f3.cell 6
      have k7 := f3.cell 7
      simp only [List.getElem?_toArray, List.getElem?_cons_zero, List.getElem?_cons_succ] at k0 k1 k2 k3 k4 k5 k6 k7
      refine bodyPost_ret (v := .agg #[.slice (some ⟨g0, 0, none⟩) names.length c0, .slice (some ⟨g1, 0, none⟩) curs.length c1, .slice (some ⟨g2, 0, none⟩) pool.length c2, .int .i64 hor, .int .i64 cells, .int .i64 slots, .int .i64 stack, .slice (some ⟨g5, 0, none⟩) days.length c5]) (by simp [results, Tryz.results4, go_sem, k0, k1, k2, k3, k4, k5, k6, k7]) rfl ?_
      refine ⟨⟨some ⟨g0, 0, none⟩, c0, names, some ⟨g1, 0, none⟩, c1, curs, some ⟨g2, 0, none⟩, c2, pool, hor, cells, slots, stack, some ⟨g5, 0, none⟩, c5, D⟩, ?_, ?_, ?_⟩
      · show Ending.returned _ = Ending.returned (.agg _); simp only [EL.out]
      · refine ⟨?_, (cp_more MM1.out).out f2, (cp_more MM2.out).out f2, (cp_more MM3.out).out f2, ?_, fun i hi => (cp_more (MKS.out i hi)).out f2⟩
        · have := KY.out
          simp only [EL.out, List.take_length] at this
          unfold Pg.key
          simp only [this]
        · have := (f2 _ List.mem_cons_self).own
          refine ⟨g5, W3.heap.size, rfl, ?_⟩
          rw [List.append_assoc]
          exact this
      · exact f1
end Go.Proofs.YtlcidigcecmnpaaGreatDoor

namespace Go.Proofs.YtlcidigcecmnpaaGreatDoor
open Go.RowKit
set_option linter.unusedVariables false
set_option linter.unusedSimpArgs false
set_option maxRecDepth 100000 in
set_option maxHeartbeats 1000000 in
theorem sameTexts13_any {w : World} {a a' : Option Addr} {n c c' : Nat} {ss : List ByteArray} (h : SR w a n c ss) (h' : SR w a' n c' ss) :
    Calls Tryz.prog 14 #[.slice a n c, .slice a' n c'] w fun e w' => e = .returned (.bool true) ∧ ∃ q, w' = w.drewN q := by
  obtain ⟨_, l1, b1, _, r1⟩ := h
  obtain ⟨_, l2, b2, _, r2⟩ := h'
  have HA := Lib.hid (r1.twoP r2)
  clear l1 l2 r1 r2
  go_enter Tryz.func14, Tryz.ntmps14
  go_wp2
  go_loopw [5] (fun t wr => ∃ k : Nat, k ≤ n ∧ t = .int .i64 k ∧ ∃ q, wr = w.drewN q) (fun t _ => n - (intOf t).toNat)
  case atStart => exact ⟨0, by omega, rfl, 0, rfl⟩
  case round =>
    obtain ⟨k, hk, rfl, q, rfl⟩ := hrel
    by_cases hlt : k < n
    · obtain ⟨x, o, y, p, rfl, rfl, hc⟩ := HA.out (by omega)
      obtain ⟨c0, d0⟩ := hc k hlt 0 (by omega)
      simp only [Nat.mul_one, Nat.add_zero, List.getD_cons_zero] at c0 d0
      have kc : (k : Int) < (n : Int) := by omega
      clear hc
      generalize ss.getD k default = z at *
      go_wp2
      go_quiet (fail)
      go_wp2
      go_roundw
      case rel => exact ⟨k + 1, by omega, by go_num, _, by first | rfl | exact World.drewN_drewN _ _ _⟩
      case measure => simp [intOf]; omega
    · obtain rfl : k = n := by omega
      go_wp2
      go_ret
      exact ⟨rfl, _, rfl⟩
set_option maxRecDepth 100000 in
set_option maxHeartbeats 1000000 in
theorem sameInts13_any {w : World} {a a' : Option Addr} {n c c' : Nat} {ss : List Int} (h : NR w a n c ss) (h' : NR w a' n c' ss) :
    Calls Tryz.prog 15 #[.slice a n c, .slice a' n c'] w fun e w' => e = .returned (.bool true) ∧ ∃ q, w' = w.drewN q := by
  obtain ⟨_, l1, b1, _, r1⟩ := h
  obtain ⟨_, l2, b2, _, r2⟩ := h'
  have HA := Lib.hid (r1.twoP r2)
  clear l1 l2 r1 r2
  go_enter Tryz.func15, Tryz.ntmps15
  go_wp2
  go_loopw [5] (fun t wr => ∃ k : Nat, k ≤ n ∧ t = .int .i64 k ∧ ∃ q, wr = w.drewN q) (fun t _ => n - (intOf t).toNat)
  case atStart => exact ⟨0, by omega, rfl, 0, rfl⟩
  case round =>
    obtain ⟨k, hk, rfl, q, rfl⟩ := hrel
    by_cases hlt : k < n
    · obtain ⟨x, o, y, p, rfl, rfl, hc⟩ := HA.out (by omega)
      obtain ⟨c0, d0⟩ := hc k hlt 0 (by omega)
      simp only [Nat.mul_one, Nat.add_zero, List.getD_cons_zero] at c0 d0
      have kc : (k : Int) < (n : Int) := by omega
      clear hc
      generalize ss.getD k 0 = z at *
      go_wp2
      go_quiet (fail)
      go_wp2
      go_roundw
      case rel => exact ⟨k + 1, by omega, by go_num, _, by first | rfl | exact World.drewN_drewN _ _ _⟩
      case measure => simp [intOf]; omega
    · obtain rfl : k = n := by omega
      go_wp2
      go_ret
      exact ⟨rfl, _, rfl⟩
set_option maxRecDepth 100000 in
set_option maxHeartbeats 1000000 in
theorem sameCode13_any {w : World} {a a' : Option Addr} {n c c' : Nat} {ss : List In} (h : IR w a n c ss) (h' : IR w a' n c' ss) :
    Calls Tryz.prog 16 #[.slice a n c, .slice a' n c'] w fun e w' => e = .returned (.bool true) ∧ ∃ q, w' = w.drewN q := by
  obtain ⟨_, l1, b1, _, r1⟩ := h
  obtain ⟨_, l2, b2, _, r2⟩ := h'
  have HA := Lib.hid (r1.twoP r2)
  clear l1 l2 r1 r2
  go_enter Tryz.func16, Tryz.ntmps16
  go_wp2
  go_loopw [5] (fun t wr => ∃ k : Nat, k ≤ n ∧ t = .int .i64 k ∧ ∃ q, wr = w.drewN q) (fun t _ => n - (intOf t).toNat)
  case atStart => exact ⟨0, by omega, rfl, 0, rfl⟩
  case round =>
    obtain ⟨k, hk, rfl, q, rfl⟩ := hrel
    by_cases hlt : k < n
    · obtain ⟨x, o, y, p, rfl, rfl, hc⟩ := HA.out (by omega)
      obtain ⟨c0, d0⟩ := hc k hlt 0 (by omega)
      obtain ⟨c1, d1⟩ := hc k hlt 1 (by omega)
      obtain ⟨c2, d2⟩ := hc k hlt 2 (by omega)
      simp only [icell, Nat.add_zero, List.getD_cons_zero, List.getD_cons_succ] at c0 d0 c1 d1 c2 d2
      have kc : (k : Int) < (n : Int) := by omega
      clear hc
      generalize ss.getD k default = z at *
      obtain ⟨zo, za, zb⟩ := z
      simp only at c0 d0 c1 d1 c2 d2
      go_wp2
      go_quiet (fail)
      go_wp2
      go_roundw
      case rel => exact ⟨k + 1, by omega, by go_num, _, by first | rfl | exact World.drewN_drewN _ _ _⟩
      case measure => simp [intOf]; omega
    · obtain rfl : k = n := by omega
      go_wp2
      go_ret
      exact ⟨rfl, _, rfl⟩
theorem bel_hp {W W' : World} (h1 : W'.heap = W.heap) (h2 : W'.os = W.os) (h3 : W'.tape = W.tape) (h4 : W'.output = W.output) : Below W.heap.size W W' := ⟨h2, h3, h4, by rw [h1]; exact Nat.le_refl _, fun k hk => by rw [h1]⟩
theorem two_box13 (w : World) (o1 o2 : Obj) : ((w.alloc o1).alloc o2).heap[w.heap.size]? = some o1 ∧ ((w.alloc o1).alloc o2).heap[w.heap.size + 1]? = some o2 :=
  ⟨(Below.heap_alloc _ _ _ (by simp)).trans (heapN w o1), by simpa using heapN (w.alloc o1) o2⟩
theorem box_all813 {w : World} {x : Nat} {a b c d e f g h : Value} {t : TypeId} (k : w.heap[x]? = some (.cells #[a, b, c, d, e, f, g, h] t)) : w.cell? ⟨x, 0, none⟩ = some a ∧ w.cell? ⟨x, 1, none⟩ = some b ∧ w.cell? ⟨x, 2, none⟩ = some c ∧ w.cell? ⟨x, 3, none⟩ = some d ∧ w.cell? ⟨x, 4, none⟩ = some e ∧ w.cell? ⟨x, 5, none⟩ = some f ∧ w.cell? ⟨x, 6, none⟩ = some g ∧ w.cell? ⟨x, 7, none⟩ = some h := by
  refine ⟨?_, ?_, ?_, ?_, ?_, ?_, ?_, ?_⟩ <;> simp [World.cell?, k]
set_option maxRecDepth 100000 in
set_option maxHeartbeats 40000000 in
theorem same13_any {w : World} {p q : Pg} (h : PV w p) (h' : PV w q) (hk : q.key = p.key) :
    Calls Tryz.prog 7 #[p.agg, q.agg] w fun e w' => e = .returned (.bool true) ∧ Below w.heap.size w w' := by
  obtain ⟨k0, k1, k2, k3, k4, k5, k6, k7⟩ := key_of hk
  have nl : q.days.length = p.days.length := by have := congrArg List.length k7; simpa using this
  have DK := Lib.hid (p := ∀ i, (q.days.getD i default).key = (p.days.getD i default).key) (keys_at k7)
  have HP := Lib.hid h
  have HQ := Lib.hid h'
  clear h h' hk k7
  unfold Pg.agg
  have B0 := Lib.hid (alloc2 w p.box q.box)
  unfold Pg.box at B0
  obtain ⟨na, nc, names, ua, uc, curs, pa, pc, pool, hor, cells, slots, stack, da, dc, days⟩ := p
  obtain ⟨na', nc', names', ua', uc', curs', pa', pc', pool', hor', cells', slots', stack', da', dc', days'⟩ := q
  simp only at k0 k1 k2 k3 k4 k5 k6 nl DK B0 ⊢
  subst k0 k1 k2 k3 k4 k5 k6
  have KN := Lib.hid (fun W (b : Below w.heap.size w W) => sameTexts13_any (HP.out.names.later b) (HQ.out.names.later b))
  have KU := Lib.hid (fun W (b : Below w.heap.size w W) => sameTexts13_any (HP.out.curs.later b) (HQ.out.curs.later b))
  have KP := Lib.hid (fun W (b : Below w.heap.size w W) => sameInts13_any (HP.out.pool.later b) (HQ.out.pool.later b))
  have DR := Lib.hid (fun W (b : Below w.heap.size w W) => (HP.out.days.2.2.2.2.later b))
  have ER := Lib.hid (fun W (b : Below w.heap.size w W) => (HQ.out.days.2.2.2.2.later b))
  have DG := Lib.hid HP.out.days.2.2.2.1
  have EG := Lib.hid HQ.out.days.2.2.2.1
  have db := HP.out.days.2.2.1
  simp only at KN KU KP DR ER DG EG db
  clear HP HQ
  generalize hd : days.length = nd at *
  generalize hd' : days'.length = nd' at *
  subst nl
  have LD := Lib.hid hd
  have LD' := Lib.hid hd'
  clear hd hd'
  have Q1 : True := trivial
  go_enter Tryz.func7, Tryz.ntmps7
  go_wp2_with (first
    | (go_at_call 14; have qq := Q1; refine (KN.out _ B0.out).mono ?_; rintro e w1 ⟨rfl, q1, rfl⟩; have B1 := Lib.hid (B0.out.trans ((drewBP _ q1).mono B0.out.size)); clear Q1)
    | (go_at_call 14; refine (KU.out _ B1.out).mono ?_; rintro e w2 ⟨rfl, q2, rfl⟩; have B2 := B1.out.trans ((drewBP _ q2).mono B1.out.size); rw [World.drewN_drewN] at B2; have B2 := Lib.hid B2)
    | (go_at_call 15; refine (KP.out _ B2.out).mono ?_; rintro e w3 ⟨rfl, q3, rfl⟩))
  clear KN KU KP B1 B2
  obtain ⟨tb1, tb2⟩ := two_box13 w (.cells #[.slice na names'.length nc, .slice ua curs'.length uc, .slice pa pool'.length pc, .int .i64 hor', .int .i64 cells', .int .i64 slots', .int .i64 stack', .slice da nd' dc] 26) (.cells #[.slice na' names'.length nc', .slice ua' curs'.length uc', .slice pa' pool'.length pc', .int .i64 hor', .int .i64 cells', .int .i64 slots', .int .i64 stack', .slice da' nd' dc'] 26)
  generalize hW0 : (w.alloc (.cells #[.slice na names'.length nc, .slice ua curs'.length uc, .slice pa pool'.length pc, .int .i64 hor', .int .i64 cells', .int .i64 slots', .int .i64 stack', .slice da nd' dc] 26)).alloc (.cells #[.slice na' names'.length nc', .slice ua' curs'.length uc', .slice pa' pool'.length pc', .int .i64 hor', .int .i64 cells', .int .i64 slots', .int .i64 stack', .slice da' nd' dc'] 26) = W0 at *
  obtain ⟨_, _, x2, x3, x4, x5, x6, x7⟩ := box_all813 tb1
  obtain ⟨_, _, y2, y3, y4, y5, y6, y7⟩ := box_all813 tb2
  clear hW0 tb1 tb2
  go_loopw [5] (fun t wr => ∃ k : Nat, k ≤ nd' ∧ t = .int .i64 (k : Int) ∧ ∃ z, wr = W0.drewN z) (fun t _ => nd' - (intOf t).toNat)
  case atStart => exact ⟨0, by omega, rfl, _, rfl⟩
  case round =>
    obtain ⟨m, hm, rfl, z, rfl⟩ := hrel
    by_cases hlt : m < nd'
    · obtain ⟨x, o, y, p, rfl, rfl, hc⟩ := (DR.out _ B0.out).twoP (ER.out _ B0.out) (by omega)
      obtain ⟨c0, d0⟩ := hc m hlt 0 (by omega)
      obtain ⟨c1, d1⟩ := hc m hlt 1 (by omega)
      simp only [Sg.cs, Nat.add_zero, List.getD_cons_zero, List.getD_cons_succ] at c0 d0 c1 d1
      have kc : (m : Int) < (nd' : Int) := by omega
      have I1 := (DG.out _ (sg_mem (i := m) (by rw [LD.out]; exact hlt))).2
      have I2 := (EG.out _ (sg_mem (i := m) (by rw [LD'.out]; exact hlt))).2
      have ke := DK.out m
      clear hc
      generalize days.getD m default = s1 at *
      generalize days'.getD m default = s2 at *
      obtain ⟨sd, sa, sc, sl⟩ := s1
      obtain ⟨td, ta, tc, tl⟩ := s2
      unfold Sg.key at ke
      injection ke with e1 e2
      simp only at c0 d0 c1 d1 I1 I2 e1 e2
      subst e1 e2
      have KS := Lib.hid (fun W (b : Below w.heap.size w W) => sameCode13_any (I1.later b) (I2.later b))
      clear I1 I2
      go_wp2
      go_region_held3 (fun w' => w'.cell? ⟨x, o + m * 2, none⟩ = some (.int .i64 td) ∧ w'.cell? ⟨x, o + m * 2 + 1, none⟩ = some (.slice sa tl.length sc) ∧ w'.cell? ⟨y, p + m * 2, none⟩ = some (.int .i64 td) ∧ w'.cell? ⟨y, p + m * 2 + 1, none⟩ = some (.slice ta tl.length tc) ∧ w'.cell? ⟨w.heap.size, 7, none⟩ = some (.slice (some ⟨x, o, none⟩) nd' dc) ∧ w'.cell? ⟨w.heap.size + 1, 7, none⟩ = some (.slice (some ⟨y, p, none⟩) nd' dc'))
        (refine ⟨?_, ?_, ?_, ?_, ?_, ?_⟩ <;> first | assumption | (go_simp; done))
        (first
        | (go_at_call 16; refine (KS.out _ (by exact B0.out.trans ((drewBP _ _).mono B0.out.size))).mono ?_; rintro e w3 ⟨rfl, i3, rfl⟩))
      go_wp2
      go_roundw
      case rel => exact ⟨m + 1, by omega, by go_num, _, by first | rfl | simp only [World.drewN_drewN]⟩
      case measure => simp [intOf]; omega
    · obtain rfl : m = nd' := by omega
      go_wp2
      go_ret
      exact ⟨rfl, B0.out.trans ((drewBP _ _).mono B0.out.size)⟩
end Go.Proofs.YtlcidigcecmnpaaGreatDoor

namespace Go.Proofs.YtlcidigcecmnpaaGreatDoor
open Go.RowKit
set_option linter.unusedVariables false
set_option linter.unusedSimpArgs false
theorem cpw_hd {W : World} {a : Option Addr} {c n : Nat} {T : TypeId} {k : Nat} {xs : List Value} (h : CpW W a c n T k xs) : Hd a n c := by
  obtain ⟨g, B, rfl, h⟩ := h
  have := own_capP h
  exact ⟨(fun e => by cases e), by omega, this.2.1⟩
theorem cpw_sr {W : World} {a : Option Addr} {c : Nat} {ss : List ByteArray} {m : List Value} (h : CpW W a c ss.length 9 1 (strsP ss ++ m)) (h1 : ss.length ≤ 8796093021952) (h2 : ∀ s ∈ ss, s.size ≤ 140737488351232) : SR W a ss.length c ss := by
  refine ⟨cpw_hd h, rfl, h1, h2, ?_⟩
  obtain ⟨g, B, rfl, h⟩ := h
  refine .inr ⟨g, 0, rfl, (own_capP h).2.2, fun i hi j hj => ?_⟩
  obtain rfl : j = 0 := by omega
  have := own_cellsP h i _ (strsP_at ss m i hi)
  simpa using this
theorem cpw_nr {W : World} {a : Option Addr} {c : Nat} {l : List Int} {m : List Value} (h : CpW W a c l.length 3 1 (intsP l ++ m)) (h1 : l.length ≤ 17592186043904) (h2 : ∀ i ∈ l, i64 i) : NR W a l.length c l := by
  refine ⟨cpw_hd h, rfl, h1, h2, ?_⟩
  obtain ⟨g, B, rfl, h⟩ := h
  refine .inr ⟨g, 0, rfl, (own_capP h).2.2, fun i hi j hj => ?_⟩
  obtain rfl : j = 0 := by omega
  have := own_cellsP h i _ (intsP_at l m i hi)
  simpa using this
theorem cpw_ir {W : World} {a : Option Addr} {c : Nat} {l : List In} {m m' : List Value} (h : CpW W a c l.length 37 3 (icsP l ++ m ++ m')) (h1 : l.length ≤ 5864062014634) (h2 : ∀ i ∈ l, i64 i.o ∧ i64 i.a ∧ i64 i.b) : IR W a l.length c l := by
  refine ⟨cpw_hd h, rfl, h1, h2, ?_⟩
  obtain ⟨g, B, rfl, h⟩ := h
  rw [List.append_assoc] at h
  refine .inr ⟨g, 0, rfl, (own_capP h).2.2, fun i hi j hj => ?_⟩
  have e : (icsP l ++ (m ++ m'))[i * 3 + j]? = some ((icell (l.getD i default)).getD j default) := by
    rw [List.getElem?_append_left (by rw [icsP_len]; omega), icsP_at l i hi j hj]
    have : j < (icell (l.getD i default)).length := hj
    generalize icell (l.getD i default) = z at *
    simp [List.getD, this]
  have := own_cellsP h (i * 3 + j) _ e
  rw [Nat.zero_add]
  exact this
theorem sgsP_len (l : List Sg) : (sgsP l).length = l.length * 2 := by
  induction l with
  | nil => rfl
  | cons x r ih =>
    have e : sgsP (x :: r) = x.cs ++ sgsP r := rfl
    rw [e, List.length_append, ih, List.length_cons]
    show 2 + r.length * 2 = _
    omega
/-- A copy is a program. -/
theorem CpE.pv {w W : World} {p q : Pg} (hp : PV w p) (h : CpE W p q) : PV W q := by
  obtain ⟨k0, k1, k2, k3, k4, k5, k6, k7⟩ := key_of h.key
  have kl : q.days.length = p.days.length := by have := congrArg List.length k7; simpa using this
  refine ⟨cpw_sr h.mn (by rw [k0]; exact hp.names.2.2.1) (by rw [k0]; exact hp.names.2.2.2.1), cpw_sr h.mu (by rw [k1]; exact hp.curs.2.2.1) (by rw [k1]; exact hp.curs.2.2.2.1), cpw_nr h.mp (by rw [k2]; exact hp.pool.2.2.1) (by rw [k2]; exact hp.pool.2.2.2.1), by rw [k3]; exact hp.hor, by rw [k4]; exact hp.cells, by rw [k5]; exact hp.slots, by rw [k6]; exact hp.stack, ?_⟩
  have GVs : ∀ i, i < q.days.length → GV W (q.days.getD i default) := fun i hi => by
    have hg := hp.days.2.2.2.1 _ (sg_mem (i := i) (by omega))
    have e := key_days h.key i
    unfold Sg.key at e
    injection e with e1 e2
    refine ⟨by rw [e1]; exact hg.1, cpw_ir (h.mc i hi) (by rw [e2]; exact hg.2.2.2.1) (by rw [e2]; exact hg.2.2.2.2.1)⟩
  have GA : ∀ s ∈ q.days, GV W s := fun s hs => by
    obtain ⟨i, hi, rfl⟩ := List.getElem_of_mem hs
    have := GVs i hi
    simpa [List.getD, hi] using this
  have bd := hp.days.2.2.1
  have hh := cpw_hd h.md
  obtain ⟨g, B, e1, e2⟩ := h.md
  rw [List.append_assoc] at e2
  have hc := own_capP e2
  refine ⟨hh, rfl, by omega, GA, ?_⟩
  rw [e1]
  refine .inr ⟨g, 0, rfl, hc.2.2, fun i hi j hj => ?_⟩
  have e : (sgsP q.days ++ (s77.cs ++ s77.cs))[i * 2 + j]? = some (((q.days.getD i default).cs).getD j default) := by
    rw [List.getElem?_append_left (by rw [sgsP_len]; omega), sgsP_at _ i hi j hj]
    have : j < ((q.days.getD i default).cs).length := hj
    generalize (q.days.getD i default).cs = z at *
    simp [List.getD, this]
  have := own_cellsP e2 (i * 2 + j) _ e
  rw [Nat.zero_add]
  exact this
/-- The marks of a row. -/
theorem marks1 {W : World} {a : Option Addr} {c n : Nat} {T : TypeId} {l : List Value} {x y : Value} (h : CpW W a c n T 1 (l ++ [x, y])) (hl : l.length = n) : ∃ g, a = some ⟨g, 0, none⟩ ∧ g < W.heap.size ∧ n + 2 ≤ c ∧ W.cell? ⟨g, n, none⟩ = some x ∧ W.cell? ⟨g, n + 1, none⟩ = some y := by
  obtain ⟨g, B, rfl, h⟩ := h
  have hc := own_capP h
  exact ⟨g, rfl, hc.2.2, hc.1, own_cellsP h n x (by rw [List.getElem?_append_right (by omega), hl]; simp), own_cellsP h (n + 1) y (by rw [List.getElem?_append_right (by omega), hl]; simp)⟩
end Go.Proofs.YtlcidigcecmnpaaGreatDoor

namespace Go.Proofs.YtlcidigcecmnpaaGreatDoor
open Go.RowKit
set_option linter.unusedVariables false
set_option linter.unusedSimpArgs false
theorem marks2 {W : World} {a : Option Addr} {c n : Nat} {l : List Sg} (h : CpW W a c n 35 2 (sgsP l ++ s77.cs ++ s77.cs)) (hl : l.length = n) : ∃ g, a = some ⟨g, 0, none⟩ ∧ g < W.heap.size ∧ n + 2 ≤ c ∧ W.cell? ⟨g, n * 2, none⟩ = some (.int .i64 (-77)) ∧ W.cell? ⟨g, (n + 1) * 2, none⟩ = some (.int .i64 (-77)) := by
  obtain ⟨g, B, rfl, h⟩ := h
  have hc := own_capP h
  have el : (sgsP l).length = n * 2 := by rw [sgsP_len, hl]
  rw [List.append_assoc] at h
  refine ⟨g, rfl, hc.2.2, hc.1, own_cellsP h _ _ ?_, own_cellsP h _ _ ?_⟩
  · rw [List.getElem?_append_right (by omega), el, Nat.sub_self]; rfl
  · rw [List.getElem?_append_right (by omega), el, show (n + 1) * 2 - n * 2 = 2 by omega]; rfl
theorem marks3 {W : World} {a : Option Addr} {c n : Nat} {l : List In} (h : CpW W a c n 37 3 (icsP l ++ icell i77 ++ icell i77)) (hl : l.length = n) : ∃ g, a = some ⟨g, 0, none⟩ ∧ g < W.heap.size ∧ n + 2 ≤ c ∧ W.cell? ⟨g, n * 3, none⟩ = some (.int .i64 (-77)) ∧ W.cell? ⟨g, (n + 1) * 3, none⟩ = some (.int .i64 (-77)) := by
  obtain ⟨g, B, rfl, h⟩ := h
  have hc := own_capP h
  have el : (icsP l).length = n * 3 := by rw [icsP_len, hl]
  rw [List.append_assoc] at h
  refine ⟨g, rfl, hc.2.2, hc.1, own_cellsP h _ _ ?_, own_cellsP h _ _ ?_⟩
  · rw [List.getElem?_append_right (by omega), el, Nat.sub_self]; rfl
  · rw [List.getElem?_append_right (by omega), el, show (n + 1) * 3 - n * 3 = 3 by omega]; rfl
set_option maxRecDepth 100000 in
set_option maxHeartbeats 40000000 in
theorem left_any {w0 w : World} {p q : Pg} (hp : PV w0 p) (h : CpE w p q) :
    Calls Tryz.prog 8 #[q.agg] w fun e w' => e = .returned (.bool true) ∧ Below w.heap.size w w' := by
  have hq := h.pv hp
  have X0 := heapN w (.cells q.arr 26)
  have B0 := Lib.hid (allocBP w (.cells q.arr 26))
  have MC := Lib.hid h.mc
  have DR := Lib.hid hq.days
  obtain ⟨gn, en, ln, bn, n0, n1⟩ := marks1 h.mn (by simp [strsP])
  obtain ⟨gu, eu, lu, bu, u0, u1⟩ := marks1 h.mu (by simp [strsP])
  obtain ⟨gp, ep, lp, bp, p0, p1⟩ := marks1 h.mp (by simp [intsP])
  obtain ⟨gd, ed, ld, bd, d0, d1⟩ := marks2 h.md rfl
  have sn := hq.names.2.2.1
  have su := hq.curs.2.2.1
  have sp := hq.pool.2.2.1
  have sd := hq.days.2.2.1
  clear hq h hp
  obtain ⟨na, nc, names, ua, uc, curs, pa, pc, pool, hor, cells, slots, stack, da, dc, days⟩ := q
  unfold Pg.agg
  unfold Pg.arr at X0 B0
  simp only at *
  subst en eu ep ed
  generalize hn : names.length = nn at *
  generalize hu : curs.length = nu at *
  generalize hpl : pool.length = np at *
  generalize hd : days.length = nd at *
  have HDL := Lib.hid hd
  clear hn hu hpl hd
  obtain ⟨x0, x1, x2, x3, x4, x5, x6, x7⟩ := box_all813 X0
  generalize hW0 : w.alloc _ = W0 at *
  have n0' := (B0.out.cell (p := ⟨gn, nn, none⟩) ln).trans n0
  have n1' := (B0.out.cell (p := ⟨gn, nn + 1, none⟩) ln).trans n1
  have u0' := (B0.out.cell (p := ⟨gu, nu, none⟩) lu).trans u0
  have u1' := (B0.out.cell (p := ⟨gu, nu + 1, none⟩) lu).trans u1
  have p0' := (B0.out.cell (p := ⟨gp, np, none⟩) lp).trans p0
  have p1' := (B0.out.cell (p := ⟨gp, np + 1, none⟩) lp).trans p1
  have d0' := (B0.out.cell (p := ⟨gd, nd * 2, none⟩) ld).trans d0
  have d1' := (B0.out.cell (p := ⟨gd, (nd + 1) * 2, none⟩) ld).trans d1
  unfold mkV at n0' n1' u0' u1'
  unfold m77 at p0' p1'
  clear n0 n1 u0 u1 p0 p1 d0 d1 X0
  have wn : IntKind.i64.wrap ((nn : Int) + 2) = ((nn + 2 : Nat) : Int) := by simp [IntKind.wrap, IntKind.bits, IntKind.signed]; omega
  have wu : IntKind.i64.wrap ((nu : Int) + 2) = ((nu + 2 : Nat) : Int) := by simp [IntKind.wrap, IntKind.bits, IntKind.signed]; omega
  have wp : IntKind.i64.wrap ((np : Int) + 2) = ((np + 2 : Nat) : Int) := by simp [IntKind.wrap, IntKind.bits, IntKind.signed]; omega
  have wd : IntKind.i64.wrap ((nd : Int) + 2) = ((nd + 2 : Nat) : Int) := by simp [IntKind.wrap, IntKind.bits, IntKind.signed]; omega
  go_enter Tryz.func8, Tryz.ntmps8
  go_wp2
  clear n0' n1' u0' u1' p0' p1' d0' d1' wn wu wp wd x0 x1 x2 x3 x4 x5 x6 hW0
  go_loopw [7] (fun t wr => ∃ k : Nat, k ≤ nd ∧ t = .int .i64 (k : Int) ∧ ∃ z, wr = W0.drewN z) (fun t _ => nd - (intOf t).toNat)
  case atStart => exact ⟨0, by omega, rfl, 0, rfl⟩
  case round =>
    obtain ⟨m, hm, rfl, z, rfl⟩ := hrel
    by_cases hlt : m < nd
    · obtain ⟨x, o, ex, hx, hc⟩ : ∃ x o, (some ⟨gd, 0, none⟩ : Option Addr) = some ⟨x, o, none⟩ ∧ x < w.heap.size ∧ ∀ i, i < nd → ∀ j, j < 2 → w.cell? ⟨x, o + i * 2 + j, none⟩ = some (((days.getD i default).cs).getD j default) := by
        rcases DR.out.2.2.2.2 with q | ⟨b, o, e, h1, h2⟩
        · omega
        · exact ⟨b, o, e, h1, h2⟩
      injection ex with ex
      injection ex with ex1 ex2
      subst ex1 ex2
      have c1 := (B0.out.cell (p := ⟨gd, 0 + m * 2 + 1, none⟩) hx).trans (hc m hlt 1 (by omega))
      obtain ⟨gc, ec, lc, bc, y0, y1⟩ := marks3 (MC.out m hlt) rfl
      have sb := (DR.out.2.2.2.1 _ (sg_mem (i := m) (by rw [HDL.out]; exact hlt))).2.2.2.1
      simp only [Sg.cs, Nat.zero_add, List.getD_cons_zero, List.getD_cons_succ] at c1
      rw [ec] at c1
      have y0' := (B0.out.cell (p := ⟨gc, (days.getD m default).code.length * 3, none⟩) lc).trans y0
      have y1' := (B0.out.cell (p := ⟨gc, ((days.getD m default).code.length + 1) * 3, none⟩) lc).trans y1
      have kc : (m : Int) < (nd : Int) := by omega
      generalize (days.getD m default).code.length = nl at *
      generalize (days.getD m default).cc = cl at *
      have wl : IntKind.i64.wrap ((nl : Int) + 2) = ((nl + 2 : Nat) : Int) := by simp [IntKind.wrap, IntKind.bits, IntKind.signed]; omega
      clear hc y0 y1 ec hx
      go_wp2
      go_quiet (fail)
      go_wp2
      go_roundw
      case rel => exact ⟨m + 1, by omega, by go_num, _, by first | rfl | simp only [World.drewN_drewN]⟩
      case measure => simp [intOf]; omega
    · obtain rfl : m = nd := by omega
      go_wp2
      go_ret
      exact ⟨rfl, B0.out.trans ((drewBP _ _).mono B0.out.size)⟩
end Go.Proofs.YtlcidigcecmnpaaGreatDoor
