import Derived.Test.YtccjeipkljdhdaaGreatDoorXAE
namespace Go.Proofs.YtccjeipkljdhdaaGreatDoor
open Go.RowKit
set_option linter.unusedVariables false
set_option linter.unusedSimpArgs false

def mkV : Value := .string ⟨#[109, 97, 114, 107]⟩
def m77 : Value := .int .i64 (-77)
def i77 : In := ⟨-77, 0, 0⟩
def s77 : Sg := ⟨-77, none, 0, []⟩
/-- What stands while a copy is made: the box of the program that turns into the copy, that of the answer, the rows of the copy. -/
structure CS (w W : World) (q : Array Value) (L : List RF) : Prop where
  bel : Below w.heap.size w W
  b0 : BkP W w.heap.size q 27
  b1 : BkP W (w.heap.size + 1) pz 27
  rows : ∀ r ∈ L, r.at W ∧ w.heap.size + 2 ≤ r.lo ∧ r.hi ≤ W.heap.size
  sz : w.heap.size + 2 ≤ W.heap.size
  qs : q.size = 8
theorem CS.grown {w W W' : World} {q : Array Value} {L : List RF} (h : CS w W q L) {x : Option Nat} (g : W.grownBy W' x) (hx : ∀ k, x = some k → W.heap.size ≤ k) : CS w W' q L :=
  ⟨h.bel.grown g h.bel.size (fun k e => Nat.le_trans h.bel.size (hx k e)), h.b0.grown g (fun e => by have := hx _ e.symm; have := h.b0.lt; omega), h.b1.grown g (fun e => by have := hx _ e.symm; have := h.b1.lt; omega),
    fun r hr => ⟨(h.rows r hr).1.grown g (fun k e => .inr (Nat.le_trans (h.rows r hr).2.2 (hx k e))), (h.rows r hr).2.1, Nat.le_trans (h.rows r hr).2.2 g.size⟩, Nat.le_trans h.sz g.size, h.qs⟩
theorem CS.later {w W W' : World} {q : Array Value} {L : List RF} (h : CS w W q L) (b : Below W.heap.size W W') : CS w W' q L := h.grown (gr_below b none) (fun k e => by cases e)
theorem CS.alloc {w W : World} {q : Array Value} {L : List RF} (h : CS w W q L) (o : Obj) : CS w (W.alloc o) q L := h.later (allocBP W o)
theorem CS.add {w W : World} {q : Array Value} {L : List RF} (h : CS w W q L) (r : RF) (hr : r.at W) (h1 : w.heap.size + 2 ≤ r.lo) (h2 : r.hi ≤ W.heap.size) : CS w W q (r :: L) :=
  ⟨h.bel, h.b0, h.b1, fun x hx => by
    rcases List.mem_cons.1 hx with rfl | q
    · exact ⟨hr, h1, h2⟩
    · exact h.rows x q, h.sz, h.qs⟩
/-- A row of the copy's own turns, that lies among none of the others. -/
theorem CS.far {w W W' : World} {q : Array Value} {L : List RF} (h : CS w W q L) {x : Option Nat} (g : W.grownBy W' x) (h0 : ∀ k, x = some k → w.heap.size + 2 ≤ k) (h1 : ∀ r ∈ L, ∀ k, x = some k → r.hi ≤ k ∨ k < r.lo) : CS w W' q L :=
  ⟨h.bel.grown g h.bel.size (fun k e => by have := h0 k e; omega), h.b0.grown g (fun e => by have := h0 _ e.symm; omega), h.b1.grown g (fun e => by have := h0 _ e.symm; omega),
    fun r hr => ⟨(h.rows r hr).1.grown g (fun k e => by rcases h1 r hr k e with t | t; exact .inr t; exact .inl t), (h.rows r hr).2.1, Nat.le_trans (h.rows r hr).2.2 g.size⟩, Nat.le_trans h.sz g.size, h.qs⟩
/-- A list's copy: its row has two marks behind its end. -/
def CpL (a : Option Addr) (c n : Nat) (T : TypeId) (k : Nat) (xs : List Value) (L : List RF) : Prop :=
  ∃ g lo hi, a = some ⟨g, 0, none⟩ ∧ (⟨lo, hi, T, k, .slice (some ⟨g, 0, none⟩) (n + 2) c, n + 2, xs⟩ : RF) ∈ L
theorem cp_more {a : Option Addr} {c n : Nat} {T : TypeId} {k : Nat} {xs : List Value} {L : List RF} {r : RF} (h : CpL a c n T k xs L) : CpL a c n T k xs (r :: L) := by
  obtain ⟨g, lo, hi, h2, h3⟩ := h
  exact ⟨g, lo, hi, h2, List.mem_cons_of_mem _ h3⟩
def CpW (W : World) (a : Option Addr) (c n : Nat) (T : TypeId) (k : Nat) (xs : List Value) : Prop :=
  ∃ g B, a = some ⟨g, 0, none⟩ ∧ W.ownsRow B T k (.slice (some ⟨g, 0, none⟩) (n + 2) c) (n + 2) xs
theorem CpW.later {W W' : World} {a : Option Addr} {c n : Nat} {T : TypeId} {k : Nat} {xs : List Value} (h : CpW W a c n T k xs) (b : Below W.heap.size W W') : CpW W' a c n T k xs := by
  obtain ⟨g, B, h2, h3⟩ := h
  exact ⟨g, B, h2, row_farP h3 (gr_below b none) (fun k q e => by cases e)⟩
theorem CpL.out {W : World} {a : Option Addr} {c n : Nat} {T : TypeId} {k : Nat} {xs : List Value} {L : List RF} (h : CpL a c n T k xs L) (hL : ∀ r ∈ L, r.at W) : CpW W a c n T k xs := by
  obtain ⟨g, lo, hi, h2, h3⟩ := h
  exact ⟨g, lo, h2, (hL _ h3).own⟩
/-- An append of a list that came in, nil or not. -/
theorem wp_appH {w : World} {ops : Array Oper} {rest : List Oper} {o : Oper} {a : Act} {Q : Exit → Act → World → Prop} (hgd : o.guard = none) (s x : Operand) (t : TypeId)
    (ho : o.op = .call { callee := .builtin .append, args := #[s, x], argTypes := #[t, t] }) (base : Nat) (e : TypeId) (i : TypeInfo) (z : Value) (size bytes : Nat) (ht : Tryz.prog.underlying t = some (.slice e)) (hi : Tryz.prog.info? e = some i) (hz : i.zero = some z)
    (hsize : i.size = size) (hby : i.bytes = bytes) (hzs : z.cells.size = size) (hsz : 0 < size) (v : Value) (n : Nat) (xs : List Value) (hs : a.eval s = v) (hown : w.ownsRow base e size v n xs) (hv : v ≠ .slice none 0 0)
    (ad : Option Addr) (m c : Nat) (news : List Value) (hd : Hd ad m c) (hx : a.eval x = .slice ad m c) (hl : news.length = m * size) (hnews : ∀ y, ad = some y → ∀ j u, news[j]? = some u → w.cell? (y.add j) = some u) (h1 : ∀ u ∈ news, u.oneCell' = true)
    (h63 : n + m ≤ maxLen) (hbytes : (n + m) * bytes ≤ 140737488355328) (hbase : base ≤ w.heap.size)
    (h : ∀ v' w', w'.ownsRow base e size v' (n + m) (xs ++ news) → w.grownBy w' v.ownBlock → v' ≠ .slice none 0 0 → wpList Tryz.prog ops Q rest (a.put o.dst v') w') :
    wpList Tryz.prog ops Q (o :: rest) a w := by
  rcases ad with _ | y
  · obtain ⟨rfl, rfl⟩ := hd.1 rfl
    have e0 : news = [] := by simpa using hl
    subst e0
    refine wpList_append_own_none hgd s x t ho base e i size ht hi v n xs hs hown hx ?_
    exact h v w (by simpa using hown) (gr_below (Below.refl _ _) _) hv
  · refine wpList_append_own_at w hgd s x t ho base e i z size bytes ht hi hz hsize hby hzs hsz v n xs hs hown y m c news hx hl (hnews y rfl) h1 h63 hbytes hbase ?_
    intro v' w' k1 k2 k3 k4
    exact h v' w' k1 k2 (fun q => hv (k3.1 q).1)
theorem sr_newsH {W : World} {a : Option Addr} {n c : Nat} {ss : List ByteArray} (h : SR W a n c ss) : ∀ y, a = some y → ∀ j u, (strsP ss)[j]? = some u → W.cell? (y.add j) = some u := by
  rintro y rfl; exact sr_news h
/-- An empty row. -/
theorem lit_rowP (W : World) (T : TypeId) (k : Nat) : (W.alloc (.cells #[] T)).ownsRow W.heap.size T k (.slice (some ⟨W.heap.size, 0, none⟩) 0 0) 0 [] :=
  ⟨by rw [Nat.zero_mul]; rfl, .inr ⟨W.heap.size, 0, #[], rfl, Nat.le_refl _, heapN _ _, Nat.zero_le _, Nat.zero_le _, by simp, by rw [Nat.zero_mul]; rfl⟩⟩
/-- What stands while the days are copied: the days' row turns. -/
structure CD (w wr : World) (p : Pg) (q : Array Value) (B : Nat) (v : Value) (D : List Sg) (L : List RF) : Prop where
  cs : CS w wr q L
  own : wr.ownsRow B 39 2 v D.length (sgsP D)
  far : ∀ r ∈ L, ∀ b, v.ownBlock = some b → r.hi ≤ b ∨ b < r.lo
  bb : w.heap.size + 2 ≤ B ∧ B ≤ wr.heap.size
  le : D.length ≤ p.days.length
  keys : D.map Sg.key = (p.days.take D.length).map Sg.key
  mks : ∀ i, i < D.length → CpL (D.getD i default).ca (D.getD i default).cc (D.getD i default).code.length 42 3 (icsP (D.getD i default).code ++ icell i77 ++ icell i77) L
theorem CD.later {w W W' : World} {p : Pg} {q : Array Value} {B : Nat} {v : Value} {D : List Sg} {L : List RF} (h : CD w W p q B v D L) (b : Below W.heap.size W W') : CD w W' p q B v D L :=
  ⟨h.cs.later b, row_farP h.own (gr_below b none) (fun k q e => by cases e), h.far, ⟨h.bb.1, Nat.le_trans h.bb.2 b.size⟩, h.le, h.keys, h.mks⟩
theorem CD.add {w W : World} {p : Pg} {q : Array Value} {B : Nat} {v : Value} {D : List Sg} {L : List RF} (h : CD w W p q B v D L) (r : RF) (hr : r.at W) (h1 : w.heap.size + 2 ≤ r.lo) (h2 : r.hi ≤ W.heap.size) (h3 : ∀ b, v.ownBlock = some b → b < r.lo) : CD w W p q B v D (r :: L) :=
  ⟨h.cs.add r hr h1 h2, h.own, fun x hx b e => by
    rcases List.mem_cons.1 hx with rfl | q
    · exact .inr (h3 b e)
    · exact h.far x q b e, h.bb, h.le, h.keys, fun i hi => cp_more (h.mks i hi)⟩
theorem CD.next {w W W' : World} {p : Pg} {q : Array Value} {B : Nat} {v v' : Value} {D : List Sg} {L : List RF} (h : CD w W p q B v D L) (s : Sg) (g : W.grownBy W' v.ownBlock) (o : W'.ownsRow B 39 2 v' (D.length + 1) (sgsP D ++ s.cs)) (ho : v'.ownBlock = v.ownBlock ∨ ∃ k, v'.ownBlock = some k ∧ W.heap.size ≤ k) (hd : D.length < p.days.length)
    (hk : s.key = (p.days.getD D.length default).key) (hm : CpL s.ca s.cc s.code.length 42 3 (icsP s.code ++ icell i77 ++ icell i77) L) : CD w W' p q B v' (D ++ [s]) L := by
  have el : (D ++ [s]).length = D.length + 1 := by simp
  refine ⟨h.cs.far g (fun k e => by have := (h.own.lt k e).1; have := h.bb.1; omega) (fun r hr k e => h.far r hr k e), ?_, ?_, ⟨h.bb.1, Nat.le_trans h.bb.2 g.size⟩, by omega, ?_, ?_⟩
  · rw [el, sgsP_app, show sgsP [s] = s.cs by simp [sgsP]]; exact o
  · intro r hr b e
    rcases ho with q | ⟨k, q, hk⟩
    · exact h.far r hr b (q ▸ e)
    · rw [q] at e; injection e with e; subst e; exact .inl (Nat.le_trans (h.cs.rows r hr).2.2 hk)
  · rw [el, List.map_append, h.keys, List.take_succ_eq_append_getElem hd, List.map_append]
    simp only [List.map_cons, List.map_nil]
    rw [hk]
    simp [List.getD, hd]
  · intro i hi
    rw [el] at hi
    by_cases hlt : i < D.length
    · have e : (D ++ [s]).getD i default = D.getD i default := by simp [List.getD, List.getElem?_append_left hlt]
      rw [e]; exact h.mks i hlt
    · obtain rfl : i = D.length := by omega
      have e : (D ++ [s]).getD D.length default = s := by simp [List.getD]
      rw [e]; exact hm
/-- What a copy is. -/
structure CpE (W : World) (p q : Pg) : Prop where
  key : q.key = p.key
  mn : CpW W q.na q.nc q.names.length 9 1 (strsP q.names ++ [mkV, mkV])
  mu : CpW W q.ua q.uc q.curs.length 9 1 (strsP q.curs ++ [mkV, mkV])
  mp : CpW W q.pa q.pc q.pool.length 3 1 (intsP q.pool ++ [m77, m77])
  md : CpW W q.da q.dc q.days.length 39 2 (sgsP q.days ++ s77.cs ++ s77.cs)
  mc : ∀ i, i < q.days.length → CpW W (q.days.getD i default).ca (q.days.getD i default).cc (q.days.getD i default).code.length 42 3 (icsP (q.days.getD i default).code ++ icell i77 ++ icell i77)
theorem CpE.later {W W' : World} {p q : Pg} (h : CpE W p q) (b : Below W.heap.size W W') : CpE W' p q := ⟨h.key, h.mn.later b, h.mu.later b, h.mp.later b, h.md.later b, fun i hi => (h.mc i hi).later b⟩
/-- The answer's box is filled. -/
theorem CS.fin {w W : World} {q : Array Value} {L : List RF} (h : CS w W q L) (v0 v1 v2 v3 v4 v5 v6 v7 : Value) :
    ∀ W', W' = (((((((W.setCell ⟨w.heap.size + 1, 0, none⟩ v0).setCell ⟨w.heap.size + 1, 1, none⟩ v1).setCell ⟨w.heap.size + 1, 2, none⟩ v2).setCell ⟨w.heap.size + 1, 3, none⟩ v3).setCell ⟨w.heap.size + 1, 4, none⟩ v4).setCell ⟨w.heap.size + 1, 5, none⟩ v5).setCell ⟨w.heap.size + 1, 6, none⟩ v6).setCell ⟨w.heap.size + 1, 7, none⟩ v7 →
    Below w.heap.size w W' ∧ (∀ r ∈ L, r.at W') ∧ BkP W' (w.heap.size + 1) #[v0, v1, v2, v3, v4, v5, v6, v7] 27 ∧ W.grownBy W' (some (w.heap.size + 1)) := by
  intro W' hW'
  subst hW'
  have G : W.grownBy ((((((((W.setCell ⟨w.heap.size + 1, 0, none⟩ v0).setCell ⟨w.heap.size + 1, 1, none⟩ v1).setCell ⟨w.heap.size + 1, 2, none⟩ v2).setCell ⟨w.heap.size + 1, 3, none⟩ v3).setCell ⟨w.heap.size + 1, 4, none⟩ v4).setCell ⟨w.heap.size + 1, 5, none⟩ v5).setCell ⟨w.heap.size + 1, 6, none⟩ v6).setCell ⟨w.heap.size + 1, 7, none⟩ v7) (some (w.heap.size + 1)) :=
    (((((((setCell_gr _ _ _ _).trans (setCell_gr _ _ _ _)).trans (setCell_gr _ _ _ _)).trans (setCell_gr _ _ _ _)).trans (setCell_gr _ _ _ _)).trans (setCell_gr _ _ _ _)).trans (setCell_gr _ _ _ _)).trans (setCell_gr _ _ _ _)
  refine ⟨h.bel.grown G h.bel.size (fun k e => by injection e with e; omega), fun r hr => (h.rows r hr).1.grown G (fun k e => by injection e with e; have := (h.rows r hr).2.1; left; omega), ?_, G⟩
  have := (((((((h.b1.set 0 v0 (by simp [pz])).set 1 v1 (by simp [pz])).set 2 v2 (by simp [pz])).set 3 v3 (by simp [pz])).set 4 v4 (by simp [pz])).set 5 v5 (by simp [pz])).set 6 v6 (by simp [pz])).set 7 v7 (by simp [pz])
  exact this
end Go.Proofs.YtccjeipkljdhdaaGreatDoor
