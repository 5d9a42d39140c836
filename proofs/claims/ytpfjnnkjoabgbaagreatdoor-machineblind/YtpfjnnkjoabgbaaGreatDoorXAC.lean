import Derived.Test.YtpfjnnkjoabgbaaGreatDoorXAB
namespace Go.Proofs.YtpfjnnkjoabgbaaGreatDoor
open Go.RowKit
set_option linter.unusedVariables false
set_option linter.unusedSimpArgs false

def bhV : Value := .string ⟨#[66, 101, 104, 105, 110, 100]⟩
def strsP (ss : List ByteArray) : List Value := ss.map Value.string
def intsP (l : List Int) : List Value := l.map (Value.int .i64)
def icsP (l : List In) : List Value := l.flatMap icell
theorem sr_news {W : World} {x : Addr} {n c : Nat} {ss : List ByteArray} (h : SR W (some x) n c ss) : ∀ j u, (strsP ss)[j]? = some u → W.cell? (x.add j) = some u := by
  obtain ⟨_, hl, _, _, hr⟩ := h
  intro j u hj
  have hjn : j < ss.length := by have := (List.getElem?_eq_some_iff.1 hj).1; simpa [strsP] using this
  rcases hr with q | ⟨b, o, e, _, hc⟩
  · omega
  · injection e with e
    subst e
    have h := hc j (by omega) 0 (by omega)
    rw [Go.Addr.add_lit]
    simp only [Nat.mul_one, Nat.add_zero, List.getD_cons_zero] at h
    rw [h]
    simp [strsP, hjn] at hj
    simp [List.getD, hjn, hj]
theorem nr_news {W : World} {x : Addr} {n c : Nat} {l : List Int} (h : NR W (some x) n c l) : ∀ j u, (intsP l)[j]? = some u → W.cell? (x.add j) = some u := by
  obtain ⟨_, hl, _, _, hr⟩ := h
  intro j u hj
  have hjn : j < l.length := by have := (List.getElem?_eq_some_iff.1 hj).1; simpa [intsP] using this
  rcases hr with q | ⟨b, o, e, _, hc⟩
  · omega
  · injection e with e
    subst e
    have h := hc j (by omega) 0 (by omega)
    rw [Go.Addr.add_lit]
    simp only [Nat.mul_one, Nat.add_zero, List.getD_cons_zero] at h
    rw [h]
    simp [intsP, hjn] at hj
    simp [List.getD, hjn, hj]
/-- An append of a list, in a region that draws. -/
theorem step_appG {ops : Array Oper} {o : Oper} {a : Act} {K : Act → World → Prop} {Q : Exit → Act → World → Prop} {E : Prop} (w : World) (hgd : o.guard = none) (s x : Operand) (t : TypeId)
    (ho : o.op = .call { callee := .builtin .append, args := #[s, x], argTypes := #[t, t] }) (B : Nat) (e : TypeId) (i0 : TypeInfo) (z : Value) (size bytes : Nat) (ht : Tryz.prog.underlying t = some (.slice e)) (hi : Tryz.prog.info? e = some i0) (hz : i0.zero = some z) (h4 : i0.size = size) (h5 : i0.bytes = bytes) (h6 : z.cells.size = size) (h7 : 0 < size)
    (v : Value) (n : Nat) (xs : List Value) (hs : a.eval s = v) (hown : w.ownsRow B e size v n xs) (ad : Addr) (m c : Nat) (news : List Value) (hx : a.eval x = .slice (some ad) m c) (hl : news.length = m * size) (hnews : ∀ j u, news[j]? = some u → w.cell? (ad.add j) = some u) (h1 : ∀ u ∈ news, u.oneCell' = true)
    (h63 : n + m ≤ maxLen) (hbytes : (n + m) * bytes ≤ 140737488355328) (hb : B ≤ w.heap.size)
    (h : ∀ v' w', w'.ownsRow B e size v' (n + m) (xs ++ news) → w.grownBy w' v.ownBlock → (v' = .slice none 0 0 ↔ v = .slice none 0 0 ∧ m = 0) → K (a.put o.dst v') w') :
    if Region.wanted o (yielded ops a.tmps) = true then Oper.wp Tryz.prog o a w K Q else E := by
  rw [if_pos (by simp [Region.wanted, hgd])]
  obtain ⟨v', w', hr, h2, h3, h8, _⟩ := run_append_own_at (P := Tryz.prog) w B t o.type e i0 z size bytes ht hi hz h4 h5 h6 h7 v n xs hown ad m c news hl hnews h1 h63 hbytes hb
  unfold Oper.wp execOp
  simp only [ho, resolve, invoke, builtin, Sem.run_bind, Sem.run_pure, Result.andThen_ok, List.map_toArray, List.map_cons, List.map_nil, hs, hx, hr]
  exact h v' w' h2 h3 h8
theorem make_str (n : Nat) (hn : n ≤ 8796093021953) (W : World) : (Instr.makeSlice 22 (.int .i64 0) (.int .i64 ((n : Int) + 1))).run Tryz.prog W = .ok (.slice (some ⟨W.heap.size, 0, none⟩) 0 (n + 1)) (W.alloc (.cells (madeCells #[.string ⟨#[]⟩] (n + 1)) 9)) := by
  obtain ⟨i0, hi, hz0, hz1, hz2⟩ := info_parts infoPS
  have := run_make (P := Tryz.prog) W 22 9 i0 _ Tryz.underlying22 hi hz0 .i64 .i64 0 (n + 1) (by omega) (by omega) (by rw [hz2]; omega) (by omega)
  rw [hz1] at this
  simpa [Value.cells] using this
/-- A list's copy among the rows that stand. -/
def Mk (o a : Option Addr) (c n : Nat) (T : TypeId) (k : Nat) (xs : List Value) (L : List RF) : Prop :=
  (o = none ∧ a = none ∧ c = 0 ∧ n = 0) ∨ (o ≠ none ∧ ∃ g lo hi, a = some ⟨g, 0, none⟩ ∧ (⟨lo, hi, T, k, .slice (some ⟨g, 0, none⟩) (n + 1) c, n + 1, xs⟩ : RF) ∈ L)
theorem row_someP {w : World} {e : TypeId} {B k : Nat} {v : Value} {n : Nat} {xs : List Value} (h : w.ownsRow B e k v n xs) (h0 : v ≠ .slice none 0 0) : ∃ g cap, v = .slice (some ⟨g, 0, none⟩) n cap ∧ n ≤ cap ∧ B ≤ g ∧ g < w.heap.size := by
  rcases h.2 with ⟨q, _⟩ | ⟨g, cap, cur, e, hB, hg, hn, _⟩
  · exact absurd q h0
  · exact ⟨g, cap, e, hn, hB, (Array.getElem?_eq_some_iff.1 hg).1⟩
theorem make_int (n : Nat) (hn : n ≤ 17592186043905) (W : World) : (Instr.makeSlice 23 (.int .i64 0) (.int .i64 ((n : Int) + 1))).run Tryz.prog W = .ok (.slice (some ⟨W.heap.size, 0, none⟩) 0 (n + 1)) (W.alloc (.cells (madeCells #[.int .i64 0] (n + 1)) 3)) := by
  obtain ⟨i0, hi, hz0, hz1, hz2⟩ := info_parts infoPN
  have := run_make (P := Tryz.prog) W 23 3 i0 _ Tryz.underlying23 hi hz0 .i64 .i64 0 (n + 1) (by omega) (by omega) (by rw [hz2]; omega) (by omega)
  rw [hz1] at this
  simpa [Value.cells] using this
theorem mk_more {o a : Option Addr} {c n : Nat} {T : TypeId} {k : Nat} {xs : List Value} {L : List RF} {r : RF} (h : Mk o a c n T k xs L) : Mk o a c n T k xs (r :: L) := by
  rcases h with h | ⟨h1, g, lo, hi, h2, h3⟩
  · exact .inl h
  · exact .inr ⟨h1, g, lo, hi, h2, List.mem_cons_of_mem _ h3⟩
def m4711 : In := ⟨-4711, 0, 0⟩
def sgsP (l : List Sg) : List Value := l.flatMap Sg.cs
theorem sgsP_app (a b : List Sg) : sgsP (a ++ b) = sgsP a ++ sgsP b := by simp [sgsP]
theorem icsP_len (l : List In) : (icsP l).length = l.length * 3 := by
  induction l with
  | nil => rfl
  | cons x r ih => simp only [icsP, List.flatMap_cons, List.length_append, List.length_cons] at *; rw [ih]; simp [icell]; omega
theorem icsP_at (l : List In) : ∀ i, i < l.length → ∀ j, j < 3 → (icsP l)[i * 3 + j]? = (icell (l.getD i default))[j]? := by
  induction l with
  | nil => intro i hi; simp at hi
  | cons x r ih =>
    intro i hi j hj
    have e : icsP (x :: r) = icell x ++ icsP r := rfl
    have le : (icell x).length = 3 := rfl
    rw [e]
    match i with
    | 0 => rw [List.getElem?_append_left (by omega)]; simp
    | i + 1 =>
      rw [List.getElem?_append_right (by omega), le, show (i + 1) * 3 + j - 3 = i * 3 + j by omega, ih i (by simpa using hi) j hj]
      simp
theorem icsP_one (l : List In) : ∀ u ∈ icsP l, u.oneCell' = true := by
  intro u hu
  obtain ⟨i, _, h⟩ := List.mem_flatMap.1 hu
  simp [icell] at h
  rcases h with rfl | rfl | rfl <;> rfl
theorem ir_news {W : World} {x : Addr} {n c : Nat} {l : List In} (h : IR W (some x) n c l) : ∀ j u, (icsP l)[j]? = some u → W.cell? (x.add j) = some u := by
  obtain ⟨_, hl, _, _, hr⟩ := h
  intro j u hj
  have hjn : j < l.length * 3 := by have := (List.getElem?_eq_some_iff.1 hj).1; rwa [icsP_len] at this
  rcases hr with q | ⟨b, o, e, _, hc⟩
  · omega
  · injection e with e
    subst e
    obtain ⟨i, k, hi, hk, rfl⟩ : ∃ i k, i < l.length ∧ k < 3 ∧ j = i * 3 + k := ⟨j / 3, j % 3, by omega, by omega, by omega⟩
    have h := hc i (by omega) k hk
    rw [Go.Addr.add_lit, ← Nat.add_assoc, h, ← hj, icsP_at l i hi k hk]
    have : k < (icell (l.getD i default)).length := hk
    show some ((icell (l.getD i default)).getD k default) = _
    generalize icell (l.getD i default) = z at *
    simp [List.getD, this]
theorem make_ins3 (n : Nat) (hn : n ≤ 5864062014635) (W : World) : (Instr.makeSlice 69 (.int .i64 0) (.int .i64 ((n : Int) + 1))).run Tryz.prog W = .ok (.slice (some ⟨W.heap.size, 0, none⟩) 0 (n + 1)) (W.alloc (.cells (madeCells #[.int .i64 0, .int .i64 0, .int .i64 0] ((n + 1) * 3)) 68)) := by
  obtain ⟨i0, hi, hz0, hz1, hz2⟩ := info_parts infoPI
  have := run_make (P := Tryz.prog) W 69 68 i0 _ Tryz.underlying69 hi hz0 .i64 .i64 0 (n + 1) (by omega) (by omega) (by rw [hz2]; omega) (by omega)
  rw [hz1] at this
  simpa [Value.cells] using this
theorem make_seg (n : Nat) (hn : n ≤ 4398046510977) (W : World) : (Instr.makeSlice 24 (.int .i64 0) (.int .i64 ((n : Int) + 1))).run Tryz.prog W = .ok (.slice (some ⟨W.heap.size, 0, none⟩) 0 (n + 1)) (W.alloc (.cells (madeCells #[.int .i64 0, .slice none 0 0] ((n + 1) * 2)) 71)) := by
  obtain ⟨i0, hi, hz0, hz1, hz2⟩ := info_parts infoPG
  have := run_make (P := Tryz.prog) W 24 71 i0 _ Tryz.underlying24 hi hz0 .i64 .i64 0 (n + 1) (by omega) (by omega) (by rw [hz2]; omega) (by omega)
  rw [hz1] at this
  simpa [Value.cells] using this
theorem cell_two_new (w : World) (x y : Value) (t : TypeId) : ∀ j u, [x, y][j]? = some u → (w.alloc (.cells #[x, y] t)).cell? ((⟨w.heap.size, 0, none⟩ : Addr).add j) = some u := by
  intro j u hj
  match j, hj with
  | 0, hj => simp at hj; subst hj; simp [Addr.add]
  | 1, hj => simp at hj; subst hj; simp [Addr.add]
theorem cell_three_new (w : World) (x y z : Value) (t : TypeId) : ∀ j u, [x, y, z][j]? = some u → (w.alloc (.cells #[x, y, z] t)).cell? ((⟨w.heap.size, 0, none⟩ : Addr).add j) = some u := by
  intro j u hj
  match j, hj with
  | 0, hj => simp at hj; subst hj; simp [Addr.add]
  | 1, hj => simp at hj; subst hj; simp [Addr.add]
  | 2, hj => simp at hj; subst hj; simp [Addr.add]
/-- What stands while the days are copied. -/
structure OD (w wr : World) (p : Pg) (A : Value → Array Value) (gd n : Nat) (Q : List Sg) (L : List RF) : Prop where
  os : OS w wr p (A (.slice (some ⟨gd, 0, none⟩) Q.length (n + 1))) L
  own : wr.ownsRow gd 71 2 (.slice (some ⟨gd, 0, none⟩) Q.length (n + 1)) Q.length (sgsP Q)
  far : ∀ r ∈ L, r.hi ≤ gd ∨ gd < r.lo
  g0 : w.heap.size + 3 ≤ gd
  le : Q.length ≤ n
  keys : Q.map Sg.key = (p.days.take Q.length).map Sg.key
  mks : ∀ i, i < Q.length → Mk (p.days.getD i default).ca (Q.getD i default).ca (Q.getD i default).cc (Q.getD i default).code.length 68 3 (icsP (Q.getD i default).code ++ icell m4711) L
theorem OD.later {w W W' : World} {p : Pg} {A : Value → Array Value} {gd n : Nat} {Q : List Sg} {L : List RF} (h : OD w W p A gd n Q L) (b : Below W.heap.size W W') : OD w W' p A gd n Q L :=
  ⟨h.os.later b, row_farP h.own (gr_below b none) (fun k q e => by cases e), h.far, h.g0, h.le, h.keys, h.mks⟩
theorem OD.add {w W : World} {p : Pg} {A : Value → Array Value} {gd n : Nat} {Q : List Sg} {L : List RF} (h : OD w W p A gd n Q L) (r : RF) (hr : r.at W) (h1 : gd < r.lo) (h2 : r.hi ≤ W.heap.size) : OD w W p A gd n Q (r :: L) :=
  ⟨h.os.add r hr (by have := h.g0; omega) h2, h.own, fun x hx => by
    rcases List.mem_cons.1 hx with rfl | q
    · exact .inr h1
    · exact h.far x q, h.g0, h.le, h.keys, fun i hi => mk_more (h.mks i hi)⟩
theorem OD.glt {w W : World} {p : Pg} {A : Value → Array Value} {gd n : Nat} {Q : List Sg} {L : List RF} (h : OD w W p A gd n Q L) : gd < W.heap.size := (h.own.lt gd rfl).2
theorem OS.far {w W W' : World} {p : Pg} {q : Array Value} {L : List RF} (h : OS w W p q L) {gd : Nat} (g : W.grownBy W' (some gd)) (h0 : w.heap.size + 3 ≤ gd) (h1 : ∀ r ∈ L, r.hi ≤ gd ∨ gd < r.lo) : OS w W' p q L :=
  ⟨h.bel.grown g h.bel.size (fun k e => by injection e with e; omega), h.b0.grown g (fun e => by injection e with e; omega), h.b1.grown g (fun e => by injection e with e; omega), h.b2.grown g (fun e => by injection e with e; omega),
    fun r hr => ⟨(h.rows r hr).1.grown g (fun k e => by injection e with e; subst e; rcases h1 r hr with t | t; exact .inr t; exact .inl t), (h.rows r hr).2.1, Nat.le_trans (h.rows r hr).2.2 g.size⟩, Nat.le_trans h.sz g.size, h.qs⟩
theorem OD.next {w W W' : World} {p : Pg} {A : Value → Array Value} {gd n : Nat} {Q : List Sg} {L : List RF} (h : OD w W p A gd n Q L) (hA : ∀ v v' (k : 7 < (A v).size), (A v).set 7 v' k = A v') (s : Sg)
    (g : W.grownBy W' (some gd)) (o : W'.ownsRow gd 71 2 (.slice (some ⟨gd, 0, none⟩) (Q.length + 1) (n + 1)) (Q.length + 1) (sgsP Q ++ s.cs)) (hn : Q.length < n) (hd : Q.length < p.days.length)
    (hk : s.key = (p.days.getD Q.length default).key) (hm : Mk (p.days.getD Q.length default).ca s.ca s.cc s.code.length 68 3 (icsP s.code ++ icell m4711) L) :
    OD w (W'.setCell ⟨w.heap.size + 1 + 1, 7, none⟩ (.slice (some ⟨gd, 0, none⟩) (Q.length + 1) (n + 1))) p A gd n (Q ++ [s]) L := by
  have o1 := h.os.far g h.g0 h.far
  have o2 := o1.setQ 7 (by rw [o1.qs]; omega) (.slice (some ⟨gd, 0, none⟩) (Q.length + 1) (n + 1))
  rw [hA] at o2
  have el : (Q ++ [s]).length = Q.length + 1 := by simp
  refine ⟨by rw [el]; exact o2, ?_, h.far, h.g0, by rw [el]; omega, ?_, ?_⟩
  · rw [el, sgsP_app, show sgsP [s] = s.cs by simp [sgsP]]
    exact row_farP o (setCell_gr W' _ _ _) (fun k q e e2 => by injection e with e; have := Option.some.inj e2; have := h.g0; simp at *; omega)
  · rw [el, List.map_append, h.keys, List.take_succ_eq_append_getElem hd, List.map_append]
    simp only [List.map_cons, List.map_nil]
    rw [hk]
    simp [List.getD, hd]
  · intro i hi
    rw [el] at hi
    by_cases hlt : i < Q.length
    · have e : (Q ++ [s]).getD i default = Q.getD i default := by simp [List.getD, List.getElem?_append_left hlt]
      rw [e]; exact h.mks i hlt
    · obtain rfl : i = Q.length := by omega
      have e : (Q ++ [s]).getD Q.length default = s := by simp [List.getD]
      rw [e]; exact hm
/-- A list's copy, in the world that is left. -/
def MkW (W : World) (o a : Option Addr) (c n : Nat) (T : TypeId) (k : Nat) (xs : List Value) : Prop :=
  (o = none ∧ a = none ∧ c = 0 ∧ n = 0) ∨ (o ≠ none ∧ ∃ g B, a = some ⟨g, 0, none⟩ ∧ W.ownsRow B T k (.slice (some ⟨g, 0, none⟩) (n + 1) c) (n + 1) xs)
theorem MkW.later {W W' : World} {o a : Option Addr} {c n : Nat} {T : TypeId} {k : Nat} {xs : List Value} (h : MkW W o a c n T k xs) (b : Below W.heap.size W W') : MkW W' o a c n T k xs := by
  rcases h with h | ⟨h1, g, B, h2, h3⟩
  · exact .inl h
  · exact .inr ⟨h1, g, B, h2, row_farP h3 (gr_below b none) (fun k q e => by cases e)⟩
theorem Mk.out {W : World} {o a : Option Addr} {c n : Nat} {T : TypeId} {k : Nat} {xs : List Value} {L : List RF} (h : Mk o a c n T k xs L) (hL : ∀ r ∈ L, r.at W) : MkW W o a c n T k xs := by
  rcases h with h | ⟨h1, g, lo, hi, h2, h3⟩
  · exact .inl h
  · exact .inr ⟨h1, g, lo, h2, (hL _ h3).own⟩
/-- What a copy is. -/
structure OwnE (W : World) (p q : Pg) : Prop where
  key : q.key = p.key
  mn : MkW W p.na q.na q.nc q.names.length 9 1 (strsP q.names ++ [bhV])
  mu : MkW W p.ua q.ua q.uc q.curs.length 9 1 (strsP q.curs ++ [bhV])
  mp : MkW W p.pa q.pa q.pc q.pool.length 3 1 (intsP q.pool ++ [.int .i64 (-4711)])
  md : (q.da = none ∧ q.dc = 0 ∧ q.days = []) ∨ ∃ g B, q.da = some ⟨g, 0, none⟩ ∧ W.ownsRow B 71 2 (.slice (some ⟨g, 0, none⟩) q.days.length q.dc) q.days.length (sgsP q.days)
  mc : ∀ i, i < q.days.length → MkW W (p.days.getD i default).ca (q.days.getD i default).ca (q.days.getD i default).cc (q.days.getD i default).code.length 68 3 (icsP (q.days.getD i default).code ++ icell m4711)
theorem OwnE.later {W W' : World} {p q : Pg} (h : OwnE W p q) (b : Below W.heap.size W W') : OwnE W' p q := by
  refine ⟨h.key, h.mn.later b, h.mu.later b, h.mp.later b, ?_, fun i hi => (h.mc i hi).later b⟩
  rcases h.md with q | ⟨g, B, q1, q2⟩
  · exact .inl q
  · exact .inr ⟨g, B, q1, row_farP q2 (gr_below b none) (fun k q e => by cases e)⟩
/-- The answer's box is filled. -/
theorem OS.fin {w W : World} {p : Pg} {q : Array Value} {L : List RF} (h : OS w W p q L) (v0 v1 v2 v3 v4 v5 v6 v7 : Value) :
    ∀ W', W' = (((((((W.setCell ⟨w.heap.size + 1, 0, none⟩ v0).setCell ⟨w.heap.size + 1, 1, none⟩ v1).setCell ⟨w.heap.size + 1, 2, none⟩ v2).setCell ⟨w.heap.size + 1, 3, none⟩ v3).setCell ⟨w.heap.size + 1, 4, none⟩ v4).setCell ⟨w.heap.size + 1, 5, none⟩ v5).setCell ⟨w.heap.size + 1, 6, none⟩ v6).setCell ⟨w.heap.size + 1, 7, none⟩ v7 →
    Below w.heap.size w W' ∧ (∀ r ∈ L, r.at W') ∧ BkP W' (w.heap.size + 1) #[v0, v1, v2, v3, v4, v5, v6, v7] 26 ∧ W.grownBy W' (some (w.heap.size + 1)) := by
  intro W' hW'
  subst hW'
  have G : W.grownBy ((((((((W.setCell ⟨w.heap.size + 1, 0, none⟩ v0).setCell ⟨w.heap.size + 1, 1, none⟩ v1).setCell ⟨w.heap.size + 1, 2, none⟩ v2).setCell ⟨w.heap.size + 1, 3, none⟩ v3).setCell ⟨w.heap.size + 1, 4, none⟩ v4).setCell ⟨w.heap.size + 1, 5, none⟩ v5).setCell ⟨w.heap.size + 1, 6, none⟩ v6).setCell ⟨w.heap.size + 1, 7, none⟩ v7) (some (w.heap.size + 1)) :=
    (((((((setCell_gr _ _ _ _).trans (setCell_gr _ _ _ _)).trans (setCell_gr _ _ _ _)).trans (setCell_gr _ _ _ _)).trans (setCell_gr _ _ _ _)).trans (setCell_gr _ _ _ _)).trans (setCell_gr _ _ _ _)).trans (setCell_gr _ _ _ _)
  refine ⟨h.bel.grown G h.bel.size (fun k e => by injection e with e; omega), fun r hr => (h.rows r hr).1.grown G (fun k e => by injection e with e; have := (h.rows r hr).2.1; left; omega), ?_, G⟩
  have := (((((((h.b1.set 0 v0 (by simp [pz])).set 1 v1 (by simp [pz])).set 2 v2 (by simp [pz])).set 3 v3 (by simp [pz])).set 4 v4 (by simp [pz])).set 5 v5 (by simp [pz])).set 6 v6 (by simp [pz])).set 7 v7 (by simp [pz])
  exact this
end Go.Proofs.YtpfjnnkjoabgbaaGreatDoor

namespace Go.Proofs.YtpfjnnkjoabgbaaGreatDoor
open Go.RowKit
set_option linter.unusedVariables false
set_option linter.unusedSimpArgs false
theorem bel_dr {w W : World} (b : Below w.heap.size w W) (q : Nat) : Below w.heap.size w (W.drewN q) := b.trans ((drewBP W q).mono b.size)
theorem days_len {l l' : List Sg} (h : l.map Sg.key = l'.map Sg.key) : l.length = l'.length := by have := congrArg List.length h; simpa using this
theorem heap_newP (w : World) (o : Obj) : (w.alloc o).heap[w.heap.size]? = some o := by show (w.heap.push o)[w.heap.size]? = _; simp
theorem two_box (w : World) (o1 o2 : Obj) : ((w.alloc o1).alloc o2).heap[w.heap.size]? = some o1 ∧ ((w.alloc o1).alloc o2).heap[w.heap.size + 1]? = some o2 :=
  ⟨(Below.heap_alloc _ _ _ (by simp)).trans (heap_newP w o1), by simpa using heap_newP (w.alloc o1) o2⟩
theorem box_all8 {w : World} {x : Nat} {a b c d e f g h : Value} {t : TypeId} (k : w.heap[x]? = some (.cells #[a, b, c, d, e, f, g, h] t)) : w.cell? ⟨x, 0, none⟩ = some a ∧ w.cell? ⟨x, 1, none⟩ = some b ∧ w.cell? ⟨x, 2, none⟩ = some c ∧ w.cell? ⟨x, 3, none⟩ = some d ∧ w.cell? ⟨x, 4, none⟩ = some e ∧ w.cell? ⟨x, 5, none⟩ = some f ∧ w.cell? ⟨x, 6, none⟩ = some g ∧ w.cell? ⟨x, 7, none⟩ = some h := by
  refine ⟨?_, ?_, ?_, ?_, ?_, ?_, ?_, ?_⟩ <;> simp [World.cell?, k]
end Go.Proofs.YtpfjnnkjoabgbaaGreatDoor

namespace Go.Proofs.YtpfjnnkjoabgbaaGreatDoor
open Go.RowKit
set_option linter.unusedVariables false
set_option linter.unusedSimpArgs false
end Go.Proofs.YtpfjnnkjoabgbaaGreatDoor

namespace Go.Proofs.YtpfjnnkjoabgbaaGreatDoor
open Go.RowKit
set_option linter.unusedVariables false
set_option linter.unusedSimpArgs false
theorem own_cellsP {W : World} {B g k m c : Nat} {T : TypeId} {n : Nat} {xs : List Value} (h : W.ownsRow B T k (.slice (some ⟨g, 0, none⟩) m c) n xs) (j : Nat) (u : Value) (hj : xs[j]? = some u) : W.cell? ⟨g, j, none⟩ = some u := by
  have := h.cells (g := g) rfl j u hj
  rw [Go.Addr.add_lit, Nat.zero_add] at this
  exact this
theorem own_capP {W : World} {B g k m c : Nat} {T : TypeId} {n : Nat} {xs : List Value} (h : W.ownsRow B T k (.slice (some ⟨g, 0, none⟩) m c) n xs) : n ≤ c ∧ c ≤ maxLen ∧ g < W.heap.size := by
  rcases h.2 with ⟨q, _⟩ | ⟨g', cap', cur, e, _, hg, h1, h2, _⟩
  · cases q
  · injection e with e1 e2 e3
    injection e1 with e1
    injection e1 with e1
    subst e1 e3
    exact ⟨h1, h2, (Array.getElem?_eq_some_iff.1 hg).1⟩
theorem strsP_at (ss : List ByteArray) (m : List Value) (i : Nat) (h : i < ss.length) : (strsP ss ++ m)[i]? = some (.string (ss.getD i default)) := by
  rw [List.getElem?_append_left (by simpa [strsP] using h)]
  simp [strsP, List.getD, h]
theorem intsP_at (l : List Int) (m : List Value) (i : Nat) (h : i < l.length) : (intsP l ++ m)[i]? = some (.int .i64 (l.getD i 0)) := by
  rw [List.getElem?_append_left (by simpa [intsP] using h)]
  simp [intsP, List.getD, h]
theorem sgsP_at (l : List Sg) : ∀ i, i < l.length → ∀ j, j < 2 → (sgsP l)[i * 2 + j]? = ((l.getD i default).cs)[j]? := by
  induction l with
  | nil => intro i hi; simp at hi
  | cons x r ih =>
    intro i hi j hj
    have e : sgsP (x :: r) = x.cs ++ sgsP r := rfl
    have le : x.cs.length = 2 := rfl
    rw [e]
    match i with
    | 0 => rw [List.getElem?_append_left (by omega)]; simp
    | i + 1 =>
      rw [List.getElem?_append_right (by omega), le, show (i + 1) * 2 + j - 2 = i * 2 + j by omega, ih i (by simpa using hi) j hj]
      simp
theorem mkw_hd {W : World} {o a : Option Addr} {c n : Nat} {T : TypeId} {k : Nat} {xs : List Value} (h : MkW W o a c n T k xs) : Hd a n c := by
  rcases h with ⟨_, rfl, rfl, rfl⟩ | ⟨_, g, B, rfl, h⟩
  · exact ⟨fun _ => ⟨rfl, rfl⟩, Nat.le_refl _, by unfold maxLen; omega⟩
  · have := own_capP h
    exact ⟨(fun e => by cases e), by omega, this.2.1⟩
theorem mkw_sr {W : World} {o a : Option Addr} {c : Nat} {ss : List ByteArray} {m : List Value} (h : MkW W o a c ss.length 9 1 (strsP ss ++ m)) (h1 : ss.length ≤ 8796093021952) (h2 : ∀ s ∈ ss, s.size ≤ 140737488351232) : SR W a ss.length c ss := by
  refine ⟨mkw_hd h, rfl, h1, h2, ?_⟩
  rcases h with ⟨_, _, _, e⟩ | ⟨_, g, B, rfl, h⟩
  · exact .inl e
  · refine .inr ⟨g, 0, rfl, (own_capP h).2.2, fun i hi j hj => ?_⟩
    obtain rfl : j = 0 := by omega
    have := own_cellsP h i _ (strsP_at ss m i hi)
    simpa using this
theorem mkw_nr {W : World} {o a : Option Addr} {c : Nat} {l : List Int} {m : List Value} (h : MkW W o a c l.length 3 1 (intsP l ++ m)) (h1 : l.length ≤ 17592186043904) (h2 : ∀ i ∈ l, i64 i) : NR W a l.length c l := by
  refine ⟨mkw_hd h, rfl, h1, h2, ?_⟩
  rcases h with ⟨_, _, _, e⟩ | ⟨_, g, B, rfl, h⟩
  · exact .inl e
  · refine .inr ⟨g, 0, rfl, (own_capP h).2.2, fun i hi j hj => ?_⟩
    obtain rfl : j = 0 := by omega
    have := own_cellsP h i _ (intsP_at l m i hi)
    simpa using this
theorem mkw_ir {W : World} {o a : Option Addr} {c : Nat} {l : List In} {m : List Value} (h : MkW W o a c l.length 68 3 (icsP l ++ m)) (h1 : l.length ≤ 5864062014634) (h2 : ∀ i ∈ l, i64 i.o ∧ i64 i.a ∧ i64 i.b) : IR W a l.length c l := by
  refine ⟨mkw_hd h, rfl, h1, h2, ?_⟩
  rcases h with ⟨_, _, _, e⟩ | ⟨_, g, B, rfl, h⟩
  · exact .inl e
  · refine .inr ⟨g, 0, rfl, (own_capP h).2.2, fun i hi j hj => ?_⟩
    have e : (icsP l ++ m)[i * 3 + j]? = some ((icell (l.getD i default)).getD j default) := by
      rw [List.getElem?_append_left (by rw [icsP_len]; omega), icsP_at l i hi j hj]
      have : j < (icell (l.getD i default)).length := hj
      generalize icell (l.getD i default) = z at *
      simp [List.getD, this]
    have := own_cellsP h (i * 3 + j) _ e
    rw [Nat.zero_add]
    exact this
theorem key_days {p q : Pg} (h : q.key = p.key) (i : Nat) : (q.days.getD i default).key = (p.days.getD i default).key := keys_at (key_of h).2.2.2.2.2.2.2 i
/-- A copy is a program. -/
theorem OwnE.pv {w W : World} {p q : Pg} (hp : PV w p) (h : OwnE W p q) : PV W q := by
  obtain ⟨k0, k1, k2, k3, k4, k5, k6, k7⟩ := key_of h.key
  have kl : q.days.length = p.days.length := by have := congrArg List.length k7; simpa using this
  refine ⟨mkw_sr h.mn (by rw [k0]; exact hp.names.2.2.1) (by rw [k0]; exact hp.names.2.2.2.1), mkw_sr h.mu (by rw [k1]; exact hp.curs.2.2.1) (by rw [k1]; exact hp.curs.2.2.2.1), mkw_nr h.mp (by rw [k2]; exact hp.pool.2.2.1) (by rw [k2]; exact hp.pool.2.2.2.1), by rw [k3]; exact hp.hor, by rw [k4]; exact hp.cells, by rw [k5]; exact hp.slots, by rw [k6]; exact hp.stack, ?_⟩
  have GVs : ∀ i, i < q.days.length → GV W (q.days.getD i default) := fun i hi => by
    have hg := hp.days.2.2.2.1 _ (sg_mem (i := i) (by omega))
    have e := key_days h.key i
    unfold Sg.key at e
    injection e with e1 e2
    refine ⟨by rw [e1]; exact hg.1, mkw_ir (h.mc i hi) (by rw [e2]; exact hg.2.2.2.1) (by rw [e2]; exact hg.2.2.2.2.1)⟩
  have GA : ∀ s ∈ q.days, GV W s := fun s hs => by
    obtain ⟨i, hi, rfl⟩ := List.getElem_of_mem hs
    have := GVs i hi
    simpa [List.getD, hi] using this
  have bd := hp.days.2.2.1
  rcases h.md with ⟨e1, e2, e3⟩ | ⟨g, B, e1, e2⟩
  · refine ⟨?_, rfl, by rw [e3]; simp, GA, .inl (by rw [e3]; rfl)⟩
    rw [e1, e2, e3]
    exact ⟨fun _ => ⟨rfl, rfl⟩, Nat.le_refl _, by unfold maxLen; omega⟩
  · have hc := own_capP e2
    rw [e1]
    refine ⟨⟨(fun e => by cases e), by omega, hc.2.1⟩, rfl, by omega, GA, .inr ⟨g, 0, rfl, hc.2.2, fun i hi j hj => ?_⟩⟩
    have e : (sgsP q.days)[i * 2 + j]? = some (((q.days.getD i default).cs).getD j default) := by
      rw [sgsP_at _ i hi j hj]
      have : j < ((q.days.getD i default).cs).length := hj
      generalize (q.days.getD i default).cs = z at *
      simp [List.getD, this]
    have := own_cellsP e2 (i * 2 + j) _ e
    rw [Nat.zero_add]
    exact this
end Go.Proofs.YtpfjnnkjoabgbaaGreatDoor
