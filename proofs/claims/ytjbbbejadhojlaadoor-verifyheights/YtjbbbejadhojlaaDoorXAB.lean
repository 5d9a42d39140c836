import Derived.Test.YtjbbbejadhojlaaDoorXAA
import Derived.Laws.AppendOwn
import Derived.Laws.AppendOwnNone
import Derived.Laws.OwnMore
import Derived.Laws.MakeOwn
import Derived.Maps.AppendAt
import Derived.Deep.AppendLies
import Derived.Deep.RegionLaw
import Derived.Deep.Cut
import Derived.Deep.CutRange
import Derived.Deep.DeepCutAuto
import Derived.OwnWalk
import Derived.Laws.Cover3
import Derived.Test.YtjbbbejadhojlaaDoorRows
import Derived.WalkKit
import Derived.WalkSpells
import Derived.Below
import Derived.BigCall
import Derived.BigGuard
import Derived.BigQuiet
import Derived.Deep.QuietTactic
import Derived.Deep.RegionHeld3
import Derived.Lib.LaidTab
import Derived.Lib.Hide
import Derived.Lib.SmallJoins
import Derived.Laws.BitsAllLaws
namespace Go.Proofs.YtjbbbejadhojlaaDoor
open Go.RowKit
set_option linter.unusedVariables false
set_option linter.unusedSimpArgs false

theorem infoPN : (Tryd.prog.info? 3).map (fun i => (i.zero, i.size, i.bytes)) = some (some (.int .i64 0), 1, 8) := by kernel_rfl
/-- A block, whole. -/
def BkP (w : World) (b : Nat) (cs : Array Value) (t : TypeId) : Prop := w.heap[b]? = some (.cells cs t (0, 0))
theorem BkP.cell {w : World} {b : Nat} {cs : Array Value} {t : TypeId} (h : BkP w b cs t) (k : Nat) : w.cell? ⟨b, k, none⟩ = cs[k]? := by
  unfold BkP at h; simp [World.cell?, h]
theorem BkP.frozen {w : World} {b : Nat} {cs : Array Value} {t : TypeId} (h : BkP w b cs t) (k : Nat) : w.frozen? ⟨b, k, none⟩ = false := by
  unfold BkP at h; simp [World.frozen?, h]
theorem BkP.lt {w : World} {b : Nat} {cs : Array Value} {t : TypeId} (h : BkP w b cs t) : b < w.heap.size := (Array.getElem?_eq_some_iff.1 h).1
theorem BkP.grown {w w' : World} {b : Nat} {cs : Array Value} {t : TypeId} {r : Option Nat} (h : BkP w b cs t) (g : w.grownBy w' r) (hb : some b ≠ r) : BkP w' b cs t := (g.block b h.lt hb).trans h
theorem BkP.set {w : World} {b : Nat} {cs : Array Value} {t : TypeId} (h : BkP w b cs t) (k : Nat) (v : Value) (hk : k < cs.size) : BkP (w.setCell ⟨b, k, none⟩ v) b (cs.set k v) t := by
  unfold BkP at *
  simp only [World.setCell, Array.getElem?_modify, if_true, h, Option.map_some]
  simp [Array.set!, Array.setIfInBounds, hk]
theorem BkP.other {w : World} {b : Nat} {cs : Array Value} {t : TypeId} (h : BkP w b cs t) (p : Nat) (k : Nat) (v : Value) (hp : p ≠ b) : BkP (w.setCell ⟨p, k, none⟩ v) b cs t := by
  unfold BkP at *
  simp only [World.setCell, Array.getElem?_modify, if_neg hp, h]
/-- A row that lies between two places. -/
structure RF where
  lo : Nat
  hi : Nat
  T : TypeId
  k : Nat
  v : Value
  n : Nat
  xs : List Value
structure RF.at (r : RF) (W : World) : Prop where
  own : W.ownsRow r.lo r.T r.k r.v r.n r.xs
  hi : ∀ b, r.v.ownBlock = some b → b < r.hi
theorem row_farP {W W' : World} {B e s n : Nat} {v : Value} {xs : List Value} (h : W.ownsRow B e s v n xs) {r : Option Nat} (g : W.grownBy W' r) (hr : ∀ k q, r = some k → v.ownBlock = some q → k ≠ q) : W'.ownsRow B e s v n xs := by
  refine h.kept g ?_
  rcases hv : v.ownBlock with _ | q
  · exact .inl rfl
  · right
    intro e
    rcases r with _ | k
    · cases e
    · injection e with e
      exact hr k q rfl hv e.symm
theorem RF.at.grown {r : RF} {W W' : World} (h : r.at W) {x : Option Nat} (g : W.grownBy W' x) (hx : ∀ k, x = some k → k < r.lo ∨ r.hi ≤ k) : r.at W' :=
  ⟨row_farP h.own g (fun k q e e2 => by have := h.own.lt q e2; have := h.hi q e2; rcases hx k e with t | t <;> omega), h.hi⟩
def pz : Array Value := #[.slice none 0 0, .slice none 0 0, .slice none 0 0, .int .i64 0, .int .i64 0, .int .i64 0, .int .i64 0, .slice none 0 0]
def Pg.arr (p : Pg) : Array Value := #[.slice p.na p.names.length p.nc, .slice p.ua p.curs.length p.uc, .slice p.pa p.pool.length p.pc, .int .i64 p.hor, .int .i64 p.cells, .int .i64 p.slots, .int .i64 p.stack, .slice p.da p.days.length p.dc]
/-- What stands while a copy is made: the box of the program, that of the answer, that of the copy, the rows of the copy. -/
structure OS (w W : World) (p : Pg) (q : Array Value) (L : List RF) : Prop where
  bel : Below w.heap.size w W
  b0 : BkP W w.heap.size p.arr 26
  b1 : BkP W (w.heap.size + 1) pz 26
  b2 : BkP W (w.heap.size + 1 + 1) q 26
  rows : ∀ r ∈ L, r.at W ∧ w.heap.size + 3 ≤ r.lo ∧ r.hi ≤ W.heap.size
  sz : w.heap.size + 3 ≤ W.heap.size
  qs : q.size = 8
theorem OS.grown {w W W' : World} {p : Pg} {q : Array Value} {L : List RF} (h : OS w W p q L) {x : Option Nat} (g : W.grownBy W' x) (hx : ∀ k, x = some k → W.heap.size ≤ k) : OS w W' p q L :=
  ⟨h.bel.grown g h.bel.size (fun k e => Nat.le_trans h.bel.size (hx k e)), h.b0.grown g (fun e => by have := hx _ e.symm; have := h.b0.lt; omega), h.b1.grown g (fun e => by have := hx _ e.symm; have := h.b1.lt; omega), h.b2.grown g (fun e => by have := hx _ e.symm; have := h.b2.lt; omega),
    fun r hr => ⟨(h.rows r hr).1.grown g (fun k e => .inr (Nat.le_trans (h.rows r hr).2.2 (hx k e))), (h.rows r hr).2.1, Nat.le_trans (h.rows r hr).2.2 g.size⟩, Nat.le_trans h.sz g.size, h.qs⟩
theorem gr_below {W W' : World} (b : Below W.heap.size W W') (r : Option Nat) : W.grownBy W' r := ⟨b.os, b.tape, b.output, b.size, fun k hk _ => b.block k hk⟩
theorem OS.later {w W W' : World} {p : Pg} {q : Array Value} {L : List RF} (h : OS w W p q L) (b : Below W.heap.size W W') : OS w W' p q L := h.grown (gr_below b none) (fun k e => by cases e)
theorem drew1B (W : World) : Below W.heap.size W W.drew := (Below.refl _ _).drew
theorem OS.drew {w W : World} {p : Pg} {q : Array Value} {L : List RF} (h : OS w W p q L) : OS w W.drew p q L := h.later (drew1B W)
theorem OS.alloc {w W : World} {p : Pg} {q : Array Value} {L : List RF} (h : OS w W p q L) (o : Obj) : OS w (W.alloc o) p q L := h.later (allocBP W o)
theorem setCell_gr (W : World) (b j : Nat) (v : Value) : W.grownBy (W.setCell ⟨b, j, none⟩ v) (some b) := by
  refine ⟨rfl, rfl, rfl, by simp, fun i hi hn => ?_⟩
  have hp : ¬ b = i := fun e => hn (by rw [e])
  simp [World.setCell, Array.getElem?_modify, hp]
theorem OS.setQ {w W : World} {p : Pg} {q : Array Value} {L : List RF} (h : OS w W p q L) (j : Nat) (hj : j < q.size) (v : Value) : OS w (W.setCell ⟨w.heap.size + 1 + 1, j, none⟩ v) p (q.set j v) L :=
  ⟨h.bel.grown (setCell_gr W _ j v) h.bel.size (fun k e => by injection e with e; omega), h.b0.other _ _ _ (by omega), h.b1.other _ _ _ (by omega), h.b2.set j v hj,
    fun r hr => ⟨(h.rows r hr).1.grown (setCell_gr W _ j v) (fun k e => by injection e with e; have := (h.rows r hr).2.1; left; omega), (h.rows r hr).2.1, by simpa using (h.rows r hr).2.2⟩, by simpa using h.sz, by simpa using h.qs⟩
theorem OS.add {w W : World} {p : Pg} {q : Array Value} {L : List RF} (h : OS w W p q L) (r : RF) (hr : r.at W) (h1 : w.heap.size + 3 ≤ r.lo) (h2 : r.hi ≤ W.heap.size) : OS w W p q (r :: L) :=
  ⟨h.bel, h.b0, h.b1, h.b2, fun x hx => by
    rcases List.mem_cons.1 hx with rfl | q
    · exact ⟨hr, h1, h2⟩
    · exact h.rows x q, h.sz, h.qs⟩
theorem heapN (w : World) (o : Obj) : (w.alloc o).heap[w.heap.size]? = some o := by show (w.heap.push o)[w.heap.size]? = _; simp
end Go.Proofs.YtjbbbejadhojlaaDoor

namespace Go.Proofs.YtjbbbejadhojlaaDoor
open Go.RowKit
set_option linter.unusedVariables false
set_option linter.unusedSimpArgs false

def bhV : Value := .string ⟨#[66, 101, 104, 105, 110, 100]⟩
def strsP (ss : List ByteArray) : List Value := ss.map Value.string
def intsP (l : List Int) : List Value := l.map (Value.int .i64)
def icsP (l : List In) : List Value := l.flatMap icell
/-- A list's copy among the rows that stand. -/
def Mk (o a : Option Addr) (c n : Nat) (T : TypeId) (k : Nat) (xs : List Value) (L : List RF) : Prop :=
  (o = none ∧ a = none ∧ c = 0 ∧ n = 0) ∨ (o ≠ none ∧ ∃ g lo hi, a = some ⟨g, 0, none⟩ ∧ (⟨lo, hi, T, k, .slice (some ⟨g, 0, none⟩) (n + 1) c, n + 1, xs⟩ : RF) ∈ L)
theorem mk_more {o a : Option Addr} {c n : Nat} {T : TypeId} {k : Nat} {xs : List Value} {L : List RF} {r : RF} (h : Mk o a c n T k xs L) : Mk o a c n T k xs (r :: L) := by
  rcases h with h | ⟨h1, g, lo, hi, h2, h3⟩
  · exact .inl h
  · exact .inr ⟨h1, g, lo, hi, h2, List.mem_cons_of_mem _ h3⟩
def m4711 : In := ⟨-4711, 0, 0⟩
def sgsP (l : List Sg) : List Value := l.flatMap Sg.cs
theorem sgsP_app (a b : List Sg) : sgsP (a ++ b) = sgsP a ++ sgsP b := by simp [sgsP]
theorem icsP_len (l : List In) : (icsP l).length = l.length * 3 := by
  induction l with
  | nil => rfl
  | cons x r ih => simp only [icsP, List.flatMap_cons, List.length_append, List.length_cons] at *; rw [ih]; simp [icell]; omega
theorem icsP_at (l : List In) : ∀ i, i < l.length → ∀ j, j < 3 → (icsP l)[i * 3 + j]? = (icell (l.getD i default))[j]? := by
  induction l with
  | nil => intro i hi; simp at hi
  | cons x r ih =>
    intro i hi j hj
    have e : icsP (x :: r) = icell x ++ icsP r := rfl
    have le : (icell x).length = 3 := rfl
    rw [e]
    match i with
    | 0 => rw [List.getElem?_append_left (by omega)]; simp
    | i + 1 =>
      rw [List.getElem?_append_right (by omega), le, show (i + 1) * 3 + j - 3 = i * 3 + j by omega, ih i (by simpa using hi) j hj]
      simp
/-- What stands while the days are copied. -/
structure OD (w wr : World) (p : Pg) (A : Value → Array Value) (gd n : Nat) (Q : List Sg) (L : List RF) : Prop where
  os : OS w wr p (A (.slice (some ⟨gd, 0, none⟩) Q.length (n + 1))) L
  own : wr.ownsRow gd 43 2 (.slice (some ⟨gd, 0, none⟩) Q.length (n + 1)) Q.length (sgsP Q)
  far : ∀ r ∈ L, r.hi ≤ gd ∨ gd < r.lo
  g0 : w.heap.size + 3 ≤ gd
  le : Q.length ≤ n
  keys : Q.map Sg.key = (p.days.take Q.length).map Sg.key
  mks : ∀ i, i < Q.length → Mk (p.days.getD i default).ca (Q.getD i default).ca (Q.getD i default).cc (Q.getD i default).code.length 51 3 (icsP (Q.getD i default).code ++ icell m4711) L
theorem OD.later {w W W' : World} {p : Pg} {A : Value → Array Value} {gd n : Nat} {Q : List Sg} {L : List RF} (h : OD w W p A gd n Q L) (b : Below W.heap.size W W') : OD w W' p A gd n Q L :=
  ⟨h.os.later b, row_farP h.own (gr_below b none) (fun k q e => by cases e), h.far, h.g0, h.le, h.keys, h.mks⟩
theorem OD.add {w W : World} {p : Pg} {A : Value → Array Value} {gd n : Nat} {Q : List Sg} {L : List RF} (h : OD w W p A gd n Q L) (r : RF) (hr : r.at W) (h1 : gd < r.lo) (h2 : r.hi ≤ W.heap.size) : OD w W p A gd n Q (r :: L) :=
  ⟨h.os.add r hr (by have := h.g0; omega) h2, h.own, fun x hx => by
    rcases List.mem_cons.1 hx with rfl | q
    · exact .inr h1
    · exact h.far x q, h.g0, h.le, h.keys, fun i hi => mk_more (h.mks i hi)⟩
theorem OS.far {w W W' : World} {p : Pg} {q : Array Value} {L : List RF} (h : OS w W p q L) {gd : Nat} (g : W.grownBy W' (some gd)) (h0 : w.heap.size + 3 ≤ gd) (h1 : ∀ r ∈ L, r.hi ≤ gd ∨ gd < r.lo) : OS w W' p q L :=
  ⟨h.bel.grown g h.bel.size (fun k e => by injection e with e; omega), h.b0.grown g (fun e => by injection e with e; omega), h.b1.grown g (fun e => by injection e with e; omega), h.b2.grown g (fun e => by injection e with e; omega),
    fun r hr => ⟨(h.rows r hr).1.grown g (fun k e => by injection e with e; subst e; rcases h1 r hr with t | t; exact .inr t; exact .inl t), (h.rows r hr).2.1, Nat.le_trans (h.rows r hr).2.2 g.size⟩, Nat.le_trans h.sz g.size, h.qs⟩
theorem OD.next {w W W' : World} {p : Pg} {A : Value → Array Value} {gd n : Nat} {Q : List Sg} {L : List RF} (h : OD w W p A gd n Q L) (hA : ∀ v v' (k : 7 < (A v).size), (A v).set 7 v' k = A v') (s : Sg)
    (g : W.grownBy W' (some gd)) (o : W'.ownsRow gd 43 2 (.slice (some ⟨gd, 0, none⟩) (Q.length + 1) (n + 1)) (Q.length + 1) (sgsP Q ++ s.cs)) (hn : Q.length < n) (hd : Q.length < p.days.length)
    (hk : s.key = (p.days.getD Q.length default).key) (hm : Mk (p.days.getD Q.length default).ca s.ca s.cc s.code.length 51 3 (icsP s.code ++ icell m4711) L) :
    OD w (W'.setCell ⟨w.heap.size + 1 + 1, 7, none⟩ (.slice (some ⟨gd, 0, none⟩) (Q.length + 1) (n + 1))) p A gd n (Q ++ [s]) L := by
  have o1 := h.os.far g h.g0 h.far
  have o2 := o1.setQ 7 (by rw [o1.qs]; omega) (.slice (some ⟨gd, 0, none⟩) (Q.length + 1) (n + 1))
  rw [hA] at o2
  have el : (Q ++ [s]).length = Q.length + 1 := by simp
  refine ⟨by rw [el]; exact o2, ?_, h.far, h.g0, by rw [el]; omega, ?_, ?_⟩
  · rw [el, sgsP_app, show sgsP [s] = s.cs by simp [sgsP]]
    exact row_farP o (setCell_gr W' _ _ _) (fun k q e e2 => by injection e with e; have := Option.some.inj e2; have := h.g0; simp at *; omega)
  · rw [el, List.map_append, h.keys, List.take_succ_eq_append_getElem hd, List.map_append]
    simp only [List.map_cons, List.map_nil]
    rw [hk]
    simp [List.getD, hd]
  · intro i hi
    rw [el] at hi
    by_cases hlt : i < Q.length
    · have e : (Q ++ [s]).getD i default = Q.getD i default := by simp [List.getD, List.getElem?_append_left hlt]
      rw [e]; exact h.mks i hlt
    · obtain rfl : i = Q.length := by omega
      have e : (Q ++ [s]).getD Q.length default = s := by simp [List.getD]
      rw [e]; exact hm
/-- A list's copy, in the world that is left. -/
def MkW (W : World) (o a : Option Addr) (c n : Nat) (T : TypeId) (k : Nat) (xs : List Value) : Prop :=
  (o = none ∧ a = none ∧ c = 0 ∧ n = 0) ∨ (o ≠ none ∧ ∃ g B, a = some ⟨g, 0, none⟩ ∧ W.ownsRow B T k (.slice (some ⟨g, 0, none⟩) (n + 1) c) (n + 1) xs)
theorem MkW.later {W W' : World} {o a : Option Addr} {c n : Nat} {T : TypeId} {k : Nat} {xs : List Value} (h : MkW W o a c n T k xs) (b : Below W.heap.size W W') : MkW W' o a c n T k xs := by
  rcases h with h | ⟨h1, g, B, h2, h3⟩
  · exact .inl h
  · exact .inr ⟨h1, g, B, h2, row_farP h3 (gr_below b none) (fun k q e => by cases e)⟩
theorem Mk.out {W : World} {o a : Option Addr} {c n : Nat} {T : TypeId} {k : Nat} {xs : List Value} {L : List RF} (h : Mk o a c n T k xs L) (hL : ∀ r ∈ L, r.at W) : MkW W o a c n T k xs := by
  rcases h with h | ⟨h1, g, lo, hi, h2, h3⟩
  · exact .inl h
  · exact .inr ⟨h1, g, lo, h2, (hL _ h3).own⟩
/-- What a copy is. -/
structure OwnE (W : World) (p q : Pg) : Prop where
  key : q.key = p.key
  mn : MkW W p.na q.na q.nc q.names.length 9 1 (strsP q.names ++ [bhV])
  mu : MkW W p.ua q.ua q.uc q.curs.length 9 1 (strsP q.curs ++ [bhV])
  mp : MkW W p.pa q.pa q.pc q.pool.length 3 1 (intsP q.pool ++ [.int .i64 (-4711)])
  md : (q.da = none ∧ q.dc = 0 ∧ q.days = []) ∨ ∃ g B, q.da = some ⟨g, 0, none⟩ ∧ W.ownsRow B 43 2 (.slice (some ⟨g, 0, none⟩) q.days.length q.dc) q.days.length (sgsP q.days)
  mc : ∀ i, i < q.days.length → MkW W (p.days.getD i default).ca (q.days.getD i default).ca (q.days.getD i default).cc (q.days.getD i default).code.length 51 3 (icsP (q.days.getD i default).code ++ icell m4711)
theorem OwnE.later {W W' : World} {p q : Pg} (h : OwnE W p q) (b : Below W.heap.size W W') : OwnE W' p q := by
  refine ⟨h.key, h.mn.later b, h.mu.later b, h.mp.later b, ?_, fun i hi => (h.mc i hi).later b⟩
  rcases h.md with q | ⟨g, B, q1, q2⟩
  · exact .inl q
  · exact .inr ⟨g, B, q1, row_farP q2 (gr_below b none) (fun k q e => by cases e)⟩
end Go.Proofs.YtjbbbejadhojlaaDoor

namespace Go.Proofs.YtjbbbejadhojlaaDoor
open Go.RowKit
set_option linter.unusedVariables false
set_option linter.unusedSimpArgs false
theorem bel_dr {w W : World} (b : Below w.heap.size w W) (q : Nat) : Below w.heap.size w (W.drewN q) := b.trans ((drewBP W q).mono b.size)
theorem box_all8 {w : World} {x : Nat} {a b c d e f g h : Value} {t : TypeId} (k : w.heap[x]? = some (.cells #[a, b, c, d, e, f, g, h] t)) : w.cell? ⟨x, 0, none⟩ = some a ∧ w.cell? ⟨x, 1, none⟩ = some b ∧ w.cell? ⟨x, 2, none⟩ = some c ∧ w.cell? ⟨x, 3, none⟩ = some d ∧ w.cell? ⟨x, 4, none⟩ = some e ∧ w.cell? ⟨x, 5, none⟩ = some f ∧ w.cell? ⟨x, 6, none⟩ = some g ∧ w.cell? ⟨x, 7, none⟩ = some h := by
  refine ⟨?_, ?_, ?_, ?_, ?_, ?_, ?_, ?_⟩ <;> simp [World.cell?, k]
end Go.Proofs.YtjbbbejadhojlaaDoor

namespace Go.Proofs.YtjbbbejadhojlaaDoor
open Go.RowKit
set_option linter.unusedVariables false
set_option linter.unusedSimpArgs false
end Go.Proofs.YtjbbbejadhojlaaDoor

namespace Go.Proofs.YtjbbbejadhojlaaDoor
open Go.RowKit
set_option linter.unusedVariables false
set_option linter.unusedSimpArgs false
theorem own_cellsP {W : World} {B g k m c : Nat} {T : TypeId} {n : Nat} {xs : List Value} (h : W.ownsRow B T k (.slice (some ⟨g, 0, none⟩) m c) n xs) (j : Nat) (u : Value) (hj : xs[j]? = some u) : W.cell? ⟨g, j, none⟩ = some u := by
  have := h.cells (g := g) rfl j u hj
  rw [Go.Addr.add_lit, Nat.zero_add] at this
  exact this
theorem own_capP {W : World} {B g k m c : Nat} {T : TypeId} {n : Nat} {xs : List Value} (h : W.ownsRow B T k (.slice (some ⟨g, 0, none⟩) m c) n xs) : n ≤ c ∧ c ≤ maxLen ∧ g < W.heap.size := by
  rcases h.2 with ⟨q, _⟩ | ⟨g', cap', cur, e, _, hg, h1, h2, _⟩
  · cases q
  · injection e with e1 e2 e3
    injection e1 with e1
    injection e1 with e1
    subst e1 e3
    exact ⟨h1, h2, (Array.getElem?_eq_some_iff.1 hg).1⟩
theorem strsP_at (ss : List ByteArray) (m : List Value) (i : Nat) (h : i < ss.length) : (strsP ss ++ m)[i]? = some (.string (ss.getD i default)) := by
  rw [List.getElem?_append_left (by simpa [strsP] using h)]
  simp [strsP, List.getD, h]
theorem intsP_at (l : List Int) (m : List Value) (i : Nat) (h : i < l.length) : (intsP l ++ m)[i]? = some (.int .i64 (l.getD i 0)) := by
  rw [List.getElem?_append_left (by simpa [intsP] using h)]
  simp [intsP, List.getD, h]
theorem sgsP_at (l : List Sg) : ∀ i, i < l.length → ∀ j, j < 2 → (sgsP l)[i * 2 + j]? = ((l.getD i default).cs)[j]? := by
  induction l with
  | nil => intro i hi; simp at hi
  | cons x r ih =>
    intro i hi j hj
    have e : sgsP (x :: r) = x.cs ++ sgsP r := rfl
    have le : x.cs.length = 2 := rfl
    rw [e]
    match i with
    | 0 => rw [List.getElem?_append_left (by omega)]; simp
    | i + 1 =>
      rw [List.getElem?_append_right (by omega), le, show (i + 1) * 2 + j - 2 = i * 2 + j by omega, ih i (by simpa using hi) j hj]
      simp
theorem mkw_hd {W : World} {o a : Option Addr} {c n : Nat} {T : TypeId} {k : Nat} {xs : List Value} (h : MkW W o a c n T k xs) : Hd a n c := by
  rcases h with ⟨_, rfl, rfl, rfl⟩ | ⟨_, g, B, rfl, h⟩
  · exact ⟨fun _ => ⟨rfl, rfl⟩, Nat.le_refl _, by unfold maxLen; omega⟩
  · have := own_capP h
    exact ⟨(fun e => by cases e), by omega, this.2.1⟩
theorem mkw_sr {W : World} {o a : Option Addr} {c : Nat} {ss : List ByteArray} {m : List Value} (h : MkW W o a c ss.length 9 1 (strsP ss ++ m)) (h1 : ss.length ≤ 8796093021952) (h2 : ∀ s ∈ ss, s.size ≤ 140737488351232) : SR W a ss.length c ss := by
  refine ⟨mkw_hd h, rfl, h1, h2, ?_⟩
  rcases h with ⟨_, _, _, e⟩ | ⟨_, g, B, rfl, h⟩
  · exact .inl e
  · refine .inr ⟨g, 0, rfl, (own_capP h).2.2, fun i hi j hj => ?_⟩
    obtain rfl : j = 0 := by omega
    have := own_cellsP h i _ (strsP_at ss m i hi)
    simpa using this
theorem mkw_nr {W : World} {o a : Option Addr} {c : Nat} {l : List Int} {m : List Value} (h : MkW W o a c l.length 3 1 (intsP l ++ m)) (h1 : l.length ≤ 17592186043904) (h2 : ∀ i ∈ l, i64 i) : NR W a l.length c l := by
  refine ⟨mkw_hd h, rfl, h1, h2, ?_⟩
  rcases h with ⟨_, _, _, e⟩ | ⟨_, g, B, rfl, h⟩
  · exact .inl e
  · refine .inr ⟨g, 0, rfl, (own_capP h).2.2, fun i hi j hj => ?_⟩
    obtain rfl : j = 0 := by omega
    have := own_cellsP h i _ (intsP_at l m i hi)
    simpa using this
theorem mkw_ir {W : World} {o a : Option Addr} {c : Nat} {l : List In} {m : List Value} (h : MkW W o a c l.length 51 3 (icsP l ++ m)) (h1 : l.length ≤ 5864062014634) (h2 : ∀ i ∈ l, i64 i.o ∧ i64 i.a ∧ i64 i.b) : IR W a l.length c l := by
  refine ⟨mkw_hd h, rfl, h1, h2, ?_⟩
  rcases h with ⟨_, _, _, e⟩ | ⟨_, g, B, rfl, h⟩
  · exact .inl e
  · refine .inr ⟨g, 0, rfl, (own_capP h).2.2, fun i hi j hj => ?_⟩
    have e : (icsP l ++ m)[i * 3 + j]? = some ((icell (l.getD i default)).getD j default) := by
      rw [List.getElem?_append_left (by rw [icsP_len]; omega), icsP_at l i hi j hj]
      have : j < (icell (l.getD i default)).length := hj
      generalize icell (l.getD i default) = z at *
      simp [List.getD, this]
    have := own_cellsP h (i * 3 + j) _ e
    rw [Nat.zero_add]
    exact this
theorem key_days {p q : Pg} (h : q.key = p.key) (i : Nat) : (q.days.getD i default).key = (p.days.getD i default).key := keys_at (key_of h).2.2.2.2.2.2.2 i
/-- A copy is a program. -/
theorem OwnE.pv {w W : World} {p q : Pg} (hp : PV w p) (h : OwnE W p q) : PV W q := by
  obtain ⟨k0, k1, k2, k3, k4, k5, k6, k7⟩ := key_of h.key
  have kl : q.days.length = p.days.length := by have := congrArg List.length k7; simpa using this
  refine ⟨mkw_sr h.mn (by rw [k0]; exact hp.names.2.2.1) (by rw [k0]; exact hp.names.2.2.2.1), mkw_sr h.mu (by rw [k1]; exact hp.curs.2.2.1) (by rw [k1]; exact hp.curs.2.2.2.1), mkw_nr h.mp (by rw [k2]; exact hp.pool.2.2.1) (by rw [k2]; exact hp.pool.2.2.2.1), by rw [k3]; exact hp.hor, by rw [k4]; exact hp.cells, by rw [k5]; exact hp.slots, by rw [k6]; exact hp.stack, ?_⟩
  have GVs : ∀ i, i < q.days.length → GV W (q.days.getD i default) := fun i hi => by
    have hg := hp.days.2.2.2.1 _ (sg_mem (i := i) (by omega))
    have e := key_days h.key i
    unfold Sg.key at e
    injection e with e1 e2
    refine ⟨by rw [e1]; exact hg.1, mkw_ir (h.mc i hi) (by rw [e2]; exact hg.2.2.2.1) (by rw [e2]; exact hg.2.2.2.2.1)⟩
  have GA : ∀ s ∈ q.days, GV W s := fun s hs => by
    obtain ⟨i, hi, rfl⟩ := List.getElem_of_mem hs
    have := GVs i hi
    simpa [List.getD, hi] using this
  have bd := hp.days.2.2.1
  rcases h.md with ⟨e1, e2, e3⟩ | ⟨g, B, e1, e2⟩
  · refine ⟨?_, rfl, by rw [e3]; simp, GA, .inl (by rw [e3]; rfl)⟩
    rw [e1, e2, e3]
    exact ⟨fun _ => ⟨rfl, rfl⟩, Nat.le_refl _, by unfold maxLen; omega⟩
  · have hc := own_capP e2
    rw [e1]
    refine ⟨⟨(fun e => by cases e), by omega, hc.2.1⟩, rfl, by omega, GA, .inr ⟨g, 0, rfl, hc.2.2, fun i hi j hj => ?_⟩⟩
    have e : (sgsP q.days)[i * 2 + j]? = some (((q.days.getD i default).cs).getD j default) := by
      rw [sgsP_at _ i hi j hj]
      have : j < ((q.days.getD i default).cs).length := hj
      generalize (q.days.getD i default).cs = z at *
      simp [List.getD, this]
    have := own_cellsP e2 (i * 2 + j) _ e
    rw [Nat.zero_add]
    exact this
end Go.Proofs.YtjbbbejadhojlaaDoor

namespace Go.Proofs.YtjbbbejadhojlaaDoor
set_option linter.unusedVariables false
set_option linter.unusedSimpArgs false

/-- What a reader's Uint answers of bytes: number, error, how many bytes. -/
def uN (bs : List Int) (lim : Nat) : Nat × Int × Nat := if (rd bs).2.2 ≠ 0 then (0, (rd bs).2.2, 0) else if lim < (rd bs).1 then (0, 42, 0) else ((rd bs).1, 0, (rd bs).2.1)
/-- One instruction: it, the error, how many bytes, the error's place. -/
def dec1 : List Int → In × Int × Nat × Nat
  | [] => (⟨0, 0, 0⟩, 41, 0, 0)
  | c :: cs =>
    if 29 ≤ c then (⟨0, 0, 0⟩, 111, 0, 0)
    else if onA c.toNat = 0 then (⟨c, 0, 0⟩, 0, 1, 0)
    else if (uN cs (baA c.toNat)).2.1 ≠ 0 then (⟨0, 0, 0⟩, (uN cs (baA c.toNat)).2.1, 0, if (uN cs (baA c.toNat)).2.1 = 41 then 1 + cs.length else 1)
    else if onA c.toNat = 1 then (⟨c, (uN cs (baA c.toNat)).1, 0⟩, 0, 1 + (uN cs (baA c.toNat)).2.2, 0)
    else if (uN (cs.drop (uN cs (baA c.toNat)).2.2) (bbA c.toNat)).2.1 ≠ 0 then (⟨0, 0, 0⟩, (uN (cs.drop (uN cs (baA c.toNat)).2.2) (bbA c.toNat)).2.1, 0, if (uN (cs.drop (uN cs (baA c.toNat)).2.2) (bbA c.toNat)).2.1 = 41 then 1 + cs.length else 1 + (uN cs (baA c.toNat)).2.2)
    else (⟨c, (uN cs (baA c.toNat)).1, (uN (cs.drop (uN cs (baA c.toNat)).2.2) (bbA c.toNat)).1⟩, 0, 1 + (uN cs (baA c.toNat)).2.2 + (uN (cs.drop (uN cs (baA c.toNat)).2.2) (bbA c.toNat)).2.2, 0)
/-- So many instructions: they, the error, its place. -/
def decs : Nat → List Int → List In × Int × Nat
  | 0, bs => if bs.length = 0 then ([], 0, 0) else ([], 46, 0)
  | n + 1, bs =>
    if (dec1 bs).2.1 ≠ 0 then ([], (dec1 bs).2.1, (dec1 bs).2.2.2)
    else if (decs n (bs.drop (dec1 bs).2.2.1)).2.1 ≠ 0 then ([], (decs n (bs.drop (dec1 bs).2.2.1)).2.1, (dec1 bs).2.2.1 + (decs n (bs.drop (dec1 bs).2.2.1)).2.2)
    else ((dec1 bs).1 :: (decs n (bs.drop (dec1 bs).2.2.1)).1, 0, 0)

theorem uN_ok {bs : List Int} {lim : Nat} (hb : ∀ c ∈ bs, 0 ≤ c ∧ c ≤ 255) (h : (uN bs lim).2.1 = 0) : (uN bs lim).1 ≤ lim ∧ vl (uN bs lim).1 = bs.take (uN bs lim).2.2 ∧ 1 ≤ (uN bs lim).2.2 ∧ (uN bs lim).2.2 ≤ bs.length := by
  unfold uN at h ⊢
  by_cases h0 : (rd bs).2.2 = 0
  · obtain ⟨a1, a2, a3, a4, a5⟩ := rd_only hb h0
    by_cases h1 : lim < (rd bs).1
    · simp [h0, h1] at h
    · simp [h0, h1]
      exact ⟨by omega, a1, by omega, a4⟩
  · simp [h0] at h
/-- What is read was written so. -/
theorem dec1_ok {bs : List Int} (hb : ∀ c ∈ bs, 0 ≤ c ∧ c ≤ 255) (h : (dec1 bs).2.1 = 0) : (dec1 bs).1.okP ∧ (dec1 bs).1.enc = bs.take (dec1 bs).2.2.1 ∧ 1 ≤ (dec1 bs).2.2.1 ∧ (dec1 bs).2.2.1 ≤ bs.length := by
  match bs with
  | [] => simp [dec1] at h
  | c :: cs =>
    have hc := hb c (by simp)
    have hcs : ∀ d ∈ cs, 0 ≤ d ∧ d ≤ 255 := fun d hd => hb d (by simp [hd])
    rw [dec1] at h ⊢
    by_cases h29 : 29 ≤ c
    · rw [if_pos h29] at h; simp at h
    · rw [if_neg h29] at h ⊢
      obtain ⟨k, hk⟩ : ∃ k : Nat, c.toNat = k := ⟨_, rfl⟩
      have hck : c = (k : Int) := by omega
      have k29 : k < 29 := by omega
      obtain ⟨t1, t2, t3, _, _, t6, t7⟩ := tab_facts k k29
      rw [hk] at h ⊢
      by_cases h0 : onA k = 0
      · rw [if_pos h0]
        refine ⟨⟨hc.1, by simp; omega, by simp, by simp, by simp, by simp⟩, ?_, by simp, by simp⟩
        simp [In.enc, hk, h0]
      · rw [if_neg h0] at h ⊢
        by_cases hu : (uN cs (baA k)).2.1 = 0
        · obtain ⟨a1, a2, a3, a4⟩ := uN_ok hcs hu
          rw [if_neg (by simp [hu])] at h ⊢
          by_cases h1 : onA k = 1
          · rw [if_pos h1]
            refine ⟨⟨hc.1, by simp; omega, by simp, by simp [hk]; omega, by simp, by simp⟩, ?_, by simp, by simp; omega⟩
            simp only [In.enc, hk, h1]
            simp only [Nat.le_refl, if_true, show ¬ (2 : Nat) ≤ 1 by omega, if_false, List.append_nil, Int.toNat_natCast, a2]
            rw [Nat.add_comm 1, List.take_succ_cons]
          · rw [if_neg h1] at h ⊢
            by_cases hv : (uN (cs.drop (uN cs (baA k)).2.2) (bbA k)).2.1 = 0
            · obtain ⟨b1, b2, b3, b4⟩ := uN_ok (fun d hd => hcs d (List.mem_of_mem_drop hd)) hv
              rw [if_neg (by simp [hv])]
              rw [List.length_drop] at b4
              refine ⟨⟨hc.1, by simp; omega, by simp, by simp [hk]; omega, by simp, by simp [hk]; omega⟩, ?_, by simp; omega, by simp; omega⟩
              simp only [In.enc, hk]
              simp only [show 1 ≤ onA k by omega, show 2 ≤ onA k by omega, if_true, Int.toNat_natCast, a2, b2]
              rw [show 1 + (uN cs (baA k)).2.2 + (uN (cs.drop (uN cs (baA k)).2.2) (bbA k)).2.2 = ((uN cs (baA k)).2.2 + (uN (cs.drop (uN cs (baA k)).2.2) (bbA k)).2.2) + 1 by omega, List.take_succ_cons, List.take_add]
            · rw [if_pos hv] at h
              exact absurd h hv
        · rw [if_pos hu] at h
          exact absurd h hu
/-- How a loop over the instructions goes: what was read so far, up to the place k. -/
def DJ (bs : List Int) (n : Nat) (acc : List In) (k : Nat) : Prop :=
  acc.length ≤ n ∧ k ≤ bs.length ∧ ((decs (n - acc.length) (bs.drop k)).2.1 ≠ 0 → decs n bs = ([], (decs (n - acc.length) (bs.drop k)).2.1, k + (decs (n - acc.length) (bs.drop k)).2.2)) ∧ ((decs (n - acc.length) (bs.drop k)).2.1 = 0 → decs n bs = (acc ++ (decs (n - acc.length) (bs.drop k)).1, 0, 0))
theorem DJ.step {bs : List Int} (hb : ∀ c ∈ bs, 0 ≤ c ∧ c ≤ 255) {n : Nat} {acc : List In} {k : Nat} (h : DJ bs n acc k) (hn : acc.length < n) (h1 : (dec1 (bs.drop k)).2.1 = 0) : DJ bs n (acc ++ [(dec1 (bs.drop k)).1]) (k + (dec1 (bs.drop k)).2.2.1) := by
  obtain ⟨g1, g2, g3, g4⟩ := h
  obtain ⟨a1, a2, a3, a4⟩ := dec1_ok (fun c hc => hb c (List.mem_of_mem_drop hc)) h1
  rw [List.length_drop] at a4
  have en : n - acc.length = (n - (acc ++ [(dec1 (bs.drop k)).1]).length) + 1 := by simp; omega
  rw [en, decs] at g3 g4
  rw [List.drop_drop] at g3 g4
  refine ⟨by simp; omega, by omega, fun e => ?_, fun e => ?_⟩
  · rw [if_neg (by simp [h1]), if_pos e] at g3
    rw [g3 e]; simp; omega
  · rw [if_neg (fun h => h h1), if_neg (fun h => h e)] at g4
    rw [g4 rfl]; simp
theorem DJ.done {bs : List Int} {n : Nat} {acc : List In} {k : Nat} (h : DJ bs n acc k) (hn : acc.length = n) (hk : k = bs.length) : decs n bs = (acc, 0, 0) := by
  obtain ⟨g1, g2, g3, g4⟩ := h
  rw [show n - acc.length = 0 by omega, decs, if_pos (by simp; omega)] at g4
  simpa using g4 rfl
end Go.Proofs.YtjbbbejadhojlaaDoor

namespace Go.Proofs.YtjbbbejadhojlaaDoor
open Go.RowKit
set_option linter.unusedVariables false
set_option linter.unusedSimpArgs false

/-- The table, where the world holds it. -/
def Rws (w : World) : Prop := 1 < w.heap.size ∧ ∀ k : Nat, k < 29 → w.cell? ⟨1, k * 6, none⟩ = some (.string (nmA k)) ∧ w.cell? ⟨1, k * 6 + 1, none⟩ = some (.int .u8 (onA k : Int)) ∧ w.cell? ⟨1, k * 6 + 2, none⟩ = some (.int .u8 (tkA k : Int)) ∧ w.cell? ⟨1, k * 6 + 3, none⟩ = some (.int .u8 (ptA k : Int)) ∧ w.cell? ⟨1, k * 6 + 4, none⟩ = some (.int .i32 (baA k : Int)) ∧ w.cell? ⟨1, k * 6 + 5, none⟩ = some (.int .i32 (bbA k : Int))
theorem Rws.later {w w' : World} {n : Nat} (h : Rws w) (b : Below n w w') (hn : w.heap.size ≤ n) : Rws w' := by
  refine ⟨Nat.lt_of_lt_of_le h.1 b.size, fun k hk => ?_⟩
  have g : ∀ o, w'.cell? ⟨1, o, none⟩ = w.cell? ⟨1, o, none⟩ := fun o => b.cell (p := ⟨1, o, none⟩) (Nat.lt_of_lt_of_le h.1 hn)
  rw [g, g, g, g, g, g]
  exact h.2 k hk
theorem Rws.alloc {w : World} (h : Rws w) (c : Obj) : Rws (w.alloc c) := h.later ((Below.refl _ _).alloc (Nat.le_refl _) _) (Nat.le_refl _)
theorem Rws.below {w w' : World} (h : Rws w) (b : Below w.heap.size w w') : Rws w' := h.later b (Nat.le_refl _)

theorem heap_new (w : World) (o : Obj) : (w.alloc o).heap[w.heap.size]? = some o := by show (w.heap.push o)[w.heap.size]? = _; simp
theorem box_all6 {w : World} {x : Nat} {a b c d e f : Value} {t : TypeId} (h : w.heap[x]? = some (.cells #[a, b, c, d, e, f] t)) : w.cell? ⟨x, 0, none⟩ = some a ∧ w.cell? ⟨x, 1, none⟩ = some b ∧ w.cell? ⟨x, 2, none⟩ = some c ∧ w.cell? ⟨x, 3, none⟩ = some d ∧ w.cell? ⟨x, 4, none⟩ = some e ∧ w.cell? ⟨x, 5, none⟩ = some f := by
  refine ⟨?_, ?_, ?_, ?_, ?_, ?_⟩ <;> simp [World.cell?, h]
theorem below_dr2 {B : Nat} {a w : World} (h : Below B a w) : Below B a w.drew := ⟨h.os, h.tape, h.output, h.size, h.block⟩
/-- A row, as a value. -/
abbrev rowV (n : ByteArray) (o t p a b : Int) : Value := .agg #[.string n, .int .u8 o, .int .u8 t, .int .u8 p, .int .i32 a, .int .i32 b]
def zr : Obj := .cells #[.string ⟨#[]⟩, .int .u8 0, .int .u8 0, .int .u8 0, .int .i32 0, .int .i32 0] 121
set_option maxHeartbeats 1000000 in
theorem rowOf_in (k : Nat) (hk : k < 29) (w : World) (h : Rws w) :
    Calls Tryd.prog 64 #[.int .i64 (k : Int)] w fun e w' => e = .returned (.tuple #[rowV (nmA k) (onA k : Int) (tkA k : Int) (ptA k : Int) (baA k : Int) (bbA k : Int), .int .i64 0]) ∧ Below w.heap.size w w' := by
  obtain ⟨c0, c1, c2, c3, c4, c5⟩ := (h.alloc zr).2 k hk
  unfold zr at c0 c1 c2 c3 c4 c5
  generalize nmA k = n at *
  generalize ((onA k : Nat) : Int) = o at *
  generalize ((tkA k : Nat) : Int) = t at *
  generalize ((ptA k : Nat) : Int) = p at *
  generalize ((baA k : Nat) : Int) = a at *
  generalize ((bbA k : Nat) : Int) = b at *
  clear h
  have k0 : ¬ (k : Int) < 0 := by omega
  have k1 : decide (29 ≤ k) = false := by simp; omega
  have k2 : decide ((29 : Int) ≤ (k : Int)) = false := by simp; omega
  go_enter Tryd.func64, Tryd.ntmps64
  go_wp2
  obtain ⟨r0, r1, r2, r3, r4, r5⟩ := box_all6 (heap_new w (.cells #[.string n, .int .u8 o, .int .u8 t, .int .u8 p, .int .i32 a, .int .i32 b] 121))
  exact bodyPost_ret (v := .tuple #[rowV n o t p a b, .int .i64 0]) (by simp [results, Tryd.results64, go_sem, r0, r1, r2, r3, r4, r5]) rfl ⟨rfl, (Below.refl w.heap.size w).alloc (Nat.le_refl _) _⟩
set_option maxHeartbeats 1000000 in
theorem rowOf_out (op : Int) (w : World) (h : op < 0 ∨ 29 ≤ op) :
    Calls Tryd.prog 64 #[.int .i64 op] w fun e w' => e = .returned (.tuple #[rowV ⟨#[]⟩ 0 0 0 0 0, .int .i64 111]) ∧ Below w.heap.size w w' := by
  have R := Lib.hid (box_all6 (heap_new w (.cells #[.string ⟨#[]⟩, .int .u8 0, .int .u8 0, .int .u8 0, .int .i32 0, .int .i32 0] 121)))
  by_cases k0 : op < 0
  · clear h
    go_enter Tryd.func64, Tryd.ntmps64
    go_wp2
    obtain ⟨r0, r1, r2, r3, r4, r5⟩ := R.out
    exact bodyPost_ret (v := .tuple #[rowV ⟨#[]⟩ 0 0 0 0 0, .int .i64 111]) (by simp [results, Tryd.results64, go_sem, r0, r1, r2, r3, r4, r5]) rfl ⟨rfl, (Below.refl w.heap.size w).alloc (Nat.le_refl _) _⟩
  · have k1 : (29 : Int) ≤ op := by omega
    clear h
    go_enter Tryd.func64, Tryd.ntmps64
    go_wp2
    obtain ⟨r0, r1, r2, r3, r4, r5⟩ := R.out
    exact bodyPost_ret (v := .tuple #[rowV ⟨#[]⟩ 0 0 0 0 0, .int .i64 111]) (by simp [results, Tryd.results64, go_sem, r0, r1, r2, r3, r4, r5]) rfl ⟨rfl, (Below.refl w.heap.size w).alloc (Nat.le_refl _) _⟩

/-- What the table says of a number. -/
structure RowE (op : Int) (n : ByteArray) (o t p a b er : Int) : Prop where
  say : (∃ k : Nat, k < 29 ∧ op = (k : Int) ∧ n = nmA k ∧ o = (onA k : Int) ∧ t = (tkA k : Int) ∧ p = (ptA k : Int) ∧ a = (baA k : Int) ∧ b = (bbA k : Int) ∧ er = 0) ∨ ((op < 0 ∨ 29 ≤ op) ∧ n = ⟨#[]⟩ ∧ o = 0 ∧ t = 0 ∧ p = 0 ∧ a = 0 ∧ b = 0 ∧ er = 111)
theorem row_ex (op : Int) : ∃ n o t p a b er, RowE op n o t p a b er := by
  by_cases h : op < 0 ∨ 29 ≤ op
  · exact ⟨_, _, _, _, _, _, _, ⟨.inr ⟨h, rfl, rfl, rfl, rfl, rfl, rfl, rfl⟩⟩⟩
  · exact ⟨_, _, _, _, _, _, _, ⟨.inl ⟨op.toNat, by omega, by omega, rfl, rfl, rfl, rfl, rfl, rfl, rfl⟩⟩⟩
theorem RowE.small {op : Int} {n : ByteArray} {o t p a b er : Int} (h : RowE op n o t p a b er) : (0 ≤ o ∧ o ≤ 2) ∧ (0 ≤ t ∧ t ≤ 3) ∧ (0 ≤ p ∧ p ≤ 1) ∧ (0 ≤ a ∧ a ≤ 262143) ∧ (0 ≤ b ∧ b ≤ 3660) ∧ (er = 0 ∨ er = 111) := by
  rcases h.say with ⟨k, hk, rfl, rfl, rfl, rfl, rfl, rfl, rfl, rfl⟩ | ⟨_, rfl, rfl, rfl, rfl, rfl, rfl, rfl⟩
  · obtain ⟨t1, t2, t3, t4, t5, _⟩ := tab_facts k hk
    omega
  · omega
theorem rowOf_any {op : Int} {n : ByteArray} {o t p a b er : Int} (h : RowE op n o t p a b er) (w : World) (hR : Rws w) :
    Calls Tryd.prog 64 #[.int .i64 op] w fun e w' => e = .returned (.tuple #[rowV n o t p a b, .int .i64 er]) ∧ Below w.heap.size w w' := by
  rcases h.say with ⟨k, hk, rfl, rfl, rfl, rfl, rfl, rfl, rfl, rfl⟩ | ⟨hr, rfl, rfl, rfl, rfl, rfl, rfl, rfl⟩
  · exact rowOf_in k hk w hR
  · exact rowOf_out op w hr
theorem wrap_id {x : Int} (h : -1000000 ≤ x ∧ x ≤ 1000000) : IntKind.i64.wrap x = x := by
  simp [IntKind.wrap, IntKind.bits, IntKind.signed]; omega
theorem effect_any {op : Int} {n : ByteArray} {o t p a b er : Int} (h : RowE op n o t p a b er) (w : World) (hR : Rws w) :
    Calls Tryd.prog 39 #[.int .i64 op] w fun e w' => e = .returned (.tuple #[.int .i64 t, .int .i64 p, .int .i64 er]) ∧ Below w.heap.size w w' := by
  have K := Lib.hid (rowOf_any h w hR)
  have q1 : IntKind.i64.wrap t = t := wrap_id (by have := h.small; omega)
  have q2 : IntKind.i64.wrap p = p := wrap_id (by have := h.small; omega)
  clear h hR
  go_enter Tryd.func39, Tryd.ntmps39
  go_wp2_with (go_at_call 64; refine K.out.mono ?_; rintro e w1 ⟨rfl, h1⟩; have B1 := Lib.hid h1; clear h1)
  go_region
  all_goals go_wp2
  all_goals
    go_ret3
    exact ⟨rfl, below_dr2 (B1.out.alloc B1.out.size _)⟩
end Go.Proofs.YtjbbbejadhojlaaDoor

namespace Go.Proofs.YtjbbbejadhojlaaDoor
open Go.RowKit
set_option linter.unusedVariables false
set_option linter.unusedSimpArgs false

theorem BkP.lat {W W' : World} {b : Nat} {cs : Array Value} {t : TypeId} (h : BkP W b cs t) (g : Below W.heap.size W W') : BkP W' b cs t := h.grown (gr_below g none) (by simp)
def ptN (b : Option Nat) : Value := .pointer (b.map (fun x => ⟨x, 0, none⟩))
/-- The blocks of a stack's cells, by what lies on the stack. -/
abbrev Tg := List Nat → Option Nat
def blwN (G : Tg) (s : List Nat) : Option Nat := match s with | [] => none | _ :: t => G t
def cellA (G : Tg) (s : List Nat) : Array Value := #[.int .u8 ((s.headD 0 : Nat) : Int), ptN (blwN G s), .pointer none, ptN (G (1 :: s)), ptN (G (2 :: s))]
structure Tri (W : World) (B : Nat) (G : Tg) : Prop where
  root : ∃ r, G [] = some r
  box : ∀ s b, G s = some b → B ≤ b ∧ BkP W b (cellA G s) 78
  inj : ∀ s t b, G s = some b → G t = some b → s = t
  pre : ∀ x s b, G (x :: s) = some b → ∃ c, G s = some c
/-- A sheet: 32 words. -/
def shA (sh : Nat → Nat) : Array Value := ((List.range 32).map (fun k => Value.int .u64 ((sh k : Nat) : Int))).toArray
def bitS (sh : Nat → Nat) (m : Nat) : Nat := if (sh (m / 64 * 2)).testBit (m % 64) then 1 else if (sh (m / 64 * 2 + 1)).testBit (m % 64) then 2 else 0
structure ShR (W : World) (b : Nat) (sh : Nat → Nat) : Prop where
  box : BkP W b (shA sh) 132
  sz : ∀ k, sh k < 18446744073709551616
  ap : ∀ g, g < 16 → ∀ i, i < 64 → ¬ ((sh (g * 2)).testBit i = true ∧ (sh (g * 2 + 1)).testBit i = true)
/-- One of the sixteen parts of the slots. -/
def PaR (W : World) (B : Nat) (p : Option Nat) (f : Nat → Nat) : Prop := (p = none ∧ ∀ m, m < 1024 → f m = 0) ∨ ∃ b sh, p = some b ∧ B ≤ b ∧ ShR W b sh ∧ ∀ m, m < 1024 → f m = bitS sh m
def SlR (W : World) (B : Nat) (ps : Nat → Option Nat) (f : Nat → Nat) : Prop := ∀ j, j < 16 → PaR W B (ps j) (fun m => f (j * 1024 + m))
def stA (tb : Nat) (h : Nat) (ps : Nat → Option Nat) : Array Value := (.pointer (some ⟨tb, 0, none⟩) :: .int .i64 (h : Int) :: (List.range 16).map (fun j => ptN (ps j))).toArray
/-- A state in its block. -/
structure SvR (W : World) (B : Nat) (G : Tg) (x tb : Nat) (ps : Nat → Option Nat) (s : Vs) : Prop where
  top : G s.st = some tb
  box : BkP W x (stA tb s.st.length ps) 61
  slt : SlR W B ps s.sl
  low : B ≤ x
theorem bk_ne {W : World} {a b : Nat} {x y : Array Value} {s t : TypeId} (h : BkP W a x s) (k : BkP W b y t) (n : s ≠ t) : a ≠ b := by
  rintro rfl
  have e := h.symm.trans k
  injection e with e
  injection e with e1 e2
  exact n e2
/-- What changes at one block alone, of one type, leaves all boxes of other types. -/
theorem Tri.other {W W' : World} {B : Nat} {G : Tg} {x : Nat} {y : Array Value} {t : TypeId} (h : Tri W B G) (g : W.grownBy W' (some x)) (hx : BkP W x y t) (ht : t ≠ 78) : Tri W' B G :=
  ⟨h.root, fun s b e => ⟨(h.box s b e).1, (h.box s b e).2.grown g (by intro q; injection q with q; exact bk_ne (h.box s b e).2 hx (Ne.symm ht) q)⟩, h.inj, h.pre⟩
theorem Tri.later {W W' : World} {B : Nat} {G : Tg} (h : Tri W B G) (g : Below W.heap.size W W') : Tri W' B G :=
  ⟨h.root, fun s b e => ⟨(h.box s b e).1, (h.box s b e).2.lat g⟩, h.inj, h.pre⟩
theorem ShR.later {W W' : World} {b : Nat} {sh : Nat → Nat} (h : ShR W b sh) (g : Below W.heap.size W W') : ShR W' b sh := ⟨h.box.lat g, h.sz, h.ap⟩
theorem ShR.other {W W' : World} {b : Nat} {sh : Nat → Nat} {x : Nat} {y : Array Value} {t : TypeId} (h : ShR W b sh) (g : W.grownBy W' (some x)) (hx : BkP W x y t) (ht : t ≠ 132) : ShR W' b sh :=
  ⟨h.box.grown g (by intro q; injection q with q; exact bk_ne h.box hx (Ne.symm ht) q), h.sz, h.ap⟩
theorem PaR.later {W W' : World} {B : Nat} {p : Option Nat} {f : Nat → Nat} (h : PaR W B p f) (g : Below W.heap.size W W') : PaR W' B p f := by
  rcases h with h | ⟨b, sh, h1, h2, h3, h4⟩
  · exact .inl h
  · exact .inr ⟨b, sh, h1, h2, h3.later g, h4⟩
theorem PaR.other {W W' : World} {B : Nat} {p : Option Nat} {f : Nat → Nat} {x : Nat} {y : Array Value} {t : TypeId} (h : PaR W B p f) (g : W.grownBy W' (some x)) (hx : BkP W x y t) (ht : t ≠ 132) : PaR W' B p f := by
  rcases h with h | ⟨b, sh, h1, h2, h3, h4⟩
  · exact .inl h
  · exact .inr ⟨b, sh, h1, h2, h3.other g hx ht, h4⟩
theorem SlR.later {W W' : World} {B : Nat} {ps : Nat → Option Nat} {f : Nat → Nat} (h : SlR W B ps f) (g : Below W.heap.size W W') : SlR W' B ps f := fun j hj => (h j hj).later g
theorem SlR.other {W W' : World} {B : Nat} {ps : Nat → Option Nat} {f : Nat → Nat} {x : Nat} {y : Array Value} {t : TypeId} (h : SlR W B ps f) (g : W.grownBy W' (some x)) (hx : BkP W x y t) (ht : t ≠ 132) : SlR W' B ps f := fun j hj => (h j hj).other g hx ht
theorem SvR.later {W W' : World} {B : Nat} {G : Tg} {x tb : Nat} {ps : Nat → Option Nat} {s : Vs} (h : SvR W B G x tb ps s) (g : Below W.heap.size W W') : SvR W' B G x tb ps s := ⟨h.top, h.box.lat g, h.slt.later g, h.low⟩
theorem stA_size (tb h : Nat) (ps : Nat → Option Nat) : (stA tb h ps).size = 18 := by simp [stA]
theorem stA_top (tb h : Nat) (ps : Nat → Option Nat) : (stA tb h ps)[0]? = some (.pointer (some ⟨tb, 0, none⟩)) := by simp [stA]
theorem stA_ht (tb h : Nat) (ps : Nat → Option Nat) : (stA tb h ps)[1]? = some (.int .i64 (h : Int)) := by simp [stA]
theorem stA_sh (tb h : Nat) (ps : Nat → Option Nat) (j : Nat) (hj : j < 16) : (stA tb h ps)[2 + j]? = some (ptN (ps j)) := by
  unfold stA
  rw [show 2 + j = j + 1 + 1 by omega]
  simp [hj]
theorem shA_at (sh : Nat → Nat) (j : Nat) (hj : j < 32) : (shA sh)[j]? = some (.int .u64 ((sh j : Nat) : Int)) := by
  unfold shA
  simp [hj]
theorem shA_size (sh : Nat → Nat) : (shA sh).size = 32 := by simp [shA]
end Go.Proofs.YtjbbbejadhojlaaDoor
