import Derived.Test.YtpfjnnkjoabgbaaGreatDoorXAR
namespace Go.Proofs.YtpfjnnkjoabgbaaGreatDoor
open Go.RowKit
set_option linter.unusedVariables false
set_option linter.unusedSimpArgs false
theorem do_any {w : World} {B : Nat} {G : Tg} {x tb : Nat} {ps : Nat → Option Nat} {s : Vs} (hT : Tri w B G) (h0 : SvR w B G x tb ps s) (hs : s.ok) (i : In) (hi : i.okP) (day : Int) (hR : Rws w) (hU : Rul w) (gl : 0 < B) (hB : B ≤ w.heap.size) (hz : s.st.length ≤ 262143) :
    Calls Tryz.prog 55 #[.pointer (some ⟨x, 0, none⟩), .agg #[.int .i64 i.o, .int .i64 i.a, .int .i64 i.b], .int .i64 day] w fun e w' => DoE w B G x day s i e w' := by
  obtain ⟨o, a, b⟩ := i
  have ho := hi.1
  have ho2 := hi.2.1
  have ha := hi.2.2.1
  have ha2 := hi.2.2.2.1
  have hb := hi.2.2.2.2.1
  have hb2 := hi.2.2.2.2.2
  have h6 := okP_a6 hi
  have h7 := okP_a7 hi
  have hm := tab_facts o.toNat (by simp at ho ho2 ⊢; omega)
  simp only at ho ho2 ha hb ha2 hm hb2 h6 h7
  obtain ⟨k, rfl⟩ : ∃ k : Nat, o = (k : Int) := ⟨o.toNat, by omega⟩
  obtain ⟨a, rfl⟩ : ∃ x : Nat, a = (x : Int) := ⟨a.toNat, by omega⟩
  obtain ⟨b, rfl⟩ : ∃ y : Nat, b = (y : Int) := ⟨b.toNat, by omega⟩
  simp only [Int.toNat_natCast] at hm ha2 hb2 h6 h7
  have hk : k < 29 := by omega
  have a1 : a < 262144 := by omega
  have b1 : b < 262144 := by omega
  clear hi
  by_cases c1 : s.st.length < tkA k
  · exact do_few hT h0 hs k a b hk a1 b1 day hR hU gl hB hz c1
  by_cases c2 : k = 0 ∧ 0 < s.st.length
  · exact do_end hT h0 hs k a b hk a1 b1 day hR hU gl hB hz c1 c2.1 c2.2
  by_cases c3 : wtA k = vTak (tkA k) s.st ∨ wtA k = [3, 0, 0]
  · by_cases e6 : k = 6
    · exact do_keep hT h0 hs k a b hk a1 b1 day hR hU gl hB hz (by omega) c2 c3 e6 (h6 e6)
    by_cases e7 : k = 7
    · by_cases g : s.sl a = 0
      · exact do_get0 hT h0 hs k a b hk a1 b1 day hR hU gl hB hz (by omega) c2 c3 e7 (h7 e7) g
      · exact do_get1 hT h0 hs k a b hk a1 b1 day hR hU gl hB hz (by omega) c2 c3 e7 (h7 e7) g
    by_cases c4 : k = 3 ∧ day < (b : Int)
    · exact do_back hT h0 hs k a b hk a1 b1 day hR hU gl hB hz (by omega) c2 c3 c4.1 c4.2
    by_cases p0 : psA k = 0
    · by_cases e0 : k = 0
      · exact do_none0 hT h0 hs k a b hk a1 b1 day hR hU gl hB hz (by omega) c2 c3 e6 e7 c4 p0 e0
      · exact do_none1 hT h0 hs k a b hk a1 b1 day hR hU gl hB hz (by omega) c2 c3 e6 e7 c4 p0 e0 (by intro q; subst q; revert p0; decide)
    · by_cases e3 : k = 3
      · exact do_put3 hT h0 hs k a b hk a1 b1 day hR hU gl hB hz (by omega) c2 c3 e6 e7 c4 p0 e3
      · exact do_put1 hT h0 hs k a b hk a1 b1 day hR hU gl hB hz (by omega) c2 c3 e6 e7 c4 p0 e3
  · exact do_sort hT h0 hs k a b hk a1 b1 day hR hU gl hB hz (by omega) c2 c3
def ahA (A : Nat → Option Nat) (n : Nat) : Array Value := ((List.range n).map (fun j => ptN (A j))).toArray
theorem ahA_size (A : Nat → Option Nat) (n : Nat) : (ahA A n).size = n := by simp [ahA]
theorem ahA_at (A : Nat → Option Nat) (n j : Nat) (hj : j < n) : (ahA A n)[j]? = some (ptN (A j)) := by
  unfold ahA
  simp [hj]
theorem ahA_set (A : Nat → Option Nat) (n j y : Nat) (hj : j < n) : (ahA A n).set! j (.pointer (some ⟨y, 0, none⟩)) = ahA (fun i => if i = j then some y else A i) n := by
  apply Array.ext_getElem?
  intro k
  rw [Array.set!_eq_setIfInBounds, Array.getElem?_setIfInBounds]
  by_cases hk : k < n
  · rw [ahA_at _ _ k hk, ahA_at _ _ k hk, ahA_size]
    by_cases e : k = j
    · subst e
      rw [if_pos rfl, if_pos hj, if_pos rfl]
      rfl
    · rw [if_neg (fun q => e q.symm), if_neg e]
  · rw [if_neg (by omega), Array.getElem?_eq_none (by rw [ahA_size]; omega), Array.getElem?_eq_none (by rw [ahA_size]; omega)]
/-- A walk in memory, its states ahead of the instructions. -/
structure WkR (W : World) (B wb ab : Nat) (day : Int) (ca : Option Addr) (cc n : Nat) (G : Tg) (A : Nat → Option Nat) (l : Nat → Option Vs) : Prop where
  tri : Tri W B G
  wk : BkP W wb #[.int .i64 day, .slice ca n cc, .slice (some ⟨ab, 0, none⟩) n n] 105
  ah : BkP W ab (ahA A n) 102
  st : ∀ j, j < n → (l j = none ∧ A j = none) ∨ ∃ x s tb ps, l j = some s ∧ A j = some x ∧ SvR W B G x tb ps s
  inj : ∀ i j x, i < n → j < n → A i = some x → A j = some x → i = j
  low : B ≤ wb ∧ B ≤ ab
  ok : Aok l
def chX (ab n : Nat) (A : Nat → Option Nat) : Nat → Prop := fun b => b = ab ∨ ∃ j, j < n ∧ A j = some b
theorem WkR.stt {W : World} {B wb ab : Nat} {day : Int} {ca : Option Addr} {cc n : Nat} {G : Tg} {A : Nat → Option Nat} {l : Nat → Option Vs} (h : WkR W B wb ab day ca cc n G A l) {j x : Nat} (hj : j < n) (e : A j = some x) : ∃ y, BkP W x y 101 := by
  rcases h.st j hj with ⟨_, h2⟩ | ⟨x', s, tb, ps, h1, h2, h3⟩
  · rw [h2] at e; cases e
  · rw [h2] at e
    injection e with e
    subst e
    exact ⟨_, h3.box⟩
theorem WkR.chg {W V : World} {B wb ab : Nat} {day : Int} {ca : Option Addr} {cc n : Nat} {G H : Tg} {A : Nat → Option Nat} {l : Nat → Option Vs} {X : Nat → Prop} (h : WkR W B wb ab day ca cc n G A l) (c : Chg W V B G H X) (hx : ∀ b y t, BkP W b y t → X b → (t = 101 ∧ ∀ j, j < n → A j ≠ some b)) : WkR V B wb ab day ca cc n H A l := by
  have no : ∀ {b y t}, BkP W b y t → t ≠ 101 → ¬ X b := fun k ht q => ht (hx _ _ _ k q).1
  refine ⟨c.tri, c.stay _ _ _ h.wk (no h.wk (by decide)) (by decide), c.stay _ _ _ h.ah (no h.ah (by decide)) (by decide), fun j hj => ?_, h.inj, h.low, h.ok⟩
  rcases h.st j hj with q | ⟨x, s, tb, ps, h1, h2, h3⟩
  · exact .inl q
  · exact .inr ⟨x, s, tb, ps, h1, h2, h3.chg c (fun z y hz => no hz (by decide)) (fun q => (hx _ _ _ h3.box q).2 j hj h2)⟩
theorem WkR.later {W V : World} {B wb ab : Nat} {day : Int} {ca : Option Addr} {cc n : Nat} {G : Tg} {A : Nat → Option Nat} {l : Nat → Option Vs} (h : WkR W B wb ab day ca cc n G A l) (b : Below W.heap.size W V) : WkR V B wb ab day ca cc n G A l :=
  ⟨h.tri.later b, h.wk.lat b, h.ah.lat b, fun j hj => (h.st j hj).imp id (fun ⟨x, s, tb, ps, h1, h2, h3⟩ => ⟨x, s, tb, ps, h1, h2, h3.later b⟩), h.inj, h.low, h.ok⟩
/-- What hand leaves. -/
structure HdE (W : World) (B wb ab : Nat) (day : Int) (ca : Option Addr) (cc n : Nat) (G : Tg) (A : Nat → Option Nat) (l : Nat → Option Vs) (t : Nat) (s : Vs) (e : Ending) (V : World) : Prop where
  ret : e = .returned (.int .i64 (vHand (l t) s).1)
  sta : ∃ A', WkR V B wb ab day ca cc n G A' (vSet l t (vHand (l t) s).2) ∧ ∀ j x, A' j = some x → A j = some x ∨ W.heap.size ≤ x
  chg : Chg W V B G G (chX ab n A)
theorem vSet_id {l : Nat → Option Vs} {t : Nat} {v : Option Vs} (h : l t = v) : vSet l t v = l := by
  funext j
  unfold vSet
  split
  · rename_i e; rw [e, h]
  · rfl
theorem hand_same {W V : World} {B wb ab : Nat} {day : Int} {ca : Option Addr} {cc n : Nat} {G : Tg} {A : Nat → Option Nat} {l : Nat → Option Vs} {t : Nat} {s u : Vs} {e : Int} (h : WkR W B wb ab day ca cc n G A l) (hB : B ≤ W.heap.size) (hl : l t = some u) (hv : vHand (l t) s = (e, some u)) (b : Below W.heap.size W V) : HdE W B wb ab day ca cc n G A l t s (.returned (.int .i64 e)) V := by
  refine ⟨by rw [hv], ⟨A, ?_, fun j x q => .inl q⟩, (Chg.refl h.tri).later hB b⟩
  rw [hv]
  simp only
  rw [vSet_id hl]
  exact h.later b
theorem eq_top (w : World) (a b : Nat) (ha : ∃ c u, BkP w a c u) (hb : ∃ c u, BkP w b c u) : (Op.equalIn 9999 94 (.pointer (some ⟨a, 0, none⟩)) (.pointer (some ⟨b, 0, none⟩))).run Tryz.prog w = .ok (decide (a = b)) w := by
  obtain ⟨i, hi⟩ := info_of_underlying (P := Tryz.prog) (t := 123) Tryz.underlying123
  have E := eq_ptr (P := Tryz.prog) (w := w) (d := 9998) (t := 94) (te := 123) (i := i) (by kernel_rfl) hi (by rw [show Tryz.prog.cellsOf 123 = 5 by kernel_rfl]; decide) (some a) (some b) (by intro z e; injection e with e; subst e; exact ha) (by intro z e; injection e with e; subst e; exact hb)
  simp only [ptN, Option.map_some, Nat.reduceAdd] at E
  have d : decide (some a = some b) = decide (a = b) := by by_cases q : a = b <;> simp [q]
  rw [d] at E
  exact E
theorem eq_stack (w : World) (a b : Nat) (h k : Int) (ha : ∃ c u, BkP w a c u) (hb : ∃ c u, BkP w b c u) : (Op.equalIn 10000 96 (.agg #[.pointer (some ⟨a, 0, none⟩), .int .i64 h]) (.agg #[.pointer (some ⟨b, 0, none⟩), .int .i64 k])).run Tryz.prog w = .ok (decide (a = b) && (h == k)) w := by
  obtain ⟨i, hi⟩ := info_of_underlying (P := Tryz.prog) (t := 123) Tryz.underlying123
  have E := eq_ptr (P := Tryz.prog) (w := w) (d := 9998) (t := 94) (te := 123) (i := i) (by kernel_rfl) hi (by rw [show Tryz.prog.cellsOf 123 = 5 by kernel_rfl]; decide) (some a) (some b) (by intro z e; injection e with e; subst e; exact ha) (by intro z e; injection e with e; subst e; exact hb)
  simp only [ptN, Option.map_some, Nat.reduceAdd] at E
  clear hi
  have d : decide (some a = some b) = decide (a = b) := by by_cases q : a = b <;> simp [q]
  rw [d] at E
  generalize decide (a = b) = q at *
  go_simp
  cases q <;> cases h2 : (h == k) <;> simp_all
end Go.Proofs.YtpfjnnkjoabgbaaGreatDoor

namespace Go.Proofs.YtpfjnnkjoabgbaaGreatDoor
open Go.RowKit
set_option linter.unusedVariables false
set_option linter.unusedSimpArgs false
theorem bel_drV {W V : World} (b : Below W.heap.size W V) (q : Nat) : Below W.heap.size W (V.drewN q) := ⟨b.os, b.tape, b.output, b.size, b.block⟩
abbrev hOb (tb h : Nat) (ps : Nat → Option Nat) : Obj := .cells (stA tb h ps) 101
theorem hand_new {W : World} {B wb ab : Nat} {day : Int} {ca : Option Addr} {cc n : Nat} {G : Tg} {A : Nat → Option Nat} {l : Nat → Option Vs} {t tb : Nat} {s : Vs} {ps : Nat → Option Nat} (h : WkR W B wb ab day ca cc n G A l) (hB : B ≤ W.heap.size) (ht : t < n) (hl : l t = none) (hA : A t = none) (hs : s.ok) (hg : G s.st = some tb) (hp : SlR W B ps s.sl) :
    HdE W B wb ab day ca cc n G A l t s (.returned (.int .i64 0)) ((W.alloc (hOb tb s.st.length ps)).setCell ⟨ab, t, none⟩ (.pointer (some ⟨W.heap.size, 0, none⟩))) := by
  have b := allocBP W (hOb tb s.st.length ps)
  have h1 := h.later b
  have g := setCell_gr (W.alloc (hOb tb s.st.length ps)) ab t (.pointer (some ⟨W.heap.size, 0, none⟩))
  have c := Chg.ofGrown h1.tri g h1.ah (by decide) h.low.2
  have nb : BkP (W.alloc (hOb tb s.st.length ps)) W.heap.size (stA tb s.st.length ps) 101 := heapN _ _
  have na : W.heap.size ≠ ab := fun e => by have := h.ah.lt; omega
  have ev : vHand (l t) s = (0, some s) := by rw [hl]; rfl
  have fr : ∀ j x, j < n → A j = some x → x < W.heap.size := fun j x hj e => by obtain ⟨y, k⟩ := h.stt hj e; exact k.lt
  have nsh : ∀ z y, BkP (W.alloc (hOb tb s.st.length ps)) z y 185 → ¬ z = ab := fun z y k e => bk_ne k h1.ah (by decide) e
  refine ⟨by rw [ev], ⟨fun i => if i = t then some W.heap.size else A i, ?_, ?_⟩, ?_⟩
  · rw [ev]
    refine ⟨c.tri, c.stay _ _ _ h1.wk (fun e => bk_ne h1.wk h1.ah (by decide) e) (by decide), ?_, ?_, ?_, h.low, vSet_ok h.ok (fun u e => by injection e with e; subst e; exact hs)⟩
    · have := h1.ah.set2 t (.pointer (some ⟨W.heap.size, 0, none⟩)) (by rw [ahA_size]; exact ht)
      rw [ahA_set _ _ _ _ ht] at this
      exact this
    · intro j hj
      by_cases e : j = t
      · subst e
        refine .inr ⟨W.heap.size, s, tb, ps, by unfold vSet; rw [if_pos rfl], by rw [if_pos rfl], hg, ?_, (hp.later b).chg c nsh, hB⟩
        exact c.stay _ _ _ nb na (by decide)
      · rcases h1.st j hj with ⟨q1, q2⟩ | ⟨x, u, tb', ps', q1, q2, q3⟩
        · exact .inl ⟨by unfold vSet; rw [if_neg e]; exact q1, by rw [if_neg e]; exact q2⟩
        · exact .inr ⟨x, u, tb', ps', by unfold vSet; rw [if_neg e]; exact q1, by rw [if_neg e]; exact q2, q3.chg c nsh (fun e => bk_ne q3.box h1.ah (by decide) e)⟩
    · intro i j x hi hj e1 e2
      by_cases f1 : i = t <;> by_cases f2 : j = t
      · rw [f1, f2]
      · rw [if_pos f1] at e1
        rw [if_neg f2] at e2
        have := fr j x hj e2
        injection e1 with e1
        omega
      · rw [if_neg f1] at e1
        rw [if_pos f2] at e2
        have := fr i x hi e1
        injection e2 with e2
        omega
      · rw [if_neg f1] at e1
        rw [if_neg f2] at e2
        exact h.inj i j x hi hj e1 e2
  · intro j x e
    by_cases f : j = t
    · simp only [if_pos f] at e
      injection e with e
      exact .inr (by omega)
    · simp only [if_neg f] at e
      exact .inl e
  · exact ((Chg.refl h.tri).later hB b).trans (c.mono (fun z e => .inl e))
set_option maxRecDepth 100000 in
set_option maxHeartbeats 800000 in
theorem hand_nil {W : World} {B wb ab : Nat} {day : Int} {ca : Option Addr} {cc n : Nat} {G : Tg} {A : Nat → Option Nat} {l : Nat → Option Vs} {t tb : Nat} {s : Vs} {ps : Nat → Option Nat} (h : WkR W B wb ab day ca cc n G A l) (hB : B ≤ W.heap.size) (ht : t < n) (hl : l t = none) (hs : s.ok) (hg : G s.st = some tb) (hp : SlR W B ps s.sl) :
    Calls Tryz.prog 105 #[.pointer (some ⟨wb, 0, none⟩), .int .i64 (t : Int), .agg (stA tb s.st.length ps)] W fun e w' => HdE W B wb ab day ca cc n G A l t s e w' := by
  have hA : A t = none := by
    rcases h.st t ht with ⟨_, q⟩ | ⟨x, u, tb', ps', q1, _⟩
    · exact q
    · rw [hl] at q1; cases q1
  have E := Lib.hid (hand_new h hB ht hl hA hs hg hp)
  have h1 := h.later (allocBP W (hOb tb s.st.length ps))
  have c2 := h1.wk.cell 2
  have d := h1.ah.cell t
  have f := h1.ah.frozen t
  rw [ahA_at _ _ _ ht, hA] at d
  simp [ptN] at c2 d
  have k0 : ¬ (t : Int) < 0 := by omega
  have k1 : (t : Int) < (n : Int) := by omega
  clear h h1 hl hA hs hg hp ht
  unfold hOb at *
  generalize s.st.length = len at *
  go_enter Tryz.func105, Tryz.ntmps105
  go_wp2
  go_ret
  exact E.out
set_option maxRecDepth 100000 in
set_option maxHeartbeats 800000 in
theorem hand_high {W : World} {B wb ab : Nat} {day : Int} {ca : Option Addr} {cc n : Nat} {G : Tg} {A : Nat → Option Nat} {l : Nat → Option Vs} {t tb : Nat} {s u : Vs} {ps : Nat → Option Nat} (h : WkR W B wb ab day ca cc n G A l) (hB : B ≤ W.heap.size) (ht : t < n) (hl : l t = some u) (hn : u.st.length ≠ s.st.length) :
    Calls Tryz.prog 105 #[.pointer (some ⟨wb, 0, none⟩), .int .i64 (t : Int), .agg (stA tb s.st.length ps)] W fun e w' => HdE W B wb ab day ca cc n G A l t s e w' := by
  obtain ⟨x, tx, px, hA, hx⟩ : ∃ x tx px, A t = some x ∧ SvR W B G x tx px u := by
    rcases h.st t ht with ⟨q, _⟩ | ⟨x, u', tb', ps', q1, q2, q3⟩
    · rw [hl] at q; cases q
    · rw [hl] at q1
      injection q1 with q1
      subst q1
      exact ⟨x, tb', ps', q2, q3⟩
  have ev : vHand (l t) s = (142, some u) := by rw [hl]; unfold vHand; simp only; rw [if_pos hn]
  have E := Lib.hid (fun V b => hand_same (V := V) h hB hl ev b)
  have h1 := h.later (allocBP W (hOb tb s.st.length ps))
  have c2 := h1.wk.cell 2
  have d := h1.ah.cell t
  rw [ahA_at _ _ _ ht, hA] at d
  simp [ptN] at c2 d
  have x1 := (hx.later (allocBP W (hOb tb s.st.length ps))).box.cell 1
  rw [stA_ht] at x1
  have y1 := BkP.cell (heapN W (hOb tb s.st.length ps)) 1
  rw [stA_ht] at y1
  have k0 : ¬ (t : Int) < 0 := by omega
  have k1 : (t : Int) < (n : Int) := by omega
  have ne : ((u.st.length : Int) != (s.st.length : Int)) = true := by simp; omega
  clear h h1 hl hA ht hn ev hx
  unfold hOb at *
  generalize s.st.length = len at *
  generalize u.st.length = ulen at *
  go_enter Tryz.func105, Tryz.ntmps105
  go_wp2
  go_quiet (fail)
  go_wp2
  go_ret
  exact E.out _ (bel_drV (allocBP _ _) _)
theorem top_eq {W : World} {B : Nat} {G : Tg} (hT : Tri W B G) {s t : List Nat} {a b : Nat} (h : G s = some a) (k : G t = some b) : (a = b ↔ s = t) := by
  constructor
  · intro e; subst e; exact hT.inj _ _ _ h k
  · intro e; subst e; rw [h] at k; injection k
theorem drew_blk {W : World} {b : Nat} {q : Nat} (h : ∃ c u, BkP W b c u) : ∃ c u, BkP (W.drewN q) b c u := h
set_option maxRecDepth 100000 in
set_option maxHeartbeats 800000 in
theorem hand_unlike {W : World} {B wb ab : Nat} {day : Int} {ca : Option Addr} {cc n : Nat} {G : Tg} {A : Nat → Option Nat} {l : Nat → Option Vs} {t tb : Nat} {s u : Vs} {ps : Nat → Option Nat} (h : WkR W B wb ab day ca cc n G A l) (hB : B ≤ W.heap.size) (ht : t < n) (hl : l t = some u) (hn : u.st.length = s.st.length) (hne : u.st ≠ s.st) (hg : G s.st = some tb) :
    Calls Tryz.prog 105 #[.pointer (some ⟨wb, 0, none⟩), .int .i64 (t : Int), .agg (stA tb s.st.length ps)] W fun e w' => HdE W B wb ab day ca cc n G A l t s e w' := by
  obtain ⟨x, tx, px, hA, hx⟩ : ∃ x tx px, A t = some x ∧ SvR W B G x tx px u := by
    rcases h.st t ht with ⟨q, _⟩ | ⟨x, u', tb', ps', q1, q2, q3⟩
    · rw [hl] at q; cases q
    · rw [hl] at q1
      injection q1 with q1
      subst q1
      exact ⟨x, tb', ps', q2, q3⟩
  have ev : vHand (l t) s = (143, some u) := by rw [hl]; unfold vHand; simp only; rw [if_neg (by omega), if_pos hne]
  have E := Lib.hid (fun V b => hand_same (V := V) h hB hl ev b)
  have h1 := h.later (allocBP W (hOb tb s.st.length ps))
  have c2 := h1.wk.cell 2
  have d := h1.ah.cell t
  rw [ahA_at _ _ _ ht, hA] at d
  simp [ptN] at c2 d
  have hx1 := hx.later (allocBP W (hOb tb s.st.length ps))
  have x1 := hx1.box.cell 1
  have x0 := hx1.box.cell 0
  rw [stA_ht] at x1
  rw [stA_top] at x0
  have y1 := BkP.cell (heapN W (hOb tb s.st.length ps)) 1
  have y0 := BkP.cell (heapN W (hOb tb s.st.length ps)) 0
  rw [stA_ht] at y1
  rw [stA_top] at y0
  have tn : decide (tx = tb) = false := decide_eq_false (fun e => hne ((top_eq h.tri hx.top hg).1 e))
  have Q : ∀ V, Below (W.alloc (hOb tb s.st.length ps)).heap.size (W.alloc (hOb tb s.st.length ps)) V → (Op.equalIn 9999 94 (.pointer (some ⟨tx, 0, none⟩)) (.pointer (some ⟨tb, 0, none⟩))).run Tryz.prog V = .ok false V := fun V bV => by
    have := eq_top V tx tb ⟨_, _, ((h1.tri.box _ _ hx.top).2).lat bV⟩ ⟨_, _, ((h1.tri.box _ _ hg).2).lat bV⟩
    rw [tn] at this
    exact this
  have k0 : ¬ (t : Int) < 0 := by omega
  have k1 : (t : Int) < (n : Int) := by omega
  rw [hn] at x1
  have ne : ((s.st.length : Int) != (s.st.length : Int)) = false := by simp
  clear h h1 hl hA ht hn ev hx hx1 tn hne hg
  unfold hOb at *
  generalize s.st.length = len at *
  go_enter Tryz.func105, Tryz.ntmps105
  go_wp2
  go_quiet (fail)
  go_wp2
  refine wp_region_held_drew (S := fun V => V.cell? ⟨x, 0, none⟩ = some (.pointer (some ⟨tx, 0, none⟩)) ∧ V.cell? ⟨x, 1, none⟩ = some (.int .i64 (len : Int)) ∧ V.cell? ⟨W.heap.size, 0, none⟩ = some (.pointer (some ⟨tb, 0, none⟩)) ∧ V.cell? ⟨W.heap.size, 1, none⟩ = some (.int .i64 (len : Int)) ∧ Below (W.alloc (.cells (stA tb len ps) 101)).heap.size (W.alloc (.cells (stA tb len ps) 101)) V) (by kernel_rfl) ?_ (fun hHeld => ?_)
  · exact ⟨x0, x1, y0, y1, (bel_drV (Below.refl _ _) _).drew⟩
  refine wpAnyH_take (i := 0) (oi := { dst := some 41, op := Op.move (Operand.tmp 7), type := 102, pos := "walk.go:96", after := #[], guard := none }) (v := ?_) rfl (by kernel_rfl) (by kernel_rfl) (by kernel_rfl) (fun _ _ _ h => h) (Or.inl ⟨by rfl, ?_⟩) (by assumption) ?_
  rotate_left 1
  · intro w' hSw; go_simp; try with_reducible rfl
  (try simp only [Act.put, List.setIfInBounds_toArray, List.set_cons_zero, List.set_cons_succ])
  refine wpAnyH_take (i := 1) (oi := { dst := some 42, op := Op.nilCheck (Operand.tmp 41), type := 0, pos := "walk.go:96", after := #[{ on := 0, ground := Ground.data }], guard := none }) (v := ?_) rfl (by kernel_rfl) (by kernel_rfl) (by kernel_rfl) (fun _ _ _ h => h) (Or.inl ⟨by rfl, ?_⟩) (by assumption) ?_
  rotate_left 1
  · intro w' hSw; go_simp; try with_reducible rfl
  (try simp only [Act.put, List.setIfInBounds_toArray, List.set_cons_zero, List.set_cons_succ])
  refine wpAnyH_take (i := 2) (oi := { dst := some 43, op := Op.fieldAddr 101 (Operand.tmp 42) 0, type := 0, pos := "walk.go:96", after := #[{ on := 1, ground := Ground.data }], guard := none }) (v := ?_) rfl (by kernel_rfl) (by kernel_rfl) (by kernel_rfl) (fun _ _ _ h => h) (Or.inl ⟨by rfl, ?_⟩) (by assumption) ?_
  rotate_left 1
  · intro w' hSw; go_simp; try with_reducible rfl
  (try simp only [Act.put, List.setIfInBounds_toArray, List.set_cons_zero, List.set_cons_succ])
  refine wpAnyH_take (i := 3) (oi := { dst := some 44, op := Op.load 96 (Operand.tmp 43), type := 96, pos := "walk.go:96", after := #[{ on := 2, ground := Ground.data }], guard := none }) (v := ?_) rfl (by kernel_rfl) (by kernel_rfl) (by kernel_rfl) (fun _ _ _ h => h) (Or.inl ⟨by rfl, ?_⟩) (by assumption) ?_
  rotate_left 1
  · intro w' hSw; obtain ⟨s0, s1, s2, s3, _⟩ := hSw; go_simp; try with_reducible rfl
  (try simp only [Act.put, List.setIfInBounds_toArray, List.set_cons_zero, List.set_cons_succ])
  refine wpAnyH_take (i := 4) (oi := { dst := some 45, op := Op.fieldAddr 101 (Operand.tmp 5) 0, type := 0, pos := "walk.go:96", after := #[], guard := none }) (v := ?_) rfl (by kernel_rfl) (by kernel_rfl) (by kernel_rfl) (fun _ _ _ h => h) (Or.inl ⟨by rfl, ?_⟩) (by assumption) ?_
  rotate_left 1
  · intro w' hSw; go_simp; try with_reducible rfl
  (try simp only [Act.put, List.setIfInBounds_toArray, List.set_cons_zero, List.set_cons_succ])
  refine wpAnyH_take (i := 5) (oi := { dst := some 46, op := Op.load 96 (Operand.tmp 45), type := 96, pos := "walk.go:96", after := #[{ on := 4, ground := Ground.data }], guard := none }) (v := ?_) rfl (by kernel_rfl) (by kernel_rfl) (by kernel_rfl) (fun _ _ _ h => h) (Or.inl ⟨by rfl, ?_⟩) (by assumption) ?_
  rotate_left 1
  · intro w' hSw; obtain ⟨s0, s1, s2, s3, _⟩ := hSw; go_simp; try with_reducible rfl
  (try simp only [Act.put, List.setIfInBounds_toArray, List.set_cons_zero, List.set_cons_succ])
  refine wpAnyH_take (i := 6) (oi := { dst := some 47, op := Op.binOp BinOp.neq 96 (Operand.tmp 44) (Operand.tmp 46) 96, type := 4, pos := "walk.go:96", after := #[{ on := 3, ground := Ground.data }, { on := 5, ground := Ground.data }], guard := none }) (v := ?_) rfl (by kernel_rfl) (by kernel_rfl) (by kernel_rfl) (fun _ _ _ h => h) (Or.inl ⟨by rfl, ?_⟩) (by assumption) ?_
  rotate_left 1
  · intro w' hSw; have qq := Q w' hSw.2.2.2.2; go_simp; try with_reducible rfl
  (try simp only [Act.put, List.setIfInBounds_toArray, List.set_cons_zero, List.set_cons_succ])
  refine wpAnyH_take (i := 7) (oi := { dst := some 40, op := Op.assign (Operand.tmp 47), type := 4, pos := "walk.go:96", after := #[{ on := 6, ground := Ground.data }], guard := none }) (v := ?_) rfl (by kernel_rfl) (by kernel_rfl) (by kernel_rfl) (fun _ _ _ h => h) (Or.inl ⟨by rfl, ?_⟩) (by assumption) ?_
  rotate_left 1
  · intro w' hSw; go_simp; try with_reducible rfl
  (try simp only [Act.put, List.setIfInBounds_toArray, List.set_cons_zero, List.set_cons_succ])
  refine wpAnyH_done (by kernel_rfl) ?_ _
  clear hHeld
  go_wp2
  go_ret
  exact E.out _ (bel_drV (allocBP _ _) _).drew
theorem hand_met {W V V' : World} {B wb ab : Nat} {day : Int} {ca : Option Addr} {cc n : Nat} {G : Tg} {A : Nat → Option Nat} {l : Nat → Option Vs} {t x tx : Nat} {s u : Vs} {px ps' : Nat → Option Nat} (h : WkR W B wb ab day ca cc n G A l) (hB : B ≤ W.heap.size) (ht : t < n) (hl : l t = some u) (hA : A t = some x) (hx : SvR W B G x tx px u) (hn : u.st = s.st) (b : Below W.heap.size W V) (g : V.grownBy V' (some x)) (hm : SvR V' B G x tx ps' ⟨u.st, vMeet u.sl s.sl⟩) (hs : s.ok) :
    HdE W B wb ab day ca cc n G A l t s (.returned (.int .i64 0)) V' := by
  have ev : vHand (l t) s = (0, some ⟨u.st, vMeet u.sl s.sl⟩) := by rw [hl]; unfold vHand; simp only; rw [if_neg (by rw [hn]; simp), if_neg (by rw [hn]; simp)]
  have h1 := h.later b
  have c := Chg.ofGrown h1.tri g (hx.later b).box (by decide) hx.low
  have nsh : ∀ z y, BkP V z y 185 → ¬ z = x := fun z y k e => bk_ne k (hx.later b).box (by decide) e
  refine ⟨by rw [ev], ⟨A, ?_, fun j x q => .inl q⟩, ((Chg.refl h.tri).later hB b).trans (c.mono (fun z e => .inr ⟨t, ht, by rw [e]; exact hA⟩))⟩
  rw [ev]
  refine ⟨c.tri, c.stay _ _ _ h1.wk (fun e => bk_ne h1.wk (hx.later b).box (by decide) e) (by decide), c.stay _ _ _ h1.ah (fun e => bk_ne h1.ah (hx.later b).box (by decide) e) (by decide), ?_, h.inj, h.low, ?_⟩
  · intro j hj
    by_cases e : j = t
    · subst e
      exact .inr ⟨x, _, tx, ps', by unfold vSet; rw [if_pos rfl], hA, hm⟩
    · rcases h1.st j hj with ⟨q1, q2⟩ | ⟨y, u', tb', ps'', q1, q2, q3⟩
      · exact .inl ⟨by unfold vSet; rw [if_neg e]; exact q1, q2⟩
      · refine .inr ⟨y, u', tb', ps'', by unfold vSet; rw [if_neg e]; exact q1, q2, q3.chg c nsh (fun z => e (h.inj j t x hj ht (by rw [← z]; exact q2) hA))⟩
  · exact vSet_ok h.ok (fun v e => by
      have := vHand_ok (t := l t) (s := s) (fun v e => h.ok t v e) hs v (by rw [ev]; exact e)
      exact this)
set_option maxRecDepth 100000 in
set_option maxHeartbeats 800000 in
theorem hand_meet {W : World} {B wb ab : Nat} {day : Int} {ca : Option Addr} {cc n : Nat} {G : Tg} {A : Nat → Option Nat} {l : Nat → Option Vs} {t tb : Nat} {s u : Vs} {ps : Nat → Option Nat} (h : WkR W B wb ab day ca cc n G A l) (hB : B ≤ W.heap.size) (ht : t < n) (hl : l t = some u) (hn : u.st = s.st) (hs : s.ok) (hg : G s.st = some tb) (hp : SlR W B ps s.sl) :
    Calls Tryz.prog 105 #[.pointer (some ⟨wb, 0, none⟩), .int .i64 (t : Int), .agg (stA tb s.st.length ps)] W fun e w' => HdE W B wb ab day ca cc n G A l t s e w' := by
  obtain ⟨x, tx, px, hA, hx⟩ : ∃ x tx px, A t = some x ∧ SvR W B G x tx px u := by
    rcases h.st t ht with ⟨q, _⟩ | ⟨x, u', tb', ps', q1, q2, q3⟩
    · rw [hl] at q; cases q
    · rw [hl] at q1
      injection q1 with q1
      subst q1
      exact ⟨x, tb', ps', q2, q3⟩
  have KM := Lib.hid (p := ∀ V, Below W.heap.size W V → Calls Tryz.prog 136 #[.pointer (some ⟨x, 2, none⟩), .agg (psL2 ps).toArray] V fun e w' => e = .returned (.tuple #[]) ∧ V.grownBy w' (some x) ∧ ∀ V'', Below w'.heap.size w' V'' → HdE W B wb ab day ca cc n G A l t s (.returned (.int .i64 0)) V'') (fun V b => by
    refine (meet_any (hx.later b) (hp.later b) (Nat.le_trans hB b.size)).mono ?_
    rintro e w' ⟨p1, p2, ps', p3⟩
    exact ⟨p1, p2, fun V'' b2 => hand_met h hB ht hl hA hx hn b (gx_bel p2 b2) (p3.later b2) hs⟩)
  have YR := Lib.hid (p := ∀ V, Below (W.alloc (hOb tb s.st.length ps)).heap.size (W.alloc (hOb tb s.st.length ps)) V → ∀ V', V.grownBy V' (some x) → V'.rangeAt W.heap.size 2 (psL2 ps)) (fun V b V' g => range_st ((BkP.lat (heapN W (hOb tb s.st.length ps)) b).grown g (by intro e; injection e with e; have := hx.box.lt; omega)))
  have h1 := h.later (allocBP W (hOb tb s.st.length ps))
  have c2 := h1.wk.cell 2
  have d := h1.ah.cell t
  rw [ahA_at _ _ _ ht, hA] at d
  simp [ptN] at c2 d
  have hx1 := hx.later (allocBP W (hOb tb s.st.length ps))
  have x1 := hx1.box.cell 1
  have x0 := hx1.box.cell 0
  rw [stA_ht] at x1
  rw [stA_top] at x0
  have y1 := BkP.cell (heapN W (hOb tb s.st.length ps)) 1
  have y0 := BkP.cell (heapN W (hOb tb s.st.length ps)) 0
  rw [stA_ht] at y1
  rw [stA_top] at y0
  have tt : tx = tb := (top_eq h.tri hx.top hg).2 hn
  subst tt
  have Q : ∀ V, Below (W.alloc (hOb tx s.st.length ps)).heap.size (W.alloc (hOb tx s.st.length ps)) V → (Op.equalIn 9999 94 (.pointer (some ⟨tx, 0, none⟩)) (.pointer (some ⟨tx, 0, none⟩))).run Tryz.prog V = .ok true V := fun V bV => by
    have := eq_top V tx tx ⟨_, _, ((h1.tri.box _ _ hx.top).2).lat bV⟩ ⟨_, _, ((h1.tri.box _ _ hg).2).lat bV⟩
    rw [decide_eq_true rfl] at this
    exact this
  have k0 : ¬ (t : Int) < 0 := by omega
  have k1 : (t : Int) < (n : Int) := by omega
  rw [hn] at x1
  have ne : ((s.st.length : Int) != (s.st.length : Int)) = false := by simp
  have hu : Tryz.prog.underlying 99 = some (.array 16 97) := by kernel_rfl
  have i1 : (Tryz.prog.info? 99).map (·.size) = some (psL2 ps).length := by rw [slots_info]; simp [psL2]
  clear h h1 hl hA ht hn hx hx1 hg hp hs
  unfold hOb at *
  generalize s.st.length = len at *
  go_enter Tryz.func105, Tryz.ntmps105
  go_wp2
  go_quiet (fail)
  go_wp2
  refine wp_region_held_drew (S := fun V => V.cell? ⟨x, 0, none⟩ = some (.pointer (some ⟨tx, 0, none⟩)) ∧ V.cell? ⟨x, 1, none⟩ = some (.int .i64 (len : Int)) ∧ V.cell? ⟨W.heap.size, 0, none⟩ = some (.pointer (some ⟨tx, 0, none⟩)) ∧ V.cell? ⟨W.heap.size, 1, none⟩ = some (.int .i64 (len : Int)) ∧ Below (W.alloc (.cells (stA tx len ps) 101)).heap.size (W.alloc (.cells (stA tx len ps) 101)) V) (by kernel_rfl) ?_ (fun hHeld => ?_)
  · exact ⟨x0, x1, y0, y1, (bel_drV (Below.refl _ _) _).drew⟩
  refine wpAnyH_take (i := 0) (oi := { dst := some 41, op := Op.move (Operand.tmp 7), type := 102, pos := "walk.go:96", after := #[], guard := none }) (v := ?_) rfl (by kernel_rfl) (by kernel_rfl) (by kernel_rfl) (fun _ _ _ h => h) (Or.inl ⟨by rfl, ?_⟩) (by assumption) ?_
  rotate_left 1
  · intro w' hSw; go_simp; try with_reducible rfl
  (try simp only [Act.put, List.setIfInBounds_toArray, List.set_cons_zero, List.set_cons_succ])
  refine wpAnyH_take (i := 1) (oi := { dst := some 42, op := Op.nilCheck (Operand.tmp 41), type := 0, pos := "walk.go:96", after := #[{ on := 0, ground := Ground.data }], guard := none }) (v := ?_) rfl (by kernel_rfl) (by kernel_rfl) (by kernel_rfl) (fun _ _ _ h => h) (Or.inl ⟨by rfl, ?_⟩) (by assumption) ?_
  rotate_left 1
  · intro w' hSw; go_simp; try with_reducible rfl
  (try simp only [Act.put, List.setIfInBounds_toArray, List.set_cons_zero, List.set_cons_succ])
  refine wpAnyH_take (i := 2) (oi := { dst := some 43, op := Op.fieldAddr 101 (Operand.tmp 42) 0, type := 0, pos := "walk.go:96", after := #[{ on := 1, ground := Ground.data }], guard := none }) (v := ?_) rfl (by kernel_rfl) (by kernel_rfl) (by kernel_rfl) (fun _ _ _ h => h) (Or.inl ⟨by rfl, ?_⟩) (by assumption) ?_
  rotate_left 1
  · intro w' hSw; go_simp; try with_reducible rfl
  (try simp only [Act.put, List.setIfInBounds_toArray, List.set_cons_zero, List.set_cons_succ])
  refine wpAnyH_take (i := 3) (oi := { dst := some 44, op := Op.load 96 (Operand.tmp 43), type := 96, pos := "walk.go:96", after := #[{ on := 2, ground := Ground.data }], guard := none }) (v := ?_) rfl (by kernel_rfl) (by kernel_rfl) (by kernel_rfl) (fun _ _ _ h => h) (Or.inl ⟨by rfl, ?_⟩) (by assumption) ?_
  rotate_left 1
  · intro w' hSw; obtain ⟨s0, s1, s2, s3, _⟩ := hSw; go_simp; try with_reducible rfl
  (try simp only [Act.put, List.setIfInBounds_toArray, List.set_cons_zero, List.set_cons_succ])
  refine wpAnyH_take (i := 4) (oi := { dst := some 45, op := Op.fieldAddr 101 (Operand.tmp 5) 0, type := 0, pos := "walk.go:96", after := #[], guard := none }) (v := ?_) rfl (by kernel_rfl) (by kernel_rfl) (by kernel_rfl) (fun _ _ _ h => h) (Or.inl ⟨by rfl, ?_⟩) (by assumption) ?_
  rotate_left 1
  · intro w' hSw; go_simp; try with_reducible rfl
  (try simp only [Act.put, List.setIfInBounds_toArray, List.set_cons_zero, List.set_cons_succ])
  refine wpAnyH_take (i := 5) (oi := { dst := some 46, op := Op.load 96 (Operand.tmp 45), type := 96, pos := "walk.go:96", after := #[{ on := 4, ground := Ground.data }], guard := none }) (v := ?_) rfl (by kernel_rfl) (by kernel_rfl) (by kernel_rfl) (fun _ _ _ h => h) (Or.inl ⟨by rfl, ?_⟩) (by assumption) ?_
  rotate_left 1
  · intro w' hSw; obtain ⟨s0, s1, s2, s3, _⟩ := hSw; go_simp; try with_reducible rfl
  (try simp only [Act.put, List.setIfInBounds_toArray, List.set_cons_zero, List.set_cons_succ])
  refine wpAnyH_take (i := 6) (oi := { dst := some 47, op := Op.binOp BinOp.neq 96 (Operand.tmp 44) (Operand.tmp 46) 96, type := 4, pos := "walk.go:96", after := #[{ on := 3, ground := Ground.data }, { on := 5, ground := Ground.data }], guard := none }) (v := ?_) rfl (by kernel_rfl) (by kernel_rfl) (by kernel_rfl) (fun _ _ _ h => h) (Or.inl ⟨by rfl, ?_⟩) (by assumption) ?_
  rotate_left 1
  · intro w' hSw; have qq := Q w' hSw.2.2.2.2; go_simp; try with_reducible rfl
  (try simp only [Act.put, List.setIfInBounds_toArray, List.set_cons_zero, List.set_cons_succ])
  refine wpAnyH_take (i := 7) (oi := { dst := some 40, op := Op.assign (Operand.tmp 47), type := 4, pos := "walk.go:96", after := #[{ on := 6, ground := Ground.data }], guard := none }) (v := ?_) rfl (by kernel_rfl) (by kernel_rfl) (by kernel_rfl) (fun _ _ _ h => h) (Or.inl ⟨by rfl, ?_⟩) (by assumption) ?_
  rotate_left 1
  · intro w' hSw; go_simp; try with_reducible rfl
  (try simp only [Act.put, List.setIfInBounds_toArray, List.set_cons_zero, List.set_cons_succ])
  refine wpAnyH_done (by kernel_rfl) ?_ _
  clear hHeld
  go_wp2
  clear x0 x1 y0 y1 Q ne c2 d k0 k1
  go_region_held3 (fun V => V.rangeAt W.heap.size 2 (psL2 ps))
    (first | exact YR.out _ ((bel_drV (Below.refl _ _) _).drew) _ (gx_refl _ _) | exact YR.out _ ((bel_drV (Below.refl _ _) _).drew.drew) _ (gx_refl _ _) | exact SB.out)
    (first | (go_at_call 136; refine (KM.out _ (by first | exact (bel_drV (allocBP _ _) _).drew | exact (bel_drV (allocBP _ _) _).drew.drew)).mono ?_; rintro e w4 ⟨rfl, g4, m4⟩; have SB := Lib.hid (p := w4.rangeAt W.heap.size 2 (psL2 ps)) (YR.out _ (by first | exact (bel_drV (Below.refl _ _) _).drew | exact (bel_drV (Below.refl _ _) _).drew.drew) w4 g4); have M4 := Lib.hid m4; clear g4 m4))
  go_wp2
  go_ret
  first
    | exact M4.out _ (Below.refl _ _)
    | exact M4.out _ (drew1B _)
theorem hand_any {W : World} {B wb ab : Nat} {day : Int} {ca : Option Addr} {cc n : Nat} {G : Tg} {A : Nat → Option Nat} {l : Nat → Option Vs} {t tb : Nat} {s : Vs} {ps : Nat → Option Nat} (h : WkR W B wb ab day ca cc n G A l) (hB : B ≤ W.heap.size) (ht : t < n) (hs : s.ok) (hg : G s.st = some tb) (hp : SlR W B ps s.sl) :
    Calls Tryz.prog 105 #[.pointer (some ⟨wb, 0, none⟩), .int .i64 (t : Int), .agg (stA tb s.st.length ps)] W fun e w' => HdE W B wb ab day ca cc n G A l t s e w' := by
  cases hl : l t with
  | none => exact hand_nil h hB ht hl hs hg hp
  | some u =>
    by_cases e1 : u.st.length = s.st.length
    · by_cases e2 : u.st = s.st
      · exact hand_meet h hB ht hl e2 hs hg hp
      · exact hand_unlike h hB ht hl e1 e2 hg
    · exact hand_high h hB ht hl e1
end Go.Proofs.YtpfjnnkjoabgbaaGreatDoor
