import Derived.Test.YtglgdfgdfkeogaaDoorXAE
import Derived.Lib.AtoiErrMem
import Derived.Lib.Hide
import Derived.Test.YtglgdfgdfkeogaaDoorXAF
import Derived.Laws.MakeOwn
import Derived.Laws.CopyOwn
import Derived.Maps.OwnSet
import Derived.Deep.RegionLaw
import Derived.WalkMore
namespace Go.Proofs.YtglgdfgdfkeogaaDoor
open Go.RowKit
set_option linter.unusedVariables false
set_option linter.unusedSimpArgs false

end Go.Proofs.YtglgdfgdfkeogaaDoor

namespace Go.Proofs.YtglgdfgdfkeogaaDoor
open Go.RowKit
set_option linter.unusedVariables false
set_option linter.unusedSimpArgs false

def zCl : Cl := ⟨false, 0⟩
def Cl.two (c : Cl) : List Value := [.bool c.h, .int .i64 c.v]
def clv (l : List Cl) : List Value := l.flatMap Cl.two
theorem clv_len (l : List Cl) : (clv l).length = l.length * 2 := by
  induction l with
  | nil => rfl
  | cons p r ih => simp [clv, Cl.two] at ih ⊢; omega
theorem clv_app (a b : List Cl) : clv (a ++ b) = clv a ++ clv b := by simp [clv]
theorem clv_at : ∀ (l : List Cl) (i : Nat), i < l.length → ∀ j, j < 2 → (clv l)[i * 2 + j]? = (l.getD i default).two[j]?
  | [], i, h, _, _ => by simp at h
  | g :: gs, 0, h, j, hj => by
    show (g.two ++ clv gs)[0 * 2 + j]? = _
    rw [Nat.zero_mul, Nat.zero_add, List.getElem?_append_left (by simp [Cl.two]; omega)]
    rfl
  | g :: gs, i + 1, h, j, hj => by
    have ih := clv_at gs i (by simpa using h) j hj
    show (g.two ++ clv gs)[(i + 1) * 2 + j]? = _
    rw [List.getElem?_append_right (by simp [Cl.two]; omega)]
    rw [show (i + 1) * 2 + j - g.two.length = i * 2 + j by simp [Cl.two]; omega, ih]
    rfl
theorem clv_set : ∀ (gs : List Cl) (i : Nat) (f : Cl), i < gs.length → ((clv gs).set (i * 2) (.bool f.h)).set (i * 2 + 1) (.int .i64 f.v) = clv (gs.set i f)
  | [], i, f, h => by simp at h
  | g :: gs, 0, f, h => rfl
  | g :: gs, i + 1, f, h => by
    have ih := clv_set gs i f (by simpa using h)
    show ((g.two ++ clv gs).set ((i + 1) * 2) _).set ((i + 1) * 2 + 1) _ = g.two ++ clv (gs.set i f)
    have e : g.two.length = 2 := rfl
    rw [List.set_append_right _ _ (by omega), List.set_append_right _ _ (by omega), e, show (i + 1) * 2 - 2 = i * 2 by omega, show (i + 1) * 2 + 1 - 2 = i * 2 + 1 by omega, ih]
theorem clv_one (l : List Cl) : ∀ v ∈ clv l, v.oneCell' = true := by
  intro v hv
  unfold clv at hv
  obtain ⟨f, _, hv⟩ := List.mem_flatMap.1 hv
  simp [Cl.two] at hv
  rcases hv with rfl | rfl <;> rfl
theorem made_clv (N : Nat) : (madeCells #[.bool false, .int .i64 0] (N * 2)).toList = clv (List.replicate N zCl) := by
  apply List.ext_getElem?
  intro k
  by_cases hk : k < N * 2
  · have e : k = (k / 2) * 2 + k % 2 := by omega
    have h3 : k % 2 < 2 := Nat.mod_lt _ (by omega)
    rw [e, clv_at _ (k / 2) (by simp; omega) (k % 2) h3, ← e]
    have hr : (List.replicate N zCl).getD (k / 2) default = zCl := by simp [List.getD, List.getElem?_replicate, show k / 2 < N by omega]
    rw [hr]
    unfold madeCells
    simp only [Array.toList_map, Array.toList_range, List.getElem?_map, List.getElem?_range hk, Option.map_some]
    rcases (show k % 2 = 0 ∨ k % 2 = 1 by omega) with h | h <;> rw [show (#[Value.bool false, .int .i64 0] : Array Value).size = 2 from rfl, h] <;> rfl
  · rw [List.getElem?_eq_none (by simp [madeCells]; omega), List.getElem?_eq_none (by rw [clv_len]; simp; omega)]
theorem make_cellsN (n : Nat) (hn : n ≤ 4398046511100) (W : World) : (Instr.makeSlice 49 (.int .i64 (n : Int)) (.int .i64 (n : Int))).run Tryd.prog W = .ok (.slice (some ⟨W.heap.size, 0, none⟩) n n) (W.alloc (.cells (madeCells #[.bool false, .int .i64 0] (n * 2)) 53)) := by
  obtain ⟨i0, hi, hz0, hz1, hz2⟩ := info_parts infoC
  have := run_make (P := Tryd.prog) W 49 53 i0 _ Tryd.underlying49 hi hz0 .i64 .i64 n n (by omega) (by omega) (by rw [hz2]; omega) (by omega)
  rw [hz1] at this
  simpa [Value.cells] using this
/-- copy(f, l): so many cells as the shorter of the two has. -/
theorem copy_cells (a : Option Addr) (n m cap : Nat) (fs : List Cl) (w : World) (h : RC w a m fs) (hn : n ≤ 4398046511100) :
    ∀ ty, (Builtin.copy_ #[49, 49] ty #[.slice (some ⟨w.heap.size, 0, none⟩) n n, .slice a m cap]).run Tryd.prog (w.alloc (.cells (madeCells #[.bool false, .int .i64 0] (n * 2)) 53)) = .ok (goInt (Nat.min m n)) (w.alloc (.cells (clv (fs.take n ++ List.replicate (n - m) zCl)).toArray 53)) := by
  obtain ⟨i0, hi, hz0, hz1, hz2⟩ := info_parts infoC
  obtain ⟨h1, h2, h2b, h3⟩ := h
  have hu : Tryd.prog.underlying 49 = some (.slice 53) := Tryd.underlying49
  have hg : (w.alloc (.cells (madeCells #[.bool false, .int .i64 0] (n * 2)) 53)).heap[w.heap.size]? = some (.cells (madeCells #[.bool false, .int .i64 0] (n * 2)) 53 (0, 0)) := by
    show (w.heap.push _)[w.heap.size]? = _
    simp
  rcases h3 with h3 | ⟨b, o, rfl, hb, hc⟩
  · subst h3
    have hz : fs = [] := List.length_eq_zero_iff.1 h1
    subst hz
    intro ty
    have em : madeCells #[Value.bool false, .int .i64 0] (n * 2) = (clv (([] : List Cl).take n ++ List.replicate (n - 0) zCl)).toArray := Array.ext' (by rw [made_clv]; simp)
    rw [← em]
    cases a <;> simp [Builtin.copy_, run_underlying hu, Builtin.lenOf, Builtin.firstCells, sizeOf, typeInfo, hi, hz1, storeCells, loadCells, loadCellsFrom]
  · obtain ⟨k, hk⟩ : ∃ k, k = Nat.min m n := ⟨_, rfl⟩
    have hkm : k ≤ m := by rw [hk]; exact Nat.min_le_left _ _
    have hkn : k ≤ n := by rw [hk]; exact Nat.min_le_right _ _
    have tk : (fs.take n) = fs.take k := by
      rcases Nat.le_total m n with z | z
      · rw [show k = m by rw [hk]; exact Nat.min_eq_left z, List.take_of_length_le (by omega), List.take_of_length_le (by omega)]
      · rw [show k = n by rw [hk]; exact Nat.min_eq_right z]
    have rest : n - m = n - k := by
      rcases Nat.le_total m n with z | z
      · rw [show k = m by rw [hk]; exact Nat.min_eq_left z]
      · rw [show k = n by rw [hk]; exact Nat.min_eq_right z]; omega
    have hlk : (fs.take k).length = k := by simp; omega
    have hlen : (clv (fs.take k)).length = k * 2 := by rw [clv_len, hlk]
    have hl := run_loadCells_list (P := Tryd.prog) (w.alloc (.cells (madeCells #[.bool false, .int .i64 0] (n * 2)) 53)) ⟨b, o, none⟩ (clv (fs.take k)) (by
      intro j v hj
      have hjn : j < k * 2 := by
        refine Nat.lt_of_not_le fun hc => ?_
        rw [List.getElem?_eq_none (by omega)] at hj
        cases hj
      rw [Go.Addr.add_lit, (((Below.refl w.heap.size w).alloc (Nat.le_refl _) _).cell (p := ⟨b, o + j, none⟩) hb)]
      have e : j = (j / 2) * 2 + j % 2 := by omega
      rw [← hj]
      obtain ⟨p0, p1⟩ := hc (j / 2) (by omega)
      have hat := clv_at (fs.take k) (j / 2) (by omega) (j % 2) (Nat.mod_lt _ (by omega))
      have ge : (fs.take k).getD (j / 2) default = fs.getD (j / 2) default := by simp [List.getD, List.getElem?_take, show j / 2 < k by omega]
      rw [← e, ge] at hat
      rw [hat]
      rcases (show j % 2 = 0 ∨ j % 2 = 1 by omega) with q | q
      · rw [q, show o + j = o + j / 2 * 2 by omega]; exact p0
      · rw [q, show o + j = o + j / 2 * 2 + 1 by omega]; exact p1)
    have hst := run_storeCells_at Tryd.prog w.heap.size 0 53 (clv (fs.take k)) 0 _ _ hg (by rw [hlen, size_madeCells]; omega) (clv_one _)
    rw [hlen] at hl
    intro ty
    have rep : clv (List.replicate n zCl) = clv (List.replicate k zCl) ++ clv (List.replicate (n - k) zCl) := by rw [← clv_app, List.replicate_append_replicate, show k + (n - k) = n by omega]
    have em : ((madeCells #[Value.bool false, .int .i64 0] (n * 2)).toList.take (0 + 0) ++ clv (fs.take k) ++ (madeCells #[Value.bool false, .int .i64 0] (n * 2)).toList.drop (0 + 0 + (clv (fs.take k)).length)).toArray = (clv (fs.take n ++ List.replicate (n - m) zCl)).toArray := by
      refine congrArg List.toArray ?_
      rw [made_clv, rep, hlen, tk, rest, clv_app]
      simp only [Nat.add_zero, List.take_zero, List.nil_append, Nat.zero_add]
      rw [List.drop_left' (by rw [clv_len]; simp)]
    rw [em, setRow_new] at hst
    simp [Builtin.copy_, run_underlying hu, Builtin.lenOf, Builtin.firstCells, sizeOf, typeInfo, hi, hz1, ← hk, hl, hst]
set_option maxHeartbeats 1000000 in
theorem newRow_any (a : Option Addr) (n m cap : Nat) (fs : List Cl) (w : World) (h : RC w a m fs) (hn : n ≤ 4398046511100) :
    Calls Tryd.prog 38 #[.slice a m cap, .int .i64 (n : Int)] w fun e w' => e = .returned (.slice (some ⟨w.heap.size, 0, none⟩) n n) ∧ w' = w.alloc (.cells (clv (fs.take n ++ List.replicate (n - m) zCl)).toArray 53) := by
  have mk := make_cellsN n hn
  have cp := copy_cells a n m cap fs w h hn
  clear h
  go_enter Tryd.func38, Tryd.ntmps38
  go_wp2
  go_ret
  exact ⟨rfl, rfl⟩
end Go.Proofs.YtglgdfgdfkeogaaDoor

namespace Go.Proofs.YtglgdfgdfkeogaaDoor
open Go.RowKit Go.Shelf Go.Maps
set_option linter.unusedVariables false
set_option linter.unusedSimpArgs false

theorem Gr.below {g B : Nat} {a b c : World} (h : Below B a b) (k : Gr g b c) (hg : B ≤ g) (hl : g < b.heap.size) : Below B a c := h.grown k (by omega) (fun i e => by injection e with e; omega)
theorem grow_of_below {a b : World} (h : Below a.heap.size a b) : a.grownBy b none := ⟨h.os, h.tape, h.output, h.size, fun k hk _ => h.block k hk⟩
abbrev MapOwn (w : World) (mb n : Nat) (D : DataW Unit) : Prop := w.ownsMap Tryd.prog 9 unitElem mb n D
end Go.Proofs.YtglgdfgdfkeogaaDoor

namespace Go.Proofs.YtglgdfgdfkeogaaDoor
open Go.RowKit Go.Shelf Go.Maps
set_option linter.unusedVariables false
set_option linter.unusedSimpArgs false

/-- The set of the names so far. -/
def SetIs (D : DataW Unit) (ns : List ByteArray) : Prop := (∀ c, Maps.has D (litS c) = hasN ns c) ∧ Maps.size D = ns.length
theorem hasN_snoc (ns : List ByteArray) (u c : ByteArray) : hasN (ns ++ [u]) c = (hasN ns c || decide (u = c)) := by unfold hasN; simp
theorem SetIs.put {D : DataW Unit} {ns : List ByteArray} (h : SetIs D ns) (t : Tidy D) (u : ByteArray) (hu : hasN ns u = false) (d : DataW Unit) : SetIs (D.put (litS u) d) (ns ++ [u]) := by
  refine ⟨fun c => ?_, ?_⟩
  · rw [hasN_snoc]
    by_cases e : c = u
    · subst e
      rw [has_put_same t.isMap (k := litS c) trivial]
      simp
    · rw [has_put_other (litS_ne e), h.1 c, decide_eq_false (fun k => e k.symm)]
      simp
  · rw [size_put t, h.1 u, hu, h.2]
    simp
theorem below_al (w : World) (o : Obj) : Below w.heap.size w (w.alloc o) := (Below.refl _ w).alloc (Nat.le_refl _) o
theorem one_news (W : World) (u : Value) (E : TypeId) : ∀ y, some (⟨W.heap.size, 0, none⟩ : Addr) = some y → ∀ j z, [u][j]? = some z → (W.alloc (.cells #[u] E)).cell? (y.add j) = some z := by
  intro y e j z hj
  injection e with e; subst e
  match j, hj with
  | 0, hj => simp at hj; subst hj; simp [Addr.add]
end Go.Proofs.YtglgdfgdfkeogaaDoor

namespace Go.Proofs.YtglgdfgdfkeogaaDoor
open Go.RowKit Go.Shelf Go.Maps
set_option linter.unusedVariables false
set_option linter.unusedSimpArgs false

/-- A row in memory of its own that fills its block. -/
def qv (q : Rw) : Value := .slice q.a q.n q.cap
def qOk (W : World) (B : Nat) (q : Rw) : Prop := ∃ z, q.a = some ⟨z, 0, none⟩ ∧ B ≤ z ∧ q.n = q.cs.length ∧ q.cap = q.cs.length ∧ W.heap[z]? = some (.cells (clv q.cs).toArray 53)
structure RwO (W : World) (B : Nat) (rw : Value) (qs : List Rw) : Prop where
  own : W.ownsRow B 49 1 rw qs.length (qs.map qv)
  ok : ∀ q ∈ qs, qOk W B q
  nd : qs.Pairwise fun p q => p.a ≠ q.a
theorem qOk.stay {W W' : World} {B : Nat} {q : Rw} (h : qOk W B q) (k : ∀ (z : Nat) (cs : Array Value), W.heap[z]? = some (.cells cs 53) → W'.heap[z]? = W.heap[z]?) : qOk W' B q := by
  obtain ⟨z, h1, h2, h3, h4, h5⟩ := h
  exact ⟨z, h1, h2, h3, h4, (k z _ h5).trans h5⟩
theorem blk_lt {W : World} {z : Nat} {o : Obj} (h : W.heap[z]? = some o) : z < W.heap.size := (Array.getElem?_eq_some_iff.1 h).1
theorem blk_ty {W : World} {z q : Nat} {cs ds : Array Value} {t u : TypeId} {f g : Nat × Nat} (h : W.heap[z]? = some (.cells cs t f)) (k : W.heap[q]? = some (.cells ds u g)) (ht : t ≠ u) : z ≠ q := by
  intro e
  subst e
  rw [h] at k
  injection k with k
  injection k with _ k _
  exact ht k
theorem RwO.turn {W W' : World} {B : Nat} {rw : Value} {qs : List Rw} {q : Nat} {ds : Array Value} {t : TypeId} {f : Nat × Nat} (h : RwO W B rw qs) (hq : W.heap[q]? = some (.cells ds t f)) (h1 : t ≠ 49) (h2 : 53 ≠ t) (k : W.grownBy W' (some q)) : RwO W' B rw qs :=
  ⟨h.own.kept k (.inr (ty_apart h.own hq h1)), fun r hr => (h.ok r hr).stay (fun z cs hz => k.block z (blk_lt hz) (by have := blk_ty hz hq h2; simpa using this)), h.nd⟩
theorem RwO.below {W W' : World} {B : Nat} {rw : Value} {qs : List Rw} (h : RwO W B rw qs) (b : Below W.heap.size W W') : RwO W' B rw qs :=
  ⟨own_back h.own b, fun r hr => (h.ok r hr).stay (fun z cs hz => b.block z (blk_lt hz)), h.nd⟩
/-- A row of its own behind others. -/
theorem nd_snoc {W : World} {B z : Nat} {qs : List Rw} {q : Rw} (h : ∀ p ∈ qs, qOk W B p) (nd : qs.Pairwise fun p q => p.a ≠ q.a) (hq : q.a = some ⟨z, 0, none⟩) (hz : W.heap.size ≤ z) : (qs ++ [q]).Pairwise fun p q => p.a ≠ q.a := by
  refine List.pairwise_append.2 ⟨nd, List.pairwise_singleton _ _, fun p hp r hr e => ?_⟩
  rw [List.mem_singleton.1 hr, hq] at e
  obtain ⟨y, e1, _, _, _, hy⟩ := h p hp
  rw [e1] at e
  injection e with e
  injection e with e
  have := blk_lt hy
  omega
end Go.Proofs.YtglgdfgdfkeogaaDoor

namespace Go.Proofs.YtglgdfgdfkeogaaDoor
open Go.RowKit Go.Shelf Go.Maps
set_option linter.unusedVariables false
set_option linter.unusedSimpArgs false

end Go.Proofs.YtglgdfgdfkeogaaDoor

namespace Go.Proofs.YtglgdfgdfkeogaaDoor
open Go.RowKit Go.Shelf Go.Maps
set_option linter.unusedVariables false
set_option linter.unusedSimpArgs false

theorem name31 {n : ByteArray} (h : nameB n = true) : n.size ≤ 31 := by
  unfold nameB at h
  simp only [Bool.and_eq_true, decide_eq_true_eq] at h
  exact h.1.2
/-- Names in memory of their own, as a list. -/
theorem nl_own {w : World} {B : Nat} {a : Option Addr} {n c : Nat} {ns : List ByteArray} (h : w.ownsRow B 9 1 (.slice a n c) ns.length (ns.map Value.string)) (h1 : ns.length ≤ 64) (h2 : ∀ s ∈ ns, nameB s = true) : n = ns.length ∧ NL w a n ns ∧ (a = none → n = 0 ∧ c = 0) ∧ n ≤ c ∧ c ≤ maxLen := by
  have hw : ∀ s ∈ ns, s.size ≤ 140737488351232 := fun s hs => by have := name31 (h2 s hs); omega
  have hc := h
  rcases h.2 with ⟨e, e0⟩ | ⟨g, cap, cur, e, hB, hg, k1, k2, k3, k4⟩
  · injection e with e1 e2 e3
    subst e1 e2 e3
    exact ⟨e0.symm, ⟨e0, by omega, hw, .inl rfl⟩, fun _ => ⟨rfl, rfl⟩, Nat.le_refl _, by unfold maxLen; omega⟩
  · injection e with e1 e2 e3
    subst e1 e2 e3
    refine ⟨rfl, ⟨rfl, by omega, hw, .inr ⟨g, 0, rfl, (Array.getElem?_eq_some_iff.1 hg).1, fun i hi => ?_⟩⟩, (fun e => by cases e), k1, k2⟩
    rw [Nat.zero_add, World.ownsRow.cellAt hc i (by omega)]
    rw [List.getElem?_map, List.getElem?_eq_getElem hi]
    simp [List.getD, hi]
theorem qok_rc {w : World} {B : Nat} {q : Rw} (h : qOk w B q) (h1 : q.cs.length ≤ 64) (h2 : ∀ c ∈ q.cs, (Lit.int .i64 c.v).wf = true) : RC w q.a q.n q.cs ∧ (q.a = none → q.n = 0 ∧ q.cap = 0) ∧ q.n ≤ q.cap ∧ q.cap ≤ maxLen := by
  obtain ⟨z, e1, e2, e3, e4, e5⟩ := h
  refine ⟨⟨e3.symm, by omega, h2, .inr ⟨z, 0, e1, blk_lt e5, fun i hi => ?_⟩⟩, (fun e => by rw [e1] at e; cases e), by omega, by unfold maxLen; omega⟩
  rw [Nat.zero_add]
  refine ⟨?_, ?_⟩
  · have := clv_at q.cs i (by omega) 0 (by omega)
    rw [Joins.cell_of_block e5]
    simpa [Cl.two] using this
  · have := clv_at q.cs i (by omega) 1 (by omega)
    rw [Joins.cell_of_block e5]
    simpa [Cl.two] using this
/-- Rows in memory of their own, as a list. -/
theorem rl_own {w : World} {B : Nat} {a : Option Addr} {n c : Nat} {qs : List Rw} (h : RwO w B (.slice a n c) qs) (h1 : qs.length ≤ 4096) (h2 : ∀ q ∈ qs, q.cs.length ≤ 64) (h3 : ∀ q ∈ qs, ∀ c ∈ q.cs, (Lit.int .i64 c.v).wf = true) : n = qs.length ∧ RL w a n qs ∧ (a = none → n = 0 ∧ c = 0) ∧ n ≤ c ∧ c ≤ maxLen := by
  have hc := h.own
  have ok : ∀ r ∈ qs, RC w r.a r.n r.cs ∧ (r.a = none → r.n = 0 ∧ r.cap = 0) ∧ r.n ≤ r.cap ∧ r.cap ≤ maxLen := fun r hr => qok_rc (h.ok r hr) (h2 r hr) (h3 r hr)
  rcases h.own.2 with ⟨e, e0⟩ | ⟨g, cap, cur, e, hB, hg, k1, k2, k3, k4⟩
  · injection e with e1 e2 e3
    subst e1 e2 e3
    exact ⟨e0.symm, ⟨e0, by omega, ok, .inl rfl⟩, fun _ => ⟨rfl, rfl⟩, Nat.le_refl _, by unfold maxLen; omega⟩
  · injection e with e1 e2 e3
    subst e1 e2 e3
    refine ⟨rfl, ⟨rfl, by omega, ok, .inr ⟨g, 0, rfl, (Array.getElem?_eq_some_iff.1 hg).1, fun i hi => ?_⟩⟩, (fun e => by cases e), k1, k2⟩
    rw [Nat.zero_add, World.ownsRow.cellAt hc i (by omega)]
    rw [List.getElem?_map, List.getElem?_eq_getElem hi]
    simp [List.getD, hi, qv]
/-- What Parse hands out: a table in memory of its own. -/
structure PsT (B : Nat) (W : World) (t : Tb) (R : PR) : Prop where
  ok : TbOk W t
  ns : t.ss = R.ns
  rs : t.rs.map (·.cs) = R.rs
  no : W.ownsRow B 9 1 (.slice t.an t.ln t.cn) R.ns.length (R.ns.map Value.string)
  ro : RwO W B (.slice t.ar t.lr t.cr) t.rs
theorem psT_of {B : Nat} {W : World} {an ar : Option Addr} {ln cn lr cr : Nat} {ns : List ByteArray} {qs : List Rw} (h1 : W.ownsRow B 9 1 (.slice an ln cn) ns.length (ns.map Value.string)) (h2 : RwO W B (.slice ar lr cr) qs) (g : Gd ns (qs.map (·.cs))) (pl : Nat) (e : Int) : PsT B W ⟨an, ln, cn, ns, ar, lr, cr, qs⟩ ⟨pl, e, ns, qs.map (·.cs)⟩ := by
  obtain ⟨a1, a2, a3, a4⟩ := nl_own h1 g.n64 g.nm
  obtain ⟨b1, b2, b3, b4⟩ := rl_own h2 (by have := g.r4; simpa using this) (fun q hq => by rw [g.rw q.cs (List.mem_map.2 ⟨q, hq, rfl⟩)]; exact g.n64) (fun q hq c hc => (g.st q.cs (List.mem_map.2 ⟨q, hq, rfl⟩) c hc).2)
  exact ⟨⟨a2, a3, b2, b3, a4, b4⟩, rfl, rfl, h1, h2⟩
def nilT : Tb := ⟨none, 0, 0, [], none, 0, 0, []⟩
theorem gd_nil : Gd [] [] := ⟨by simp, fun n h => (by cases h), List.nodup_nil, fun r h => (by cases h), fun r h => (by cases h), by simp⟩
theorem rwO_nil (W : World) (B : Nat) : RwO W B (.slice none 0 0) [] := ⟨World.ownsRow_nil _ _ _ _, (fun q h => by cases h), List.Pairwise.nil⟩
theorem psT_nil (B : Nat) (W : World) (pl : Nat) (e : Int) : PsT B W nilT ⟨pl, e, [], []⟩ := psT_of (World.ownsRow_nil _ _ _ _) (rwO_nil W B) gd_nil pl e
end Go.Proofs.YtglgdfgdfkeogaaDoor

namespace Go.Proofs.YtglgdfgdfkeogaaDoor
open Go.RowKit Go.Shelf Go.Maps
set_option linter.unusedVariables false
set_option linter.unusedSimpArgs false

theorem tbox_own {w w' : World} {B x : Nat} {E : TypeId} {a : Value} {n : Nat} {xs : List Value} {cs : Array Value} (h : w.ownsRow B E 1 a n xs) (hb : w.heap[x]? = some (.cells cs 25)) (hE : 25 ≠ E) (k : w.grownBy w' (some x)) : w'.ownsRow B E 1 a n xs := h.kept k (.inr (ty_apart h hb hE))
end Go.Proofs.YtglgdfgdfkeogaaDoor
