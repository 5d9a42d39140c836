import Derived.Test.YtldplmchgmoopaaDoorXAR
import Derived.Test.YtldplmchgmoopaaDoorXAS
namespace Go.Proofs.YtldplmchgmoopaaDoor
open Go.RowKit
set_option linter.unusedVariables false
set_option linter.unusedSimpArgs false

/-- All that was handed out is as it was left. -/
structure EvF (sn : List (Nat × Obj)) (g : Bg) : Prop where
  l1 : g.ms.length = g.rv.length
  l2 : g.nn.length = g.rv.length
  l3 : g.fr.length = g.ov.length
  l4 : g.sy.length = g.nv.length
  l5 : g.lg.length = g.nv.length
  l6 : g.tl.length = g.pv.length
  l7 : g.wd.length = g.pv.length
  r : ∀ k, k < g.rv.length → RowIt sn (g.rv.getD k default) (g.ms.getD k 0) (g.nn.getD k 0) ∧ (0 ≤ g.ms.getD k 0 ∧ g.ms.getD k 0 ≤ 2000000000000000) ∧ g.nn.getD k 0 ≤ 2000000
  o : ∀ k, k < g.ov.length → OutIt sn (g.ov.getD k default) (g.fr.getD k 0) ∧ g.fr.getD k 0 ≤ 1000000
  n : ∀ k, k < g.nv.length → NamIt sn (g.nv.getD k default) (g.sy.getD k default) (g.lg.getD k 0) ∧ g.lg.getD k 0 ≤ 1000000
  p : ∀ k, k < g.pv.length → PaiIt sn (g.pv.getD k default) (g.tl.getD k 0) (g.wd.getD k 0) ∧ (0 ≤ g.tl.getD k 0 ∧ g.tl.getD k 0 ≤ 2000000000000000) ∧ g.wd.getD k 0 ≤ 1000000000000
theorem nats_at {l : List Nat} {k : Nat} (h : k < l.length) : (nats l).getD k default = .int .i64 ((l.getD k 0 : Nat) : Int) := by
  unfold nats
  simp [List.getD, h]
theorem ints_at {l : List Int} {k : Nat} (h : k < l.length) : (l.map (Value.int .i64)).getD k default = .int .i64 (l.getD k 0) := by
  simp [List.getD, h]
theorem strs_at {l : List ByteArray} {k : Nat} (h : k < l.length) : (l.map Value.string).getD k default = .string (l.getD k default) := by
  simp [List.getD, h]
theorem Bk.at_one {W : World} {B bk : Nat} {vs : List Value} {g : Bg} {sn : List (Nat × Obj)} {mark : Int} {late : Bool} (h : Bk W B bk vs g sn mark late) {k n i : Nat} {T : TypeId} {xs : List Value} (hf : (⟨k, T, 1, n, xs⟩ : BkF) ∈ g.fs) (hn : xs.length = n) (hi : i < n) : ∃ z c, W.cell? ⟨bk, k, none⟩ = some (.slice (some ⟨z, 0, none⟩) n c) ∧ W.cell? ⟨z, i, none⟩ = some (xs.getD i default) := by
  obtain ⟨a, c, e, q⟩ := h.at_list hf hn
  rcases q with q | ⟨z, rfl, q⟩
  · omega
  · exact ⟨z, c, e, q i hi⟩
theorem cell_take {W : World} {z k i : Nat} {T : TypeId} {cur : Array Value} {l : List Value} {v : Value} (h : W.heap[z]? = some (.cells cur T)) (ht : cur.toList.take k = l) (hi : i < k) (hv : l[i]? = some v) : W.cell? ⟨z, i, none⟩ = some v := by
  rw [Joins.cell_of_block h, ← hv, ← ht, List.getElem?_take, if_pos hi]
  simp
theorem clv_cell {l : List Cl} {j : Nat} (h : j < l.length) : (clv l)[j * 2]? = some (.bool (l.getD j default).h) ∧ (clv l)[j * 2 + 1]? = some (.int .i64 (l.getD j default).v) := by
  refine ⟨?_, ?_⟩
  · have := clv_at l j h 0 (by omega)
    simpa [Cl.two] using this
  · have := clv_at l j h 1 (by omega)
    simpa [Cl.two] using this
theorem two_runs {α : Type} [Inhabited α] (a b : α) (n m j : Nat) (h : j < n + m) : (List.replicate n a ++ List.replicate m b).getD j default = if j < n then a else b := by
  unfold List.getD
  by_cases q : j < n
  · rw [List.getElem?_append_left (by simpa using q), if_pos q]; simp [q]
  · rw [List.getElem?_append_right (by simpa using q), if_neg q]; simp [show j - n < m by omega]
/-- A row that was left. -/
theorem Bk.row_at {W : World} {B bk : Nat} {vs : List Value} {g : Bg} {sn : List (Nat × Obj)} {mark : Int} {late : Bool} (h : Bk W B bk vs g sn mark late) (F : EvF sn g) {i n N : Nat} {m : Int} (hN : g.rv.length = N) (hi : i < N) (hn : g.nn.getD i 0 = n) (hm : g.ms.getD i 0 = m) : ∃ z0 c0 z1 c1 z2 c2 gg cap, W.cell? ⟨bk, 0, none⟩ = some (.slice (some ⟨z0, 0, none⟩) N c0) ∧ W.cell? ⟨bk, 1, none⟩ = some (.slice (some ⟨z1, 0, none⟩) N c1) ∧ W.cell? ⟨bk, 2, none⟩ = some (.slice (some ⟨z2, 0, none⟩) N c2) ∧ W.cell? ⟨z0, i, none⟩ = some (.slice (some ⟨gg, 0, none⟩) (n + 80) cap) ∧ W.cell? ⟨z1, i, none⟩ = some (.int .i64 m) ∧ W.cell? ⟨z2, i, none⟩ = some (.int .i64 (n : Int)) ∧ ∀ j, j < n + 80 → W.cell? ⟨gg, j * 2, none⟩ = some (.bool true) ∧ W.cell? ⟨gg, j * 2 + 1, none⟩ = some (.int .i64 (if j < n then -1000 - m else 99)) := by
  subst hN hn hm
  obtain ⟨z0, c0, e0, q0⟩ := h.at_one (k := 0) (T := 50) (xs := g.rv) (n := g.rv.length) (i := i) (by simp [Bg.fs]) rfl hi
  obtain ⟨z1, c1, e1, q1⟩ := h.at_one (k := 1) (T := 3) (xs := g.ms.map (Value.int .i64)) (n := g.ms.length) (i := i) (by simp [Bg.fs]) (by simp) (by rw [F.l1]; exact hi)
  obtain ⟨z2, c2, e2, q2⟩ := h.at_one (k := 2) (T := 3) (xs := nats g.nn) (n := g.nn.length) (i := i) (by simp [Bg.fs]) (by simp [nats]) (by rw [F.l2]; exact hi)
  rw [ints_at (by rw [F.l1]; exact hi)] at q1
  rw [nats_at (by rw [F.l2]; exact hi)] at q2
  rw [F.l1] at e1
  rw [F.l2] at e2
  obtain ⟨⟨gg, cap, cur, er, em, et⟩, _, _⟩ := F.r i hi
  rw [er] at q0
  refine ⟨z0, c0, z1, c1, z2, c2, gg, cap, e0, e1, e2, q0, q1, q2, fun j hj => ?_⟩
  have hb := (h.o.st _ em).1
  have hl : (List.replicate (g.nn.getD i 0) (mkC (g.ms.getD i 0)) ++ List.replicate 80 oC).length = g.nn.getD i 0 + 80 := by simp
  obtain ⟨k1, k2⟩ := clv_cell (l := List.replicate (g.nn.getD i 0) (mkC (g.ms.getD i 0)) ++ List.replicate 80 oC) (j := j) (by rw [hl]; exact hj)
  rw [two_runs _ _ _ _ _ hj] at k1 k2
  have f1 := cell_take hb et (by omega) k1
  have f2 := cell_take hb et (by omega) k2
  by_cases q : j < g.nn.getD i 0
  · rw [if_pos q] at f1 f2 ⊢; exact ⟨f1, f2⟩
  · rw [if_neg q] at f1 f2 ⊢; exact ⟨f1, f2⟩
/-- An outer list that was left. -/
theorem Bk.out_at {W : World} {B bk : Nat} {vs : List Value} {g : Bg} {sn : List (Nat × Obj)} {mark : Int} {late : Bool} (h : Bk W B bk vs g sn mark late) (F : EvF sn g) {i n N : Nat} (hN : g.ov.length = N) (hi : i < N) (hn : g.fr.getD i 0 = n) : ∃ z0 c0 z2 c2 gg cap, W.cell? ⟨bk, 3, none⟩ = some (.slice (some ⟨z0, 0, none⟩) N c0) ∧ W.cell? ⟨bk, 4, none⟩ = some (.slice (some ⟨z2, 0, none⟩) N c2) ∧ W.cell? ⟨z0, i, none⟩ = some (.slice (some ⟨gg, 0, none⟩) (n + 20) cap) ∧ W.cell? ⟨z2, i, none⟩ = some (.int .i64 (n : Int)) ∧ ∀ j, j < n + 20 → ∃ ea en ec, W.cell? ⟨gg, j, none⟩ = some (.slice ea en ec) ∧ (ea = none ↔ j < n) := by
  subst hN
  obtain ⟨z0, c0, e0, q0⟩ := h.at_one (k := 3) (T := 23) (xs := g.ov) (n := g.ov.length) (i := i) (by simp [Bg.fs]) rfl hi
  obtain ⟨z2, c2, e2, q2⟩ := h.at_one (k := 4) (T := 3) (xs := nats g.fr) (n := g.fr.length) (i := i) (by simp [Bg.fs]) (by simp [nats]) (by rw [F.l3]; exact hi)
  rw [nats_at (by rw [F.l3]; exact hi), hn] at q2
  rw [F.l3] at e2
  have fo := (F.o i hi).1
  rw [hn] at fo
  obtain ⟨gg, cap, cur, es, er, em, et, el, ee⟩ := fo
  rw [er] at q0
  refine ⟨z0, c0, z2, c2, gg, cap, e0, e2, q0, q2, fun j hj => ?_⟩
  have hb := (h.o.st _ em).1
  by_cases q : j < n
  · refine ⟨none, 0, 0, cell_take hb et hj ?_, by simp [q]⟩
    rw [List.getElem?_append_left (by simpa using q), List.getElem?_replicate, if_pos q]
  · have hj2 : j - n < es.length := by omega
    obtain ⟨b, eb⟩ := ee _ (List.getElem_mem hj2)
    refine ⟨some ⟨b, 0, none⟩, 1, 1, cell_take hb et hj ?_, by simp [q]⟩
    rw [List.getElem?_append_right (by simpa using q), List.length_replicate, List.getElem?_eq_getElem hj2, eb]
/-- Names that were left. -/
theorem Bk.nam_at {W : World} {B bk : Nat} {vs : List Value} {g : Bg} {sn : List (Nat × Obj)} {mark : Int} {late : Bool} (h : Bk W B bk vs g sn mark late) (F : EvF sn g) {i n N : Nat} {s : ByteArray} (hN : g.nv.length = N) (hi : i < N) (hn : g.lg.getD i 0 = n) (hm : g.sy.getD i default = s) : ∃ z0 c0 z1 c1 z2 c2 gg cap, W.cell? ⟨bk, 5, none⟩ = some (.slice (some ⟨z0, 0, none⟩) N c0) ∧ W.cell? ⟨bk, 6, none⟩ = some (.slice (some ⟨z1, 0, none⟩) N c1) ∧ W.cell? ⟨bk, 7, none⟩ = some (.slice (some ⟨z2, 0, none⟩) N c2) ∧ W.cell? ⟨z0, i, none⟩ = some (.slice (some ⟨gg, 0, none⟩) (n + 70) cap) ∧ W.cell? ⟨z1, i, none⟩ = some (.string s) ∧ W.cell? ⟨z2, i, none⟩ = some (.int .i64 (n : Int)) ∧ ∀ j, j < n + 70 → W.cell? ⟨gg, j, none⟩ = some (.string (if j < n then s else othS)) := by
  subst hN
  obtain ⟨z0, c0, e0, q0⟩ := h.at_one (k := 5) (T := 27) (xs := g.nv) (n := g.nv.length) (i := i) (by simp [Bg.fs]) rfl hi
  obtain ⟨z1, c1, e1, q1⟩ := h.at_one (k := 6) (T := 9) (xs := g.sy.map Value.string) (n := g.sy.length) (i := i) (by simp [Bg.fs]) (by simp) (by rw [F.l4]; exact hi)
  obtain ⟨z2, c2, e2, q2⟩ := h.at_one (k := 7) (T := 3) (xs := nats g.lg) (n := g.lg.length) (i := i) (by simp [Bg.fs]) (by simp [nats]) (by rw [F.l5]; exact hi)
  rw [strs_at (by rw [F.l4]; exact hi), hm] at q1
  rw [nats_at (by rw [F.l5]; exact hi), hn] at q2
  rw [F.l4] at e1
  rw [F.l5] at e2
  have fo := (F.n i hi).1
  rw [hn, hm] at fo
  obtain ⟨gg, cap, cur, er, em, et⟩ := fo
  rw [er] at q0
  refine ⟨z0, c0, z1, c1, z2, c2, gg, cap, e0, e1, e2, q0, q1, q2, fun j hj => ?_⟩
  have hb := (h.o.st _ em).1
  refine cell_take hb et hj ?_
  by_cases q : j < n
  · rw [List.getElem?_append_left (by simpa using q), if_pos q, List.getElem?_replicate, if_pos q]
  · rw [List.getElem?_append_right (by simpa using q), if_neg q, List.length_replicate, List.getElem?_replicate, if_pos (by omega)]
/-- Pairs that were left. -/
theorem Bk.pai_at {W : World} {B bk : Nat} {vs : List Value} {g : Bg} {sn : List (Nat × Obj)} {mark : Int} {late : Bool} (h : Bk W B bk vs g sn mark late) (F : EvF sn g) {i n N : Nat} {m : Int} (hN : g.pv.length = N) (hi : i < N) (hn : g.wd.getD i 0 = n) (hm : g.tl.getD i 0 = m) : ∃ z0 c0 z1 c1 z2 c2 gg cap, W.cell? ⟨bk, 8, none⟩ = some (.slice (some ⟨z0, 0, none⟩) N c0) ∧ W.cell? ⟨bk, 9, none⟩ = some (.slice (some ⟨z1, 0, none⟩) N c1) ∧ W.cell? ⟨bk, 10, none⟩ = some (.slice (some ⟨z2, 0, none⟩) N c2) ∧ W.cell? ⟨z0, i, none⟩ = some (.slice (some ⟨gg, 0, none⟩) (n + 70) cap) ∧ W.cell? ⟨z1, i, none⟩ = some (.int .i64 m) ∧ W.cell? ⟨z2, i, none⟩ = some (.int .i64 (n : Int)) ∧ ∀ j, j < n + 70 → W.cell? ⟨gg, j * 2, none⟩ = some (.string ⟨#[]⟩) ∧ W.cell? ⟨gg, j * 2 + 1, none⟩ = some (.int .i64 (if j < n then -1000 - m else 99)) := by
  subst hN hn hm
  obtain ⟨z0, c0, e0, q0⟩ := h.at_one (k := 8) (T := 63) (xs := g.pv) (n := g.pv.length) (i := i) (by simp [Bg.fs]) rfl hi
  obtain ⟨z1, c1, e1, q1⟩ := h.at_one (k := 9) (T := 3) (xs := g.tl.map (Value.int .i64)) (n := g.tl.length) (i := i) (by simp [Bg.fs]) (by simp) (by rw [F.l6]; exact hi)
  obtain ⟨z2, c2, e2, q2⟩ := h.at_one (k := 10) (T := 3) (xs := nats g.wd) (n := g.wd.length) (i := i) (by simp [Bg.fs]) (by simp [nats]) (by rw [F.l7]; exact hi)
  rw [ints_at (by rw [F.l6]; exact hi)] at q1
  rw [nats_at (by rw [F.l7]; exact hi)] at q2
  rw [F.l6] at e1
  rw [F.l7] at e2
  obtain ⟨⟨gg, cap, cur, er, em, et⟩, _, _⟩ := F.p i hi
  rw [er] at q0
  refine ⟨z0, c0, z1, c1, z2, c2, gg, cap, e0, e1, e2, q0, q1, q2, fun j hj => ?_⟩
  have hb := (h.o.st _ em).1
  obtain ⟨k1, k2⟩ := prV_at (l := List.replicate (g.wd.getD i 0) (mkP (g.tl.getD i 0)) ++ List.replicate 70 othP) (i := j) (by simpa using hj)
  rw [two_runs _ _ _ _ _ hj] at k1 k2
  have f1 := cell_take hb et (by omega) k1
  have f2 := cell_take hb et (by omega) k2
  by_cases q : j < g.wd.getD i 0
  · rw [if_pos q] at f1 f2 ⊢; exact ⟨f1, f2⟩
  · rw [if_neg q] at f1 f2 ⊢; exact ⟨f1, f2⟩
theorem Bk.head {W : World} {B bk : Nat} {vs : List Value} {g : Bg} {sn : List (Nat × Obj)} {mark : Int} {late : Bool} (h : Bk W B bk vs g sn mark late) {k n : Nat} {T : TypeId} {xs : List Value} (hf : (⟨k, T, 1, n, xs⟩ : BkF) ∈ g.fs) : ∃ a c, W.cell? ⟨bk, k, none⟩ = some (.slice a n c) := by
  obtain ⟨a, c, q, _⟩ := h.list hf
  exact ⟨a, c, q⟩
end Go.Proofs.YtldplmchgmoopaaDoor

namespace Go.Proofs.YtldplmchgmoopaaDoor
open Go.RowKit
set_option linter.unusedVariables false
set_option linter.unusedSimpArgs false

theorem getD_app {α : Type} (l m : List α) (k : Nat) (d : α) : (l ++ m).getD k d = if k < l.length then l.getD k d else m.getD (k - l.length) d := by
  unfold List.getD
  by_cases q : k < l.length
  · rw [List.getElem?_append_left q, if_pos q]
  · rw [List.getElem?_append_right (by omega), if_neg q]
theorem getD_last {α : Type} (l : List α) (x : α) (k : Nat) (d : α) (h : k = l.length) : (l ++ [x]).getD k d = x := by
  rw [getD_app, if_neg (by omega), h, Nat.sub_self]; rfl
theorem EvF.rows {sE add : List (Nat × Obj)} {g : Bg} {rvs : List Value} {mark : Int} {ns : List Nat} {qs : List Rw} {n : Nat} {gv : Value} (h : EvF sE g) (it : RowsIt qs add rvs mark ns n) (ov : OutIt add gv n) (hq : qs.length = n) (hl : ∀ q ∈ qs, q.cs.length ≤ 2000000) (hn : n ≤ 1000000) (hm : 0 ≤ mark ∧ mark ≤ 1000000000000000) :
    EvF (add ++ sE) { rowsG g rvs mark ns with ov := (rowsG g rvs mark ns).ov ++ [gv], fr := (rowsG g rvs mark ns).fr ++ [n] } := by
  have ma : ∀ p ∈ add, p ∈ add ++ sE := fun p hp => List.mem_append.2 (.inl hp)
  have mb : ∀ p ∈ sE, p ∈ add ++ sE := fun p hp => List.mem_append.2 (.inr hp)
  have ln : ns.length = n := by rw [it.l2]; simp [hq]
  refine ⟨?_, ?_, ?_, h.l4, h.l5, h.l6, h.l7, fun k hk => ?_, fun k hk => ?_, fun k hk => ⟨(h.n k hk).1.more mb, (h.n k hk).2⟩, fun k hk => ⟨(h.p k hk).1.more mb, (h.p k hk).2⟩⟩
  · simp [rowsG, h.l1]
  · simp [rowsG, h.l2, it.l1, ln]
  · simp [rowsG, h.l3]
  · simp only [rowsG] at hk ⊢
    rw [List.length_append, it.l1] at hk
    rw [getD_app, getD_app, getD_app, h.l1, h.l2]
    by_cases q : k < g.rv.length
    · rw [if_pos q, if_pos q, if_pos q]
      exact ⟨(h.r k q).1.more mb, (h.r k q).2⟩
    · rw [if_neg q, if_neg q, if_neg q]
      have hj : k - g.rv.length < n := by omega
      have hjq : k - g.rv.length < qs.length := by omega
      have e1 : ((List.range rvs.length).map fun (k : Nat) => mark + 1 + (k : Int)).getD (k - g.rv.length) 0 = mark + 1 + ((k - g.rv.length : Nat) : Int) := by
        simp [List.getD, it.l1, hj]
      have e2 : ns.getD (k - g.rv.length) 0 = (qs.getD (k - g.rv.length) default).cs.length := by
        rw [it.l2]
        simp [List.getD, List.getElem?_take, hj, hjq]
      rw [e1, e2]
      refine ⟨(it.it _ hj).more ma, ⟨by omega, by omega⟩, ?_⟩
      rw [show qs.getD (k - g.rv.length) default = qs[k - g.rv.length] by simp [List.getD, hjq]]
      exact hl _ (List.getElem_mem hjq)
  · simp only [rowsG] at hk ⊢
    rw [List.length_append] at hk
    by_cases q : k < g.ov.length
    · rw [getD_app, getD_app, h.l3, if_pos q, if_pos q]
      exact ⟨(h.o k q).1.more mb, (h.o k q).2⟩
    · have e : k = g.ov.length := by simp at hk; omega
      rw [getD_last _ _ _ _ e, getD_last _ _ _ _ (by rw [h.l3]; exact e)]
      exact ⟨ov.more ma, hn⟩
theorem EvF.names {sE add : List (Nat × Obj)} {g : Bg} {s : ByteArray} {n : Nat} {gv : Value} (h : EvF sE g) (it : NamIt add gv s n) (hn : n ≤ 1000000) : EvF (add ++ sE) { g with nv := g.nv ++ [gv], sy := g.sy ++ [s], lg := g.lg ++ [n] } := by
  have ma : ∀ p ∈ add, p ∈ add ++ sE := fun p hp => List.mem_append.2 (.inl hp)
  have mb : ∀ p ∈ sE, p ∈ add ++ sE := fun p hp => List.mem_append.2 (.inr hp)
  refine ⟨h.l1, h.l2, h.l3, by simp [h.l4], by simp [h.l5], h.l6, h.l7, fun k hk => ⟨(h.r k hk).1.more mb, (h.r k hk).2⟩, fun k hk => ⟨(h.o k hk).1.more mb, (h.o k hk).2⟩, fun k hk => ?_, fun k hk => ⟨(h.p k hk).1.more mb, (h.p k hk).2⟩⟩
  simp only at hk ⊢
  rw [List.length_append] at hk
  by_cases q : k < g.nv.length
  · rw [getD_app, getD_app, getD_app, h.l4, h.l5, if_pos q, if_pos q, if_pos q]
    exact ⟨(h.n k q).1.more mb, (h.n k q).2⟩
  · have e : k = g.nv.length := by simp at hk; omega
    rw [getD_last _ _ _ _ e, getD_last _ _ _ _ (by rw [h.l4]; exact e), getD_last _ _ _ _ (by rw [h.l5]; exact e)]
    exact ⟨it.more ma, hn⟩
theorem EvF.pairs {sE add : List (Nat × Obj)} {g : Bg} {m : Int} {n : Nat} {gv : Value} (h : EvF sE g) (it : PaiIt add gv m n) (hm : 0 ≤ m ∧ m ≤ 2000000000000000) (hn : n ≤ 1000000000000) : EvF (add ++ sE) { g with pv := g.pv ++ [gv], tl := g.tl ++ [m], wd := g.wd ++ [n] } := by
  have ma : ∀ p ∈ add, p ∈ add ++ sE := fun p hp => List.mem_append.2 (.inl hp)
  have mb : ∀ p ∈ sE, p ∈ add ++ sE := fun p hp => List.mem_append.2 (.inr hp)
  refine ⟨h.l1, h.l2, h.l3, h.l4, h.l5, by simp [h.l6], by simp [h.l7], fun k hk => ⟨(h.r k hk).1.more mb, (h.r k hk).2⟩, fun k hk => ⟨(h.o k hk).1.more mb, (h.o k hk).2⟩, fun k hk => ⟨(h.n k hk).1.more mb, (h.n k hk).2⟩, fun k hk => ?_⟩
  simp only at hk ⊢
  rw [List.length_append] at hk
  by_cases q : k < g.pv.length
  · rw [getD_app, getD_app, getD_app, h.l6, h.l7, if_pos q, if_pos q, if_pos q]
    exact ⟨(h.p k q).1.more mb, (h.p k q).2⟩
  · have e : k = g.pv.length := by simp at hk; omega
    rw [getD_last _ _ _ _ e, getD_last _ _ _ _ (by rw [h.l6]; exact e), getD_last _ _ _ _ (by rw [h.l7]; exact e)]
    exact ⟨it.more ma, hm, hn⟩
theorem EvF.more {sE sE' : List (Nat × Obj)} {g : Bg} (h : EvF sE g) (k : ∀ p ∈ sE, p ∈ sE') : EvF sE' g :=
  ⟨h.l1, h.l2, h.l3, h.l4, h.l5, h.l6, h.l7, fun i hi => ⟨(h.r i hi).1.more k, (h.r i hi).2⟩, fun i hi => ⟨(h.o i hi).1.more k, (h.o i hi).2⟩, fun i hi => ⟨(h.n i hi).1.more k, (h.n i hi).2⟩, fun i hi => ⟨(h.p i hi).1.more k, (h.p i hi).2⟩⟩
/-- The lists that were kept as they came are the same. -/
structure SameL (g g' : Bg) : Prop where
  rr : g'.rr = g.rr
  wr : g'.wr = g.wr
  rn : g'.rn = g.rn
  wn : g'.wn = g.wn
  rp : g'.rp = g.rp
  wp : g'.wp = g.wp
theorem SameL.refl (g : Bg) : SameL g g := ⟨rfl, rfl, rfl, rfl, rfl, rfl⟩
theorem SameL.trans {a b c : Bg} (h : SameL a b) (k : SameL b c) : SameL a c := ⟨k.rr.trans h.rr, k.wr.trans h.wr, k.rn.trans h.rn, k.wn.trans h.wn, k.rp.trans h.rp, k.wp.trans h.wp⟩
/-- How long the lists are. -/
structure Sz (g : Bg) (mark : Int) (N M : Nat) : Prop where
  m : 0 ≤ mark ∧ mark ≤ N
  r : g.rv.length ≤ N
  o : g.ov.length ≤ N
  n : g.nv.length ≤ N
  p : g.pv.length ≤ N
  rr : g.rr.length ≤ M
  rn : g.rn.length ≤ M
  rp : g.rp.length ≤ M
theorem Sz.mono {g : Bg} {mark : Int} {N M N' M' : Nat} (h : Sz g mark N M) (k : N ≤ N') (l : M ≤ M') : Sz g mark N' M' := ⟨⟨h.m.1, by have := h.m.2; omega⟩, Nat.le_trans h.r k, Nat.le_trans h.o k, Nat.le_trans h.n k, Nat.le_trans h.p k, Nat.le_trans h.rr l, Nat.le_trans h.rn l, Nat.le_trans h.rp l⟩
structure BkI (W : World) (B bk : Nat) (vs : List Value) (g : Bg) (sE sR : List (Nat × Obj)) (mark : Int) (late : Bool) : Prop where
  b : Bk W B bk vs g (sE ++ sR) mark late
  nd : ((sE ++ sR).map (·.1)).Nodup
  ev : EvF sE g
theorem BkI.below {W W' : World} {B bk : Nat} {vs : List Value} {g : Bg} {sE sR : List (Nat × Obj)} {mark : Int} {late : Bool} (h : BkI W B bk vs g sE sR mark late) (b : Below W.heap.size W W') : BkI W' B bk vs g sE sR mark late := ⟨h.b.below b, h.nd, h.ev⟩
/-- What an early call leaves. -/
def ErE (B bk : Nat) (g : Bg) (sE sR : List (Nat × Obj)) (mark : Int) (N M : Nat) (w w' : World) (X : List (Nat × Obj) → Prop) : Prop :=
  ∃ vs' g' sE' mark', BkI w' B bk vs' g' sE' sR mark' false ∧ (∀ p ∈ sE, p ∈ sE') ∧ SameL g g' ∧ Sz g' mark' N M ∧ X sE' ∧ Fr B bk w w'
theorem rows_I (B bk : Nat) (vs : List Value) (g : Bg) (sE sR : List (Nat × Obj)) (mark : Int) (N M : Nat) (a : Option Addr) (n c : Nat) (qs : List Rw) (w : World) (h : BkI w B bk vs g sE sR mark false) (hs : Sz g mark N M) (hN : N ≤ 900000000000) (hB : B ≤ w.heap.size) (o : RwO w B (.slice a n c) qs) (fr : FrR bk vs g.fs (sE ++ sR) (.slice a n c) qs) (ot : Ot w) (hO : 0 < B ∧ 0 ≠ bk)
    (hn : n ≤ 1000000) (hq : ∀ q ∈ qs, q.cs.length ≤ 2000000) :
    Calls Tryd.prog 20 #[.pointer (some ⟨bk, 0, none⟩), .slice a n c] w fun e w' => e = .returned (.tuple #[]) ∧ ErE B bk g sE sR mark (N + n + 1) M w w' (fun s => OldIt s 50 a n (List.replicate n (.slice none 0 0))) := by
  have hm : 0 ≤ mark ∧ mark ≤ 1000000000000000 := ⟨hs.m.1, by have := hs.m.2; omega⟩
  refine (rows_early B bk vs g (sE ++ sR) mark a n c qs w h.b hB o fr ot hO h.nd hn hq hm ⟨by have := hs.r; omega, by have := hs.r; rw [h.ev.l1]; omega, by have := hs.r; rw [h.ev.l2]; omega, by have := hs.o; omega, by have := hs.o; rw [h.ev.l3]; omega⟩).mono ?_
  rintro e w' ⟨rfl, vs', rvs, ns, gv, add, hb, it, ov, old, nd, f⟩
  have ql := own_len o.own
  refine ⟨rfl, vs', _, add ++ sE, mark + n, ⟨by rw [List.append_assoc]; exact hb, by rw [List.append_assoc]; exact nd, h.ev.rows it ov ql.symm hq hn hm⟩, fun p hp => List.mem_append.2 (.inr hp), ⟨rfl, rfl, rfl, rfl, rfl, rfl⟩, ?_, old.more (fun p hp => List.mem_append.2 (.inl hp)), f⟩
  refine ⟨⟨by omega, by have := hs.m.2; omega⟩, ?_, ?_, ?_, ?_, ?_, ?_, ?_⟩
  · simp only [rowsG, List.length_append, it.l1]; have := hs.r; omega
  · simp only [rowsG, List.length_append]; have := hs.o; simp; omega
  · have := hs.n; show g.nv.length ≤ _; omega
  · have := hs.p; show g.pv.length ≤ _; omega
  · have := hs.rr; show g.rr.length ≤ _; omega
  · have := hs.rn; show g.rn.length ≤ _; omega
  · have := hs.rp; show g.rp.length ≤ _; omega
theorem names_I (B bk : Nat) (vs : List Value) (g : Bg) (sE sR : List (Nat × Obj)) (mark : Int) (N M : Nat) (a : Option Addr) (n c : Nat) (xs : List Value) (w : World) (h : BkI w B bk vs g sE sR mark false) (hs : Sz g mark N M) (hN : N ≤ 900000000000) (hB : B ≤ w.heap.size) (o : w.ownsRow B 9 1 (.slice a n c) n xs) (fr : ∀ z, (Value.slice a n c).ownBlock = some z → BkO.Free bk vs g.fs (sE ++ sR) z) (hn : n ≤ 1000000) :
    Calls Tryd.prog 21 #[.pointer (some ⟨bk, 0, none⟩), .slice a n c] w fun e w' => e = .returned (.tuple #[]) ∧ ErE B bk g sE sR mark (N + 1) M w w' (fun s => ∃ S : ByteArray, S.size ≤ 140737488351232 ∧ OldIt s 9 a n (List.replicate n (.string S))) := by
  have hm : 0 ≤ mark ∧ mark ≤ 1000000000000000 := ⟨hs.m.1, by have := hs.m.2; omega⟩
  refine (names_early B bk vs g (sE ++ sR) mark a n c xs w h.b hB o fr hn hm ⟨by have := hs.n; omega, by have := hs.n; rw [h.ev.l4]; omega, by have := hs.n; rw [h.ev.l5]; omega⟩).mono ?_
  rintro e w' ⟨rfl, vs', gv, add, hb, it, old, nd, f⟩
  refine ⟨rfl, vs', _, add ++ sE, mark + 1, ⟨by rw [List.append_assoc]; exact hb, by rw [List.append_assoc]; exact nd h.nd, h.ev.names it hn⟩, fun p hp => List.mem_append.2 (.inr hp), ⟨rfl, rfl, rfl, rfl, rfl, rfl⟩, ?_, ⟨_, by rw [mine_size]; have := hs.m.2; omega, old.more (fun p hp => List.mem_append.2 (.inl hp))⟩, f⟩
  refine ⟨⟨by omega, by have := hs.m.2; omega⟩, ?_, ?_, ?_, ?_, ?_, ?_, ?_⟩
  · have := hs.r; show g.rv.length ≤ _; omega
  · have := hs.o; show g.ov.length ≤ _; omega
  · simp only [List.length_append]; have := hs.n; simp; omega
  · have := hs.p; show g.pv.length ≤ _; omega
  · have := hs.rr; show g.rr.length ≤ _; omega
  · have := hs.rn; show g.rn.length ≤ _; omega
  · have := hs.rp; show g.rp.length ≤ _; omega
theorem pairs_I (B bk : Nat) (vs : List Value) (g : Bg) (sE sR : List (Nat × Obj)) (mark : Int) (N M : Nat) (a : Option Addr) (n c : Nat) (xs : List (ByteArray × Int)) (w : World) (h : BkI w B bk vs g sE sR mark false) (hs : Sz g mark N M) (hN : N ≤ 900000000000) (hB : B ≤ w.heap.size) (o : w.ownsRow B 67 2 (.slice a n c) n (prV xs)) (fr : ∀ z, (Value.slice a n c).ownBlock = some z → BkO.Free bk vs g.fs (sE ++ sR) z) (hn : n ≤ 1000000000000) :
    Calls Tryd.prog 23 #[.pointer (some ⟨bk, 0, none⟩), .slice a n c] w fun e w' => e = .returned (.tuple #[]) ∧ ErE B bk g sE sR mark (N + 1) M w w' (fun s => ∃ m : Int, OldIt s 67 a (n * 2) (prV (List.replicate n (mkP m)))) := by
  have hm : 0 ≤ mark ∧ mark ≤ 1000000000000000 := ⟨hs.m.1, by have := hs.m.2; omega⟩
  refine (pairs_early B bk vs g (sE ++ sR) mark a n c xs w h.b hB o fr hn hm ⟨by have := hs.p; omega, by have := hs.p; rw [h.ev.l6]; omega, by have := hs.p; rw [h.ev.l7]; omega⟩).mono ?_
  rintro e w' ⟨rfl, vs', gv, add, hb, it, old, nd, f⟩
  refine ⟨rfl, vs', _, add ++ sE, mark + 1, ⟨by rw [List.append_assoc]; exact hb, by rw [List.append_assoc]; exact nd h.nd, h.ev.pairs it ⟨by omega, by omega⟩ hn⟩, fun p hp => List.mem_append.2 (.inr hp), ⟨rfl, rfl, rfl, rfl, rfl, rfl⟩, ?_, ⟨_, old.more (fun p hp => List.mem_append.2 (.inl hp))⟩, f⟩
  refine ⟨⟨by omega, by have := hs.m.2; omega⟩, ?_, ?_, ?_, ?_, ?_, ?_, ?_⟩
  · have := hs.r; show g.rv.length ≤ _; omega
  · have := hs.o; show g.ov.length ≤ _; omega
  · have := hs.n; show g.nv.length ≤ _; omega
  · simp only [List.length_append]; have := hs.p; simp; omega
  · have := hs.rr; show g.rr.length ≤ _; omega
  · have := hs.rn; show g.rn.length ≤ _; omega
  · have := hs.rp; show g.rp.length ≤ _; omega
end Go.Proofs.YtldplmchgmoopaaDoor

namespace Go.Proofs.YtldplmchgmoopaaDoor
open Go.RowKit
set_option linter.unusedVariables false
set_option linter.unusedSimpArgs false

/-- An append of a list, nil or not, to a list of one's own: its run. -/
theorem app_run {T E : TypeId} {z : Value} {size bytes : Nat} (hT : Tryd.prog.underlying T = some (.slice E)) (hinfo : (Tryd.prog.info? E).map (fun i => (i.zero, i.size, i.bytes)) = some (some z, size, bytes)) (hzs : z.cells.size = size) (hsz : 0 < size)
    (w : World) (B : Nat) (hB : B ≤ w.heap.size) (ad : Option Addr) (n cap : Nat) (us : List Value) (hl : us.length = n * size) (hnews : ∀ x, ad = some x → ∀ j u, us[j]? = some u → w.cell? (x.add j) = some u) (hn0 : ad = none → n = 0 ∧ cap = 0) (one : ∀ u ∈ us, u.oneCell' = true)
    (v : Value) (m : Nat) (xs : List Value) (hown : w.ownsRow B E size v m xs) (h63 : m + n ≤ maxLen) (hby : (m + n) * bytes ≤ 140737488355328) :
    ∃ v' w', (∀ ty, (Builtin.append_ #[T, T] ty #[v, .slice ad n cap]).run Tryd.prog w = .ok v' w') ∧ w'.ownsRow B E size v' (m + n) (xs ++ us) ∧ w.grownBy w' v.ownBlock ∧ (v'.ownBlock = v.ownBlock ∨ v'.ownBlock = some w.heap.size) := by
  obtain ⟨i0, hi, hz0, hz1, hz2⟩ := info_parts hinfo
  cases ad with
  | none =>
    obtain ⟨rfl, rfl⟩ := hn0 rfl
    have : us = [] := List.length_eq_zero_iff.1 (by omega)
    subst this
    exact ⟨v, w, fun ty => run_append_owned_none (P := Tryd.prog) (w := w) B T ty E i0 size hT hi v m xs hown, by simpa using hown, ⟨rfl, rfl, rfl, Nat.le_refl _, fun _ _ _ => rfl⟩, .inl rfl⟩
  | some x1 =>
    obtain ⟨v', w', hr, h2, h3, _, h5⟩ := run_append_own_at (P := Tryd.prog) w B T T E i0 z size bytes hT hi hz0 hz1 hz2 hzs hsz v m xs hown x1 n cap us hl (hnews x1 rfl) one h63 hby hB
    exact ⟨v', w', fun ty => hr, h2, h3, h5⟩
/-- A list of one's own as news. -/
theorem own_news {W : World} {B n c s : Nat} {E : TypeId} {a : Option Addr} {xs : List Value} (h : W.ownsRow B E s (.slice a n c) n xs) : (∀ x, a = some x → ∀ j u, xs[j]? = some u → W.cell? (x.add j) = some u) ∧ (a = none → n = 0 ∧ c = 0) := by
  rcases h.2 with ⟨e, e0⟩ | ⟨g, cap, cur, e, r⟩
  · injection e with e1 e2 e3
    subst e1 e2 e3
    exact ⟨(fun x hx => by cases hx), fun _ => ⟨rfl, rfl⟩⟩
  · injection e with e1 e2 e3
    subst e1
    exact ⟨(fun x hx j u hu => by injection hx with hx; subst hx; exact h.cells rfl j u hu), fun z => by cases z⟩
/-- An empty list, new. -/
theorem own_empty (w : World) (E : TypeId) (s : Nat) : (w.alloc (.cells #[] E)).ownsRow w.heap.size E s (.slice (some ⟨w.heap.size, 0, none⟩) 0 0) 0 [] :=
  ⟨by simp, .inr ⟨w.heap.size, 0, #[], rfl, Nat.le_refl _, World.alloc_heap_new w _, Nat.le_refl _, Nat.zero_le _, by simp, by simp⟩⟩
/-- Blocks hold. -/
def Hol (W : World) (l : List (Nat × Obj)) : Prop := ∀ p ∈ l, W.heap[p.1]? = some p.2
/-- A list of one's own by what blocks hold. -/
def SgO (B : Nat) (seg : List (Nat × Obj)) (E : TypeId) (s : Nat) (v : Value) (n : Nat) (xs : List Value) : Prop := (∀ W, Hol W seg → W.ownsRow B E s v n xs) ∧ ∀ z, v.ownBlock = some z → z ∈ seg.map (·.1)
/-- A list of one's own is left: its block. -/
theorem Bk.leave1 {W : World} {B bk : Nat} {vs : List Value} {g : Bg} {sn : List (Nat × Obj)} {mark : Int} {late : Bool} {B' s n : Nat} {E : TypeId} {v : Value} {xs : List Value} (h : Bk W B bk vs g sn mark late) (o : W.ownsRow B' E s v n xs) (hf : ∀ z, v.ownBlock = some z → BkO.Free bk vs g.fs sn z) :
    ∃ seg, Bk W B bk vs g (seg ++ sn) mark late ∧ SgO B' seg E s v n xs ∧ ((sn.map (·.1)).Nodup → ((seg ++ sn).map (·.1)).Nodup) ∧ Hol W seg ∧ ∀ p ∈ seg, v.ownBlock = some p.1 := by
  rcases o.2 with ⟨e, e0⟩ | ⟨gg, cap, cur, e, q1, q2, q3⟩
  · refine ⟨[], h, ⟨(fun W _ => ⟨o.1, .inl ⟨e, e0⟩⟩), fun z hz => by rw [e] at hz; cases hz⟩, (fun nd => nd), (fun p hp => by cases hp), fun p hp => by cases hp⟩
  · have hg : v.ownBlock = some gg := by rw [e]; rfl
    refine ⟨[(gg, .cells cur E)], ⟨h.o.leave q2 (hf gg hg), h.mt, h.lt⟩, ⟨fun W' hW => ⟨o.1, .inr ⟨gg, cap, cur, e, q1, hW _ (List.mem_singleton.2 rfl), q3⟩⟩, fun z hz => ?_⟩, fun nd => ?_, (fun p hp => by rw [List.mem_singleton.1 hp]; exact q2), fun p hp => by rw [List.mem_singleton.1 hp]; exact hg⟩
    · rw [hg] at hz; injection hz with hz; subst hz; simp
    · exact List.nodup_cons.2 ⟨fun q => by obtain ⟨p, hp, e⟩ := List.mem_map.1 q; exact (hf gg hg).2.2 p hp e, nd⟩
/-- What names and pairs of a late book leave: lists as they came, copies. -/
structure LtE (B bk : Nat) (g' : Value → Bg) (sn : List (Nat × Obj)) (mark : Int) (E : TypeId) (s : Nat) (v : Value) (n : Nat) (xs : List Value) (w w' : World) : Prop where
  ex : ∃ vs' v1 B1 seg was, Bk w' B bk vs' (g' v1) (was ++ (seg ++ sn)) mark true ∧ SgO B seg E s v n xs ∧ SgO B1 was E s v1 n xs ∧ ((sn.map (·.1)).Nodup → ((was ++ (seg ++ sn)).map (·.1)).Nodup)
  f : Fr B bk w w'
set_option maxRecDepth 100000 in
set_option maxHeartbeats 8000000 in
theorem names_late (B bk : Nat) (vs : List Value) (g : Bg) (sn : List (Nat × Obj)) (mark : Int) (a : Option Addr) (n c : Nat) (ss : List ByteArray) (w : World) (h : Bk w B bk vs g sn mark true) (hB : B ≤ w.heap.size) (o : w.ownsRow B 9 1 (.slice a n c) n (ss.map Value.string)) (fr : ∀ z, (Value.slice a n c).ownBlock = some z → BkO.Free bk vs g.fs sn z)
    (hn : n ≤ 1000000) (hg : g.rn.length ≤ 1000000000000 ∧ g.wn.length ≤ 1000000000000) :
    Calls Tryd.prog 21 #[.pointer (some ⟨bk, 0, none⟩), .slice a n c] w fun e w' => e = .returned (.tuple #[]) ∧ LtE B bk (fun v1 => { g with rn := g.rn ++ [.slice a n c], wn := g.wn ++ [v1] }) sn mark 9 1 (.slice a n c) n (ss.map Value.string) w w' := by
  obtain ⟨seg, h0, sg, nd0, hol, _⟩ := h.leave1 o fr
  have S15 := Lib.hid (h0.grow (g' := { g with rn := g.rn ++ [.slice a n c] }) 15 27 g.rn.length g.rn (.slice a n c) (g.fs.take 13) (g.fs.drop 14) rfl (by simp [Bg.fs]) hB)
  have HS := Lib.hid h0
  have SG := Lib.hid (p := SgO B seg 9 1 (.slice a n c) n (ss.map Value.string) ∧ ((sn.map (·.1)).Nodup → ((seg ++ sn).map (·.1)).Nodup)) ⟨sg, nd0⟩
  obtain ⟨c0, c1, c2⟩ := h0.cells
  obtain ⟨V5, hV5⟩ : ∃ V, vs.getD 15 default = V := ⟨_, rfl⟩
  obtain ⟨V6, hV6⟩ : ∃ V, vs.getD 16 default = V := ⟨_, rfl⟩
  rw [hV5] at S15
  have HV := Lib.hid hV6
  obtain ⟨c5, o5, _⟩ := S15.out
  have xl : (ss.map Value.string).length = n := by have := o.1; simpa using this
  clear h o fr h0 hV5 hV6 sg nd0 hol
  obtain ⟨L1, L2⟩ := hg
  go_enter Tryd.func21, Tryd.ntmps21
  go_upto_region 2 with (first
    | (at_builtin; refine wp_appB Tryd.underlying26 infoSS rfl (by decide) _ B (Nat.le_trans hB (by simp)) ⟨w.heap.size, 0, none⟩ 1 1 [.slice a n c] rfl (one_news w _ _) (by simp [Value.oneCell']) rfl _ _ rfl _ _ _ rfl o5 rfl (by unfold maxLen; omega) (by omega) ?_; intro v2 w2 O2 G2 E2; obtain ⟨xa, xc, hx⟩ := own_form2 O2; subst hx; obtain ⟨⟨p0, p1⟩, hP, hF⟩ := S15.out.2.2 _ w2 O2 G2 E2; obtain ⟨wA, hwA⟩ : ∃ u, w2.setCell ⟨bk, 15, none⟩ (.slice xa (g.rn.length + 1) xc) = u := ⟨_, rfl⟩; rw [hwA] at hP hF; have P5 := Lib.hid hP; have F5 := Lib.hid hF; clear O2 G2 E2 hP hF))
  have hBA : B ≤ wA.heap.size := Nat.le_trans hB F5.out.size
  have OA : wA.ownsRow B 9 1 (.slice a n c) n (ss.map Value.string) := SG.out.1.1 wA (fun p hp => (P5.out.o.st p (List.mem_append.2 (.inl hp))).1)
  have BE := Lib.hid (below_al wA (.cells #[] 9))
  obtain ⟨news, nil0⟩ := own_news (own_back OA BE.out)
  obtain ⟨v1, w1, r1, O1, G1, E1⟩ := app_run (T := 27) Tryd.underlying27 infoS rfl (by decide) (wA.alloc (.cells #[] 9)).drew wA.heap.size (by simp) a n c (ss.map Value.string) (by rw [xl]; omega) news nil0 (strs_one ss) (.slice (some ⟨wA.heap.size, 0, none⟩) 0 0) 0 [] (own_empty wA 9 1) (by unfold maxLen; omega) (by omega)
  have B1 := Lib.hid (p := Below wA.heap.size wA w1) ((BE.out.trans ((Below.refl _ (wA.alloc (.cells #[] 9))).drew.mono BE.out.size)).grown G1 (Nat.le_trans BE.out.size (Nat.le_refl _)) (fun k e => by cases e; exact Nat.le_refl _))
  obtain ⟨a1, d1, hv1⟩ := own_form2 O1
  subst hv1
  simp only [Nat.zero_add, List.nil_append] at O1 r1 E1
  have P6 := P5.out.below B1.out
  have FZ : ∀ z, (Value.slice a1 n d1).ownBlock = some z → BkO.Free bk (vs.set 15 (.slice xa (g.rn.length + 1) xc)) ({ g with rn := g.rn ++ [.slice a n c] } : Bg).fs (seg ++ sn) z := fun z e => P5.out.o.new (O1.lt z e).1
  obtain ⟨was, h6, sw, nw, _, _⟩ := P6.leave1 O1 FZ
  have S16 := Lib.hid (h6.grow (g' := { g with rn := g.rn ++ [.slice a n c], wn := g.wn ++ [.slice a1 n d1] }) 16 27 g.wn.length g.wn (.slice a1 n d1) (({ g with rn := g.rn ++ [.slice a n c] } : Bg).fs.take 14) (({ g with rn := g.rn ++ [.slice a n c] } : Bg).fs.drop 15) rfl (by simp [Bg.fs]) (Nat.le_trans hBA B1.out.size))
  rw [getD_ne (by decide), HV.out] at S16
  obtain ⟨c6, o6, _⟩ := S16.out
  obtain ⟨v2, w2', r2, O2, G2, E2⟩ := app_run (T := 26) Tryd.underlying26 infoSS rfl (by decide) (w1.alloc (.cells #[.slice a1 n d1] 27)) B (Nat.le_trans (Nat.le_trans hBA B1.out.size) (by simp)) (some ⟨w1.heap.size, 0, none⟩) 1 1 [.slice a1 n d1] rfl (one_news w1 _ _) (by simp) (by simp [Value.oneCell']) V6 g.wn.length g.wn o6 (by unfold maxLen; omega) (by omega)
  obtain ⟨ya, yc, hx⟩ := own_form2 O2
  subst hx
  obtain ⟨⟨q0, q1⟩, hP, hF⟩ := S16.out.2.2 _ w2' O2 G2 E2
  have RES := Lib.hid (p := LtE B bk (fun v1 => { g with rn := g.rn ++ [.slice a n c], wn := g.wn ++ [v1] }) sn mark 9 1 (.slice a n c) n (ss.map Value.string) w (w2'.setCell ⟨bk, 16, none⟩ (.slice ya (g.wn.length + 1) yc))) ⟨⟨_, _, _, seg, was, hP, SG.out.1, sw, fun z => nw (SG.out.2 z)⟩, (F5.out.trans (Fr.below B1.out hBA)).trans hF⟩
  have bkl : bk < wA.heap.size := P5.out.o.lt.1
  have k0 : wA.cell? ⟨bk, 16, none⟩ = some V6 := by
    have := (P5.out.o.cell 16 (by omega)).1
    rwa [getD_ne (by decide), HV.out] at this
  have k1 : (wA.alloc (.cells #[] 9)).cell? ⟨bk, 16, none⟩ = some V6 := (BE.out.cell (p := ⟨bk, 16, none⟩) bkl).trans k0
  have k2 : w1.cell? ⟨bk, 16, none⟩ = some V6 := c6
  have k3 : (w1.alloc (.cells #[.slice a1 n d1] 27)).cell? ⟨bk, 16, none⟩ = some V6 := ((below_al w1 _).cell (p := ⟨bk, 16, none⟩) (Nat.lt_of_lt_of_le bkl B1.out.size)).trans c6
  clear O1 G1 E1 O2 G2 E2 hP hF P6 FZ h6 sw nw OA news nil0 c6 o6
  go_region_law (first | (refine step_app_run rfl _ _ 27 rfl _ _ _ w1 rfl rfl r1 ?_) | (refine step_app_run rfl _ _ 26 rfl _ _ _ w2' rfl rfl r2 ?_))
  all_goals
    go_wp2
    refine bodyPost_ret (v := .tuple #[]) (results_none Tryd.results21 _ _ _) rfl ?_
    exact ⟨rfl, RES.out⟩
theorem prV_one (ps : List (ByteArray × Int)) : ∀ u ∈ prV ps, u.oneCell' = true := by
  intro u hu
  unfold prV at hu
  obtain ⟨p, _, hp⟩ := List.mem_flatMap.1 hu
  simp at hp
  rcases hp with rfl | rfl <;> rfl
set_option maxRecDepth 100000 in
set_option maxHeartbeats 8000000 in
theorem pairs_late (B bk : Nat) (vs : List Value) (g : Bg) (sn : List (Nat × Obj)) (mark : Int) (a : Option Addr) (n c : Nat) (ps : List (ByteArray × Int)) (w : World) (h : Bk w B bk vs g sn mark true) (hB : B ≤ w.heap.size) (o : w.ownsRow B 67 2 (.slice a n c) n (prV ps)) (fr : ∀ z, (Value.slice a n c).ownBlock = some z → BkO.Free bk vs g.fs sn z)
    (hn : n ≤ 1000000000000) (hg : g.rp.length ≤ 1000000000000 ∧ g.wp.length ≤ 1000000000000) :
    Calls Tryd.prog 23 #[.pointer (some ⟨bk, 0, none⟩), .slice a n c] w fun e w' => e = .returned (.tuple #[]) ∧ LtE B bk (fun v1 => { g with rp := g.rp ++ [.slice a n c], wp := g.wp ++ [v1] }) sn mark 67 2 (.slice a n c) n (prV ps) w w' := by
  obtain ⟨seg, h0, sg, nd0, hol, _⟩ := h.leave1 o fr
  have S15 := Lib.hid (h0.grow (g' := { g with rp := g.rp ++ [.slice a n c] }) 17 63 g.rp.length g.rp (.slice a n c) (g.fs.take 15) (g.fs.drop 16) rfl (by simp [Bg.fs]) hB)
  have HS := Lib.hid h0
  have SG := Lib.hid (p := SgO B seg 67 2 (.slice a n c) n (prV ps) ∧ ((sn.map (·.1)).Nodup → ((seg ++ sn).map (·.1)).Nodup)) ⟨sg, nd0⟩
  obtain ⟨c0, c1, c2⟩ := h0.cells
  obtain ⟨V5, hV5⟩ : ∃ V, vs.getD 17 default = V := ⟨_, rfl⟩
  obtain ⟨V6, hV6⟩ : ∃ V, vs.getD 18 default = V := ⟨_, rfl⟩
  rw [hV5] at S15
  have HV := Lib.hid hV6
  obtain ⟨c5, o5, _⟩ := S15.out
  have xl : (prV ps).length = n * 2 := o.1
  clear h o fr h0 hV5 hV6 sg nd0 hol
  obtain ⟨L1, L2⟩ := hg
  go_enter Tryd.func23, Tryd.ntmps23
  go_upto_region 2 with (first
    | (at_builtin; refine wp_appB Tryd.underlying28 infoPP rfl (by decide) _ B (Nat.le_trans hB (by simp)) ⟨w.heap.size, 0, none⟩ 1 1 [.slice a n c] rfl (one_news w _ _) (by simp [Value.oneCell']) rfl _ _ rfl _ _ _ rfl o5 rfl (by unfold maxLen; omega) (by omega) ?_; intro v2 w2 O2 G2 E2; obtain ⟨xa, xc, hx⟩ := own_form2 O2; subst hx; obtain ⟨⟨p0, p1⟩, hP, hF⟩ := S15.out.2.2 _ w2 O2 G2 E2; obtain ⟨wA, hwA⟩ : ∃ u, w2.setCell ⟨bk, 17, none⟩ (.slice xa (g.rp.length + 1) xc) = u := ⟨_, rfl⟩; rw [hwA] at hP hF; have P5 := Lib.hid hP; have F5 := Lib.hid hF; clear O2 G2 E2 hP hF))
  have hBA : B ≤ wA.heap.size := Nat.le_trans hB F5.out.size
  have OA : wA.ownsRow B 67 2 (.slice a n c) n (prV ps) := SG.out.1.1 wA (fun p hp => (P5.out.o.st p (List.mem_append.2 (.inl hp))).1)
  have BE := Lib.hid (below_al wA (.cells #[] 67))
  obtain ⟨news, nil0⟩ := own_news (own_back OA BE.out)
  obtain ⟨v1, w1, r1, O1, G1, E1⟩ := app_run (T := 63) Tryd.underlying63 infoP rfl (by decide) (wA.alloc (.cells #[] 67)).drew wA.heap.size (by simp) a n c (prV ps) xl news nil0 (prV_one ps) (.slice (some ⟨wA.heap.size, 0, none⟩) 0 0) 0 [] (own_empty wA 67 2) (by unfold maxLen; omega) (by omega)
  have B1 := Lib.hid (p := Below wA.heap.size wA w1) ((BE.out.trans ((Below.refl _ (wA.alloc (.cells #[] 67))).drew.mono BE.out.size)).grown G1 (Nat.le_trans BE.out.size (Nat.le_refl _)) (fun k e => by cases e; exact Nat.le_refl _))
  obtain ⟨a1, d1, hv1⟩ := own_form2 O1
  subst hv1
  simp only [Nat.zero_add, List.nil_append] at O1 r1 E1
  have P6 := P5.out.below B1.out
  have FZ : ∀ z, (Value.slice a1 n d1).ownBlock = some z → BkO.Free bk (vs.set 17 (.slice xa (g.rp.length + 1) xc)) ({ g with rp := g.rp ++ [.slice a n c] } : Bg).fs (seg ++ sn) z := fun z e => P5.out.o.new (O1.lt z e).1
  obtain ⟨was, h6, sw, nw, _, _⟩ := P6.leave1 O1 FZ
  have S16 := Lib.hid (h6.grow (g' := { g with rp := g.rp ++ [.slice a n c], wp := g.wp ++ [.slice a1 n d1] }) 18 63 g.wp.length g.wp (.slice a1 n d1) (({ g with rp := g.rp ++ [.slice a n c] } : Bg).fs.take 16) (({ g with rp := g.rp ++ [.slice a n c] } : Bg).fs.drop 17) rfl (by simp [Bg.fs]) (Nat.le_trans hBA B1.out.size))
  rw [getD_ne (by decide), HV.out] at S16
  obtain ⟨c6, o6, _⟩ := S16.out
  obtain ⟨v2, w2', r2, O2, G2, E2⟩ := app_run (T := 28) Tryd.underlying28 infoPP rfl (by decide) (w1.alloc (.cells #[.slice a1 n d1] 63)) B (Nat.le_trans (Nat.le_trans hBA B1.out.size) (by simp)) (some ⟨w1.heap.size, 0, none⟩) 1 1 [.slice a1 n d1] rfl (one_news w1 _ _) (by simp) (by simp [Value.oneCell']) V6 g.wp.length g.wp o6 (by unfold maxLen; omega) (by omega)
  obtain ⟨ya, yc, hx⟩ := own_form2 O2
  subst hx
  obtain ⟨⟨q0, q1⟩, hP, hF⟩ := S16.out.2.2 _ w2' O2 G2 E2
  have RES := Lib.hid (p := LtE B bk (fun v1 => { g with rp := g.rp ++ [.slice a n c], wp := g.wp ++ [v1] }) sn mark 67 2 (.slice a n c) n (prV ps) w (w2'.setCell ⟨bk, 18, none⟩ (.slice ya (g.wp.length + 1) yc))) ⟨⟨_, _, _, seg, was, hP, SG.out.1, sw, fun z => nw (SG.out.2 z)⟩, (F5.out.trans (Fr.below B1.out hBA)).trans hF⟩
  have bkl : bk < wA.heap.size := P5.out.o.lt.1
  have k0 : wA.cell? ⟨bk, 18, none⟩ = some V6 := by
    have := (P5.out.o.cell 18 (by omega)).1
    rwa [getD_ne (by decide), HV.out] at this
  have k1 : (wA.alloc (.cells #[] 67)).cell? ⟨bk, 18, none⟩ = some V6 := (BE.out.cell (p := ⟨bk, 18, none⟩) bkl).trans k0
  have k2 : w1.cell? ⟨bk, 18, none⟩ = some V6 := c6
  have k3 : (w1.alloc (.cells #[.slice a1 n d1] 63)).cell? ⟨bk, 18, none⟩ = some V6 := ((below_al w1 _).cell (p := ⟨bk, 18, none⟩) (Nat.lt_of_lt_of_le bkl B1.out.size)).trans c6
  clear O1 G1 E1 O2 G2 E2 hP hF P6 FZ h6 sw nw OA news nil0 c6 o6
  go_region_law (first | (refine step_app_run rfl _ _ 63 rfl _ _ _ w1 rfl rfl r1 ?_) | (refine step_app_run rfl _ _ 28 rfl _ _ _ w2' rfl rfl r2 ?_))
  all_goals
    go_wp2
    refine bodyPost_ret (v := .tuple #[]) (results_none Tryd.results23 _ _ _) rfl ?_
    exact ⟨rfl, RES.out⟩
end Go.Proofs.YtldplmchgmoopaaDoor

namespace Go.Proofs.YtldplmchgmoopaaDoor
open Go.RowKit
set_option linter.unusedVariables false
set_option linter.unusedSimpArgs false

/-- Blocks that are none of the book's are left. -/
theorem Bk.leaveS {W : World} {B bk : Nat} {vs : List Value} {g : Bg} {sn : List (Nat × Obj)} {mark : Int} {late : Bool} (h : Bk W B bk vs g sn mark late) : ∀ (L : List (Nat × Obj)), (∀ p ∈ L, W.heap[p.1]? = some p.2 ∧ BkO.Free bk vs g.fs sn p.1) →
    ∃ add, Bk W B bk vs g (add ++ sn) mark late ∧ (∀ p ∈ L, p ∈ add) ∧ (∀ p ∈ add, p ∈ L) ∧ ((sn.map (·.1)).Nodup → ((add ++ sn).map (·.1)).Nodup)
  | [], _ => ⟨[], h, (fun p hp => by cases hp), (fun p hp => by cases hp), fun nd => nd⟩
  | x :: L, hL => by
    obtain ⟨add, h1, h2, h3, h4⟩ := h.leaveS L (fun p hp => hL p (List.mem_cons_of_mem _ hp))
    obtain ⟨hx, fx⟩ := hL x (List.mem_cons_self ..)
    by_cases q : x.1 ∈ add.map (·.1)
    · obtain ⟨y, hy, e⟩ := List.mem_map.1 q
      have k1 := (h1.o.st y (List.mem_append.2 (.inl hy))).1
      rw [e, hx] at k1
      injection k1 with k1
      have exy : x = y := Prod.ext e.symm k1
      refine ⟨add, h1, fun p hp => ?_, fun p hp => List.mem_cons_of_mem _ (h3 p hp), h4⟩
      rcases List.mem_cons.1 hp with r | r
      · rw [r, exy]; exact hy
      · exact h2 p r
    · have ne : ∀ p ∈ add ++ sn, p.1 ≠ x.1 := fun p hp e => by
        rcases List.mem_append.1 hp with r | r
        · exact q (List.mem_map.2 ⟨p, r, e⟩)
        · exact fx.2.2 p r e
      refine ⟨x :: add, ⟨h1.o.leave (z := x.1) (o := x.2) hx ⟨fx.1, fx.2.1, ne⟩, h1.mt, h1.lt⟩, fun p hp => ?_, fun p hp => ?_, fun nd => ?_⟩
      · rcases List.mem_cons.1 hp with r | r
        · rw [r]; exact List.mem_cons_self ..
        · exact List.mem_cons_of_mem _ (h2 p r)
      · rcases List.mem_cons.1 hp with r | r
        · rw [r]; exact List.mem_cons_self ..
        · exact List.mem_cons_of_mem _ (h3 p r)
      · exact List.nodup_cons.2 ⟨fun z => by obtain ⟨p, hp, e⟩ := List.mem_map.1 z; exact ne p hp e, h4 nd⟩
/-- The block of a slice as it lies. -/
def blkL (W : World) (v : Value) : List (Nat × Obj) := match v with
  | .slice (some ⟨z, 0, none⟩) _ _ => match W.heap[z]? with | some o => [(z, o)] | none => []
  | _ => []
theorem blkL_has {W : World} {B s n : Nat} {E : TypeId} {v : Value} {xs : List Value} (h : W.ownsRow B E s v n xs) {z : Nat} (hz : v.ownBlock = some z) : ∃ o, (z, o) ∈ blkL W v ∧ W.heap[z]? = some o := by
  rcases h.2 with ⟨e, _⟩ | ⟨g, cap, cur, e, _, q, _⟩
  · rw [e] at hz; cases hz
  · rw [e] at hz; injection hz with hz; subst hz
    exact ⟨_, by rw [e]; simp [blkL, q], q⟩
theorem blkL_is {W : World} {B s n : Nat} {E : TypeId} {v : Value} {xs : List Value} (h : W.ownsRow B E s v n xs) : ∀ p ∈ blkL W v, v.ownBlock = some p.1 ∧ W.heap[p.1]? = some p.2 := by
  intro p hp
  rcases h.2 with ⟨e, _⟩ | ⟨g, cap, cur, e, _, q, _⟩
  · rw [e] at hp; simp [blkL] at hp
  · rw [e] at hp; simp [blkL, q] at hp
    subst hp
    exact ⟨by rw [e]; rfl, q⟩
/-- Rows of one's own by what blocks hold. -/
def SgR (B : Nat) (seg : List (Nat × Obj)) (v : Value) (qs : List Rw) : Prop := (∀ W, Hol W seg → RwO W B v qs) ∧ (∀ z, v.ownBlock = some z → z ∈ seg.map (·.1)) ∧ ∀ q ∈ qs, ∀ z, q.a = some ⟨z, 0, none⟩ → z ∈ seg.map (·.1)
theorem Bk.leaveR {W : World} {B bk : Nat} {vs : List Value} {g : Bg} {sn : List (Nat × Obj)} {mark : Int} {late : Bool} {v : Value} {qs : List Rw} (h : Bk W B bk vs g sn mark late) (o : RwO W B v qs) (fr : FrR bk vs g.fs sn v qs) (hl : ∀ q ∈ qs, q.cs.length ≤ 2000000) :
    ∃ seg, Bk W B bk vs g (seg ++ sn) mark late ∧ SgR B seg v qs ∧ ((sn.map (·.1)).Nodup → ((seg ++ sn).map (·.1)).Nodup) := by
  have ob : ∀ q ∈ qs, ∀ z, (qv q).ownBlock = some z → q.a = some ⟨z, 0, none⟩ := fun q hq z hz => by
    obtain ⟨y, e1, _⟩ := o.ok q hq
    unfold qv at hz
    rw [e1] at hz
    cases hz
    exact e1
  obtain ⟨seg, h1, h2, h3, h4⟩ := h.leaveS (blkL W v ++ qs.flatMap (fun q => blkL W (qv q))) (fun p hp => by
    rcases List.mem_append.1 hp with r | r
    · obtain ⟨e1, e2⟩ := blkL_is o.own p r
      exact ⟨e2, fr.1 _ e1⟩
    · obtain ⟨q, hq, r⟩ := List.mem_flatMap.1 r
      obtain ⟨e1, e2⟩ := blkL_is (q_own (o.ok q hq) (hl q hq)) p r
      exact ⟨e2, fr.2 q hq _ (ob q hq _ e1)⟩)
  refine ⟨seg, h1, ⟨fun W' hW => ⟨?_, fun q hq => ?_, o.nd⟩, fun z hz => ?_, fun q hq z hz => ?_⟩, h4⟩
  · refine own_keep o.own (fun b hb => ?_)
    obtain ⟨ob, m, e⟩ := blkL_has o.own hb
    rw [e]
    exact hW _ (h2 _ (List.mem_append.2 (.inl m)))
  · obtain ⟨z, e1, e2, e3, e4, e5⟩ := o.ok q hq
    obtain ⟨obj, m, e⟩ := blkL_has (q_own (o.ok q hq) (hl q hq)) (z := z) (by unfold qv; rw [e1]; rfl)
    refine ⟨z, e1, e2, e3, e4, ?_⟩
    rw [← e5, e]
    exact hW _ (h2 _ (List.mem_append.2 (.inr (List.mem_flatMap.2 ⟨q, hq, m⟩))))
  · obtain ⟨obj, m, e⟩ := blkL_has o.own hz
    exact List.mem_map.2 ⟨_, h2 _ (List.mem_append.2 (.inl m)), rfl⟩
  · obtain ⟨obj, m, e⟩ := blkL_has (q_own (o.ok q hq) (hl q hq)) (z := z) (by unfold qv; rw [hz]; rfl)
    exact List.mem_map.2 ⟨_, h2 _ (List.mem_append.2 (.inr (List.mem_flatMap.2 ⟨q, hq, m⟩))), rfl⟩
/-- Rows that grew are left, as they read. -/
theorem Bk.leaveA {W : World} {B B1 bk : Nat} {vs : List Value} {g : Bg} {sn : List (Nat × Obj)} {mark : Int} {late : Bool} {v : Value} {qs : List Rw} (h : Bk W B bk vs g sn mark late) (o : RwA W B1 v qs) (fr : ∀ z, B1 ≤ z → BkO.Free bk vs g.fs sn z) :
    ∃ seg, Bk W B bk vs g (seg ++ sn) mark late ∧ (∀ W', Hol W' seg → RwA W' B1 v qs) ∧ ((sn.map (·.1)).Nodup → ((seg ++ sn).map (·.1)).Nodup) := by
  obtain ⟨seg, h1, h2, h3, h4⟩ := h.leaveS (blkL W v ++ qs.flatMap (fun q => blkL W (qv q))) (fun p hp => by
    rcases List.mem_append.1 hp with r | r
    · obtain ⟨e1, e2⟩ := blkL_is o.own p r
      exact ⟨e2, fr _ (o.own.lt _ e1).1⟩
    · obtain ⟨q, hq, r⟩ := List.mem_flatMap.1 r
      obtain ⟨e1, e2⟩ := blkL_is (o.ok q hq).1 p r
      exact ⟨e2, fr _ ((o.ok q hq).1.lt _ e1).1⟩)
  refine ⟨seg, h1, fun W' hW => ⟨?_, fun q hq => ⟨?_, (o.ok q hq).2⟩⟩, h4⟩
  · refine own_keep o.own (fun b hb => ?_)
    obtain ⟨ob, m, e⟩ := blkL_has o.own hb
    rw [e]
    exact hW _ (h2 _ (List.mem_append.2 (.inl m)))
  · refine own_keep (o.ok q hq).1 (fun b hb => ?_)
    obtain ⟨ob, m, e⟩ := blkL_has (o.ok q hq).1 hb
    rw [e]
    exact hW _ (h2 _ (List.mem_append.2 (.inr (List.mem_flatMap.2 ⟨q, hq, m⟩))))
/-- What rows of a late book leave. -/
structure LrE (B bk : Nat) (g' : Value → Bg) (sn : List (Nat × Obj)) (mark : Int) (v : Value) (qs : List Rw) (w w' : World) : Prop where
  ex : ∃ vs' v1 B1 seg was qs1, Bk w' B bk vs' (g' v1) (was ++ (seg ++ sn)) mark true ∧ SgR B seg v qs ∧ (∀ W', Hol W' was → RwA W' B1 v1 qs1) ∧ qs1.map (·.cs) = qs.map (·.cs) ∧ ((sn.map (·.1)).Nodup → ((was ++ (seg ++ sn)).map (·.1)).Nodup)
  f : Fr B bk w w'
set_option maxRecDepth 100000 in
set_option maxHeartbeats 8000000 in
theorem rows_late (B bk : Nat) (vs : List Value) (g : Bg) (sn : List (Nat × Obj)) (mark : Int) (a : Option Addr) (n c : Nat) (qs : List Rw) (w : World) (h : Bk w B bk vs g sn mark true) (hB : B ≤ w.heap.size) (o : RwO w B (.slice a n c) qs) (fr : FrR bk vs g.fs sn (.slice a n c) qs)
    (hn : n ≤ 1000000) (hq : ∀ q ∈ qs, q.cs.length ≤ 2000000) (hg : g.rr.length ≤ 1000000000000 ∧ g.wr.length ≤ 1000000000000) :
    Calls Tryd.prog 20 #[.pointer (some ⟨bk, 0, none⟩), .slice a n c] w fun e w' => e = .returned (.tuple #[]) ∧ LrE B bk (fun v1 => { g with rr := g.rr ++ [.slice a n c], wr := g.wr ++ [v1] }) sn mark (.slice a n c) qs w w' := by
  obtain ⟨seg, h0, sg, nd0⟩ := h.leaveR o fr hq
  have S13 := Lib.hid (h0.grow (g' := { g with rr := g.rr ++ [.slice a n c] }) 13 23 g.rr.length g.rr (.slice a n c) (g.fs.take 11) (g.fs.drop 12) rfl (by simp [Bg.fs]) hB)
  have SG := Lib.hid (p := SgR B seg (.slice a n c) qs ∧ ((sn.map (·.1)).Nodup → ((seg ++ sn).map (·.1)).Nodup)) ⟨sg, nd0⟩
  have QN := Lib.hid (p := qs.length = n) (own_len o.own).symm
  have HQ := Lib.hid hq
  obtain ⟨c0, c1, c2⟩ := h0.cells
  obtain ⟨V5, hV5⟩ : ∃ V, vs.getD 13 default = V := ⟨_, rfl⟩
  obtain ⟨V6, hV6⟩ : ∃ V, vs.getD 14 default = V := ⟨_, rfl⟩
  rw [hV5] at S13
  have HV := Lib.hid hV6
  obtain ⟨c5, o5, _⟩ := S13.out
  clear h o fr h0 hV5 hV6 sg nd0 hq
  obtain ⟨L1, L2⟩ := hg
  go_enter Tryd.func20, Tryd.ntmps20
  go_wp2_with (first
    | (at_builtin; refine wp_appB Tryd.underlying25 infoRR rfl (by decide) _ B (Nat.le_trans hB (by simp)) ⟨w.heap.size, 0, none⟩ 1 1 [.slice a n c] rfl (one_news w _ _) (by simp [Value.oneCell']) rfl _ _ rfl _ _ _ rfl o5 rfl (by unfold maxLen; omega) (by omega) ?_; intro v2 w2 O2 G2 E2; obtain ⟨xa, xc, hx⟩ := own_form2 O2; subst hx; obtain ⟨⟨p0, p1⟩, hP, hF⟩ := S13.out.2.2 _ w2 O2 G2 E2; obtain ⟨wA, hwA⟩ : ∃ u, w2.setCell ⟨bk, 13, none⟩ (.slice xa (g.rr.length + 1) xc) = u := ⟨_, rfl⟩; rw [hwA] at hP hF; have P5 := Lib.hid hP; have F5 := Lib.hid hF; clear O2 G2 E2 hP hF))
  have hBA : B ≤ wA.heap.size := Nat.le_trans hB F5.out.size
  go_loopw [4, 5] (fun v t ws => ∃ (i : Nat) (q1 : List Rw), i ≤ n ∧ t = .int .i64 (i : Int) ∧ RowKit.Hid (RwA ws wA.heap.size v q1 ∧ q1.map (·.cs) = (qs.take i).map (·.cs) ∧ Below wA.heap.size wA ws)) (fun _ t _ => n - (intOf t).toNat)
  case atStart => exact ⟨0, [], Nat.zero_le _, rfl, RwA.nil _ _, rfl, Below.refl _ _⟩
  case round =>
    obtain ⟨i, q1, hi, rfl, hQ⟩ := hrel
    rename World => ws
    have RA := Lib.hid hQ.out.1
    have QC := Lib.hid hQ.out.2.1
    have BS := Lib.hid hQ.out.2.2
    clear hQ
    have QL := Lib.hid (p := q1.length = i) (by have := congrArg List.length QC.out; simp [QN.out] at this; omega)
    have RO := Lib.hid (SG.out.1.1 ws (fun p hp => ((P5.out.below BS.out).o.st p (List.mem_append.2 (.inl hp))).1))
    by_cases hlt : i < n
    · have kc : (i : Int) < (n : Int) := by omega
      have kw : IntKind.i64.wrap ((i : Int) + 1) = (i : Int) + 1 := by simp [IntKind.wrap, IntKind.bits, IntKind.signed]; omega
      obtain ⟨rb, rfl⟩ : ∃ z, a = some ⟨z, 0, none⟩ := by
        rcases RO.out.own.2 with ⟨e, e0⟩ | ⟨z, _, _, e, _⟩
        · have := QN.out; omega
        · injection e with e1 e2 e3; exact ⟨z, e1⟩
      have hiq : i < qs.length := by rw [QN.out]; exact hlt
      have d0 := RO.out.cell hiq
      obtain ⟨Q, hQe⟩ : ∃ q, qs.getD i default = q := ⟨_, rfl⟩
      have hQm : Q ∈ qs := by rw [← hQe, show qs.getD i default = qs[i] by simp [List.getD, hiq]]; exact List.getElem_mem hiq
      have hQl := HQ.out Q hQm
      have OQ := q_own (RO.out.ok Q hQm) hQl
      have NXT := Lib.hid (p := ∀ A N C, (q1 ++ [(⟨A, N, C, Q.cs⟩ : Rw)]).map (·.cs) = (qs.take (i + 1)).map (·.cs)) (fun A N C => by
        rw [List.map_append, QC.out, List.take_add_one, List.getElem?_eq_getElem hiq, List.map_append, ← hQe]
        simp [List.getD, hiq])
      rw [hQe] at d0
      have ql : Q.n = Q.cs.length := by obtain ⟨_, _, _, e3, _⟩ := RO.out.ok Q hQm; exact e3
      obtain ⟨qa, qn, qc, qcs⟩ := Q
      simp only at ql d0 hQl NXT
      subst ql
      have BE := Lib.hid (below_al ws (.cells #[] 65))
      obtain ⟨news, nil0⟩ := own_news (own_back OQ BE.out)
      have NW := Lib.hid (p := (∀ x, qa = some x → ∀ j u, (clv qcs)[j]? = some u → (ws.alloc (.cells #[] 65)).cell? (x.add j) = some u) ∧ (qa = none → qcs.length = 0 ∧ qc = 0)) ⟨news, nil0⟩
      have RA1 := Lib.hid RA.out.own
      clear OQ news nil0 hQe hQm
      have dE : (ws.alloc (.cells #[] 65)).cell? ⟨rb, i, none⟩ = some (.slice qa qcs.length qc) := (BE.out.cell (p := ⟨rb, i, none⟩) (by have := RO.out.own.lt rb rfl; exact this.2)).trans d0
      go_wp2_with (first
        | (at_builtin; refine wp_appG Tryd.underlying50 infoC rfl (by decide) _ ws.heap.size (by simp) qa qcs.length qc (clv qcs) (by rw [clv_len]) NW.out.1 NW.out.2 (ccs_one qcs) rfl _ _ rfl _ _ _ rfl (own_empty ws 65 2) rfl (by unfold maxLen; omega) (by omega) ?_; intro v1 w1 O1 G1; simp only [Nat.zero_add, List.nil_append] at O1; obtain ⟨a1, d1, hv1⟩ := own_form2 O1; subst hv1; have B1 := Lib.hid (p := Below ws.heap.size ws w1) (BE.out.grown G1 BE.out.size (fun k e => by cases e; exact Nat.le_refl _)); have OC := Lib.hid O1; have BB := Lib.hid (B1.out.trans ((below_al w1 (.cells #[.slice a1 qcs.length d1] 50)).mono B1.out.size)); have RB := Lib.hid (own_back RA1.out BB.out); clear O1 G1)
        | (at_builtin; refine wp_appB Tryd.underlying23 infoR rfl (by decide) _ wA.heap.size (Nat.le_trans BS.out.size BB.out.size) ⟨w1.heap.size, 0, none⟩ 1 1 [.slice a1 qcs.length d1] rfl (one_news w1 _ _) (by simp [Value.oneCell']) rfl _ _ rfl _ _ _ rfl RB.out rfl (by have := QL.out; unfold maxLen; omega) (by have := QL.out; omega) ?_; intro v2 w2 O2 G2 E2; have O3 := Lib.hid O2; have G3 := Lib.hid G2; clear O2 G2 E2))
      have PU := Lib.hid ((RA.out.below BB.out).push (q := ⟨a1, qcs.length, d1, qcs⟩) (by have := own_mono (own_back OC.out (below_al w1 (.cells #[.slice a1 qcs.length d1] 50))) BS.out.size; simpa [qv] using this) rfl (by rw [QL.out] at *; exact O3.out) G3.out)
      have B2 := Lib.hid (p := Below wA.heap.size wA w2) ((BS.out.trans (BB.out.mono BS.out.size)).grown G3.out (Nat.le_trans BS.out.size BB.out.size) (fun k e => (RB.out.lt k e).1))
      go_roundw
      case rel => exact ⟨i + 1, _, by omega, by go_num, PU.out, NXT.out _ _ _, B2.out⟩
      case measure => simp [intOf]; omega
    · obtain rfl : i = n := by omega
      have kc : ¬ (i : Int) < (i : Int) := by omega
      obtain ⟨va, vc, hv⟩ := own_form2 RA.out.own
      subst hv
      have QC2 := Lib.hid (p := q1.map (·.cs) = qs.map (·.cs)) (by have := QC.out; rwa [List.take_of_length_le (by rw [QN.out]; exact Nat.le_refl _)] at this)
      rw [QL.out] at *
      obtain ⟨was, h6, sw, nw⟩ := (P5.out.below BS.out).leaveA RA.out (fun z hz => P5.out.o.new hz)
      have S14 := Lib.hid (h6.grow (g' := { g with rr := g.rr ++ [.slice a i c], wr := g.wr ++ [.slice va i vc] }) 14 23 g.wr.length g.wr (.slice va i vc) (({ g with rr := g.rr ++ [.slice a i c] } : Bg).fs.take 12) (({ g with rr := g.rr ++ [.slice a i c] } : Bg).fs.drop 13) rfl (by simp [Bg.fs]) (Nat.le_trans hBA BS.out.size))
      rw [getD_ne (by decide), HV.out] at S14
      obtain ⟨c6, o6, _⟩ := S14.out
      have NW := Lib.hid (p := (∀ W', Hol W' was → RwA W' wA.heap.size (.slice va i vc) q1) ∧ (((seg ++ sn).map (·.1)).Nodup → ((was ++ (seg ++ sn)).map (·.1)).Nodup)) ⟨sw, nw⟩
      clear h6 sw nw
      go_wp2_with (first
        | (at_builtin; refine wp_appB Tryd.underlying25 infoRR rfl (by decide) _ B (Nat.le_trans (Nat.le_trans hBA BS.out.size) (by simp)) ⟨ws.heap.size, 0, none⟩ 1 1 [.slice va i vc] rfl (one_news ws _ _) (by simp [Value.oneCell']) rfl _ _ rfl _ _ _ rfl o6 rfl (by unfold maxLen; omega) (by omega) ?_; intro v2 w4 O2 G2 E2; obtain ⟨za, zc, hx⟩ := own_form2 O2; subst hx; obtain ⟨⟨t0, t1⟩, hP, hF⟩ := S14.out.2.2 _ w4 O2 G2 E2; have P7 := Lib.hid hP; have F7 := Lib.hid hF; clear O2 G2 E2 hP hF))
      refine bodyPost_ret (v := .tuple #[]) (results_none Tryd.results20 _ _ _) rfl ?_
      exact ⟨rfl, ⟨_, _, _, seg, was, q1, P7.out, SG.out.1, NW.out.1, QC2.out, fun z => NW.out.2 (SG.out.2 z)⟩, (F5.out.trans (Fr.below BS.out hBA)).trans F7.out⟩
end Go.Proofs.YtldplmchgmoopaaDoor
